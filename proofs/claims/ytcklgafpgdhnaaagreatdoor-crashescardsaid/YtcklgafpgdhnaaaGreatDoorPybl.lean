import Derived.Test.YtcklgafpgdhnaaaGreatDoorPybj
set_option maxRecDepth 100000
set_option maxHeartbeats 4000000
set_option linter.unusedSimpArgs false
set_option linter.unusedVariables false
set_option linter.unusedSectionVars false
open Go.Proofs.Tryz
namespace Go.Proofs.YtcklgafpgdhnaaaGreatDoor
open Go.RowKit
def ZB(t:Tr)(s:Ls):Tr×Ls:=if g9 t.h t.n then(t,s)else(⟨t.h,(qr t.h ⟨yu,t.n,t.pl⟩ s).1.2,(qr t.h ⟨yu,t.n,t.pl⟩ s).1.3⟩,(qr t.h ⟨yu,t.n,t.pl⟩ s).2)
theorem Xk(s:Ls):ZB ⟨0,([]:List Pr),0⟩ s=(⟨0,([]:List Pr),0⟩,s):=rfl
theorem ZU{t:Tr}(h:g9 t.h t.n=false)(s:Ls):ZB t s=(⟨t.h,(qr t.h ⟨yu,t.n,t.pl⟩ s).1.2,(qr t.h ⟨yu,t.n,t.pl⟩ s).1.3⟩,(qr t.h ⟨yu,t.n,t.pl⟩ s).2):=by
 unfold ZB;rw[h];rfl
theorem Q9N{h:Nat}{k:Kid h}(s:Ls)(hn:g9 h k.2=false):g9 h (qr h k s).1.2=false:=by
 unfold qr;split
 ·have:=OG (Mv h k.2 s);show g9 h (qg h k.2 s).1=false;rw[this.2.2.2.1];exact hn
 ·exact hn
def TldR(N:Nat)(I:Ls->World->Prop)(J:Bool×Nat->Ending->World->Prop)(s:Ls)(t:Tr)(W:World)(e:Ending)(W':World):Prop:=
 ((∃r',e=.returned (.agg #[.string yu,.int .i64 ((ZB t s).1.pl:Nat),r'])/\TV W' Tru (ZB t s).1 r'/\I (ZB t s).2 W')\/∃b,J b e W'/\Nb0 N b (ZB t s).2)/\KA Tru W W'
theorem QH:(prog.info? 82).map (·.size)=some 3:=by kernel_rfl
theorem Om(w:World):(Instr.alloc 82 true (.tuple #[])).run prog w=.ok (.pointer (some ⟨w.heap.size,0,none⟩)) (w.alloc (.cells #[.string ⟨#[]⟩,.int .i64 0,.nilIface] 82)):=by kernel_rfl
theorem YO{fid:FuncId}{c1 c2:Value}{N:Nat}{I:Ls->World->Prop}{J:Bool×Nat->Ending->World->Prop}{B:Nat}(hL:Lyr fid c1 c2 N I J B)(s:Ls)(t:Tr)(r:Value)(w:World)(h:TV w Tru t r)(hc:CkK t.h ⟨yu,t.n,t.pl⟩)(hI:I s w)(hB:B<=w.heap.size)
  (hfr:∀(s:Ls) (W W':World) (S:List Nat),I s W->y6 S W W'->(∀y∈S,B<=y/\Tg W y 82)->I s W'):Calls prog 79 #[.agg #[.string yu,.int .i64 (t.pl:Nat),r],lfv fid c1 c2] w (TldR N I J s t w):=by
 rcases h with⟨rfl,rfl⟩|⟨h,hn⟩
 ·have U:Hid (I s w):=hI;clear hI;go_enter func79,ntmps79;go_wp2_with(first|(refine yw rfl _ _ (j8 82 (.tmp 0) rfl #[.string yu,.int .i64 0,.nilIface] rfl) ?_;intro g x j c;have u:Hid _:=c;clear c)|(refine yj rfl 4 rfl 82 rfl _ (Om _) ?_;intro p z d f;have M:Hid _:=f;clear f;have i:=d.get x (by simp);have V:p.cell? ⟨w.heap.size,2,none⟩=some .nilIface:=y7 i rfl)|(refine aW rfl 82 (.tmp 2) rfl w.heap.size rfl 82 #[.string yu,.int .i64 0,.nilIface] (0,0) _ i underlying82 rfl QH ?_)|(refine ye rfl 82 (.tmp 4) (.tmp 9) rfl g.heap.size #[.string yu,.int .i64 0,.nilIface] rfl rfl 82 _ z QH rfl (qf (jb _ _ rfl)) ?_;intro C n3 q3))
  refine aR (aI rfl _ C g.heap.size 82 _ (0,0) _ rfl n3 underlying82 rfl QH) rfl ?_;have F:y6 [] w C:=(j.trans d).trans2 q3 (by intro y a;simp at a;subst a;have:=u.out;exact Or.inr (by omega));rw[TldR,Xk];exact⟨Or.inl ⟨_,rfl,Or.inl ⟨rfl,rfl⟩,hL.fresh _ _ _ [] U.out F (by simp)⟩,KA.k0 F⟩
 ·obtain⟨l,m,Y⟩:=h.iface;subst Y;have H:∀y,TT w y->y<w.heap.size:=fun y a=>TT.lt a;have L:=ND.tags h;have T:Hid (∀W,y6 [] w W->Calls prog 116 #[.agg #[.string yu,.int .i64 (t.pl:Nat),.iface l m],lfv fid c1 c2] W (LdR N I J t.h s ⟨yu,t.n,t.pl⟩ (TT w) W)):=fun W o=>Uf hL t.h s ⟨yu,t.n,t.pl⟩ (.iface l m) (TT w) W (ND.kept o (by simp) (fun _ h=>h) L) (fun y a=>bz (H y a) o.size) hc (hL.fresh _ _ _ [] hI o (by simp)) (av hB o.size);have D:Hid _:=ZU hn s;have X:Hid (g9 t.h (qr t.h ⟨yu,t.n,t.pl⟩ s).1.2=false):=Q9N (k:=⟨yu,t.n,t.pl⟩) s hn;clear h L hI hc;go_enter func79,ntmps79;go_wp2_with(first|(refine yw rfl _ _ (j8 82 (.tmp 0) rfl #[.string yu,.int .i64 (t.pl:Nat),.iface l m] rfl) ?_;intro g x j c;have u:Hid _:=c;clear c)|(refine yj rfl 4 rfl 82 rfl _ (Om _) ?_;intro p z d f;have M:Hid _:=f;clear f;have i:=d.get x (by simp);have V:p.cell? ⟨w.heap.size,2,none⟩=some (.iface l m):=y7 i rfl)|(refine aW rfl 80 (.tmp 10) rfl w.heap.size rfl 82 #[.string yu,.int .i64 (t.pl:Nat),.iface l m] (0,0) _ i underlying80 rfl stk ?_))
  refine(T.out p (j.trans d)).mono ?_;rintro e C⟨⟨x',rfl,q,O⟩|⟨b,K,hb⟩,v⟩;rotate_left
  ·obtain⟨ch,rfl⟩:=hL.jp _ _ _ K;exact⟨rfl,Or.inr ⟨b,K,by rw[D.out];exact hb⟩,(KA.k0 (j.trans d)).trans v⟩
  obtain⟨Q,R,Z⟩:=q.iface;have P:=v.row _ _ _ _ trivial (by decide) z;have E:Hid (ND _ _ _ _ _/\I _ _):=⟨q,O⟩
  clear q O;subst Z;go_wp2_with(refine ye rfl 82 (.tmp 4) (.tmp 14) rfl g.heap.size #[.string yu,.int .i64 ((qr t.h ⟨yu,t.n,t.pl⟩ s).1.3:Nat),.iface Q R] rfl rfl 82 _ P QH rfl (qf (jb _ _ rfl)) ?_;intro w4 n4 A)
  refine aR (aI rfl _ w4 g.heap.size 82 _ (0,0) _ rfl n4 underlying82 rfl QH) rfl ?_;have c:=u.out;have f:=M.out;rw[TldR,D.out];refine⟨Or.inl ⟨.iface Q R,rfl,Or.inr ⟨?_,X.out⟩,hfr _ _ _ [g.heap.size] E.out.2 A (by intro y a;simp at a;subst a;exact⟨by omega,_,_,P⟩)⟩,(((KA.k0 (j.trans d)).trans v).new A (by intro y a;simp at a;subst a;omega))⟩;refine ND.kept A ?_ (fun _ _=>trivial) E.out.1;intro y a;simp at a;subst a;rintro(G|G)
  ·have:=H _ G;omega
  ·omega
def UsI(b rv:Nat)(vf:Value)(us:List Nat)(w:World)(seen:List Nat)(W:World):Prop:=SpM W b (seen.reverse++us)/\W.heap[rv]?=some (.cells #[vf] 50 (0,0))/\y6 [b] w W
theorem Q9Q(n b rv:Nat)(us:List Nat)(w:World)(P:List Nat)(hP:(P.reverse++us).Nodup)(tW:∀p∈P,p<n)(hn:n<=1000)(hlen:P.length+us.length<70000)(seen:List Nat)(W:World)(f:ByteArray)(p:Nat)(x:Value)(hok:∃m,P=(seen++ [p])++m)(h:UsI b rv (.func (.func 78) #[.agg #[.int .i64 n,.map (some b)]] #[]) us w seen W):
  Calls prog 113 #[.agg #[.string f,.int .i64 (p:Nat),x],.pointer (some ⟨rv,0,none⟩)] W fun e W'=>e=.returned (.tuple #[])/\UsI b rv (.func (.func 78) #[.agg #[.int .i64 n,.map (some b)]] #[]) us w (seen++ [p]) W'/\y6 [b] W W':=by
 obtain⟨m,c⟩:=hok;have u:=tW p (by rw[c];simp);have q:p∉seen.reverse++us:=by
  rw[c]at hP;simp only[List.reverse_append,List.reverse_cons,aG,List.singleton_append]at hP;exact(dj.1 (cL.1 hP).2.1).1
 have k:(seen.reverse++us).length<70000:=by
  rw[c]at hlen;simp only[ai,List.length_reverse,aB,bO]at hlen⊢;omega
 have d:=(y6.refl [] W).alloc (.cells #[.string f,.int .i64 (p:Nat),x] 80);have a:=h.1.kept d (by simp);have g:=d.get h.2.1 (by simp);have v:(W.alloc (.cells #[.string f,.int .i64 (p:Nat),x] 80)).cell? ⟨rv,0,none⟩=some (.func (.func 78) #[.agg #[.int .i64 n,.map (some b)]] #[]):=y7 g rfl;have o:Hid (Calls _ _ _ _ _):=MT n b (seen.reverse++us) p _ a (by omega) k u q;have l:Hid (∀W',SpM W' b (p::(seen.reverse++us))->y6 [b] (W.alloc (.cells #[.string f,.int .i64 (p:Nat),x] 80)) W'->UsI b rv (.func (.func 78) #[.agg #[.int .i64 n,.map (some b)]] #[]) us w (seen++ [p]) W'/\y6 [b] W W'):=by
  intro W' s i;have t:rv≠b:=a.ne g;refine⟨⟨?_,i.get g (by simp;exact t),(h.2.2.trans2 d (by simp)).trans i⟩,(d.mono (by simp)).trans i⟩;rw[List.reverse_append];exact s
 clear h a g hP c;go_enter func113,ntmps113;go_wp2_with(go_at_call 78;refine o.out.mono ?_;rintro e y⟨rfl,r,j⟩)
 go_end0;exact⟨rfl,l.out _ r j⟩
theorem Q9R(n b:Nat)(us:List Nat)(t:Tr)(r:Value)(w:World)(h:TV w (TT w) t r)(hs:SpM w b us)(hP:((qZ t).reverse++us).Nodup)(tW:∀p∈qZ t,p<n)(hn:n<=1000)(hlen:(qZ t).length+us.length<70000):
  Calls prog 77 #[.agg #[.string yu,.int .i64 (t.pl:Nat),r],.func (.func 78) #[.agg #[.int .i64 n,.map (some b)]] #[]] w fun e w'=>e=.returned (.tuple #[])/\SpM w' b ((qZ t).reverse++us)/\y6 [b] w w':=by
 have S:=h.one;have K:gh t<=1000000:=by rw[<-PD];omega
 have E:Hid (TV w (TT w) t r):=h;have j:Hid (SpM w b us):=hs;have P:=hs.lt;clear h hs;go_enter func77,ntmps77;go_wp2_with(first|(refine yw rfl _ _ (j8 82 (.tmp 0) rfl #[.string yu,.int .i64 (t.pl:Nat),r] rfl) ?_;intro u M O d;have R:Hid _:=d;clear d)|(refine yw rfl _ _ (jZ 50 (.tmp 1) rfl (.func (.func 78) #[.agg #[.int .i64 n,.map (some b)]] #[]) rfl rfl) ?_;intro i N C v;have T:Hid _:=v;clear v;have L:=C.get M (by simp))|(refine aW rfl 82 (.tmp 2) rfl w.heap.size rfl 82 #[.string yu,.int .i64 (t.pl:Nat),r] (0,0) _ L underlying82 rfl QH ?_))
 have c:=O.trans C;have A:Vis 113 (.pointer (some ⟨u.heap.size,0,none⟩)) [b] (UsI b u.heap.size (.func (.func 78) #[.agg #[.int .i64 n,.map (some b)]] #[]) us i) (fun l=>∃m,qZ t=l++m) (TT w) i:=
  ⟨fun _ _=>by kernel_rfl,fun seen W f p x s a=>Q9Q n b u.heap.size us i (qZ t) hP tW hn hlen seen W f p x s a,fun seen W Q a k=>⟨a.1.kept k (by simp),k.get a.2.1 (by simp),a.2.2.trans2 k (by simp)⟩,fun _ _ a=>a.2.2,by intro y g;simp at g;subst g;have:=c.size;omega,by
   intro y g H;simp at g;subst g;rcases H with⟨cs,fr,hh⟩|⟨cs,fr,hh⟩
   ·exact j.out.ne hh rfl
   ·exact j.out.ne hh rfl,fun l m ⟨q,I⟩=>⟨m++q,by rw[I,aG]⟩⟩
 have F:Hid (Calls _ _ _ _ _):=TK A (E.out.k c) (fun z J=>bz (TT.lt J) c.size) K [] i ⟨[],by simp⟩ ⟨by simpa using j.out.kept c (by simp),N,y6.refl _ _⟩;clear A;refine F.out.mono ?_;rintro e D⟨rfl,B,o⟩;have G:Hid (SpM D b ((qZ t).reverse++us)):=by show SpM D b _;simpa using B.1
 clear B;go_wp2;go_end0;exact⟨rfl,G.out,(c.mono (by simp)).trans o⟩
variable {n:Nat}
theorem LyI.frs{a:Nat}{bv:Value}{lK:Value}{b:Nat}{D:Dv}{kr:List Nat}{w0:World}{s:Ls}{W W':World}{S:List Nat}(hI:LyI a bv n lK b D kr w0 s W)(k:y6 S W W')(hS:∀y∈S,w0.heap.size<=y/\∃t,t∉ [91,92,94]/\Tg W y t):LyI a bv n lK b D kr w0 s W':=by
 refine⟨hI.sp.kept k ?_,hI.us,hI.nd,hI.ln,hI.sub,hI.fr,?_,hI.kp.trans2 k fun y c=>Or.inr (hS y c).1⟩
 ·intro d;obtain⟨_,t,_,g,i,c⟩:=hS b d;exact hI.sp.ne c rfl
 ·obtain⟨h,f,e,j,l⟩:=hI.dq;refine⟨h,f,e.kept k ?_,j,l⟩;intro y c d;obtain⟨_,t,ht,g,i,m⟩:=hS y d;exact e.no m ht c
variable {x v:Nat}{r:Value}{w:World}
theorem V0{c:Hd}{t:Tr}(h:Qm x v c t r w):(loadVar 82 ⟨x,4,none⟩).run prog w=.ok (.agg #[.string ⟨#[]⟩,.int .i64 (c.lt.pl:Nat),c.lr]) w:=by
 refine yQ (P:=prog) w x 4 84 82 (qC c v t r).toList [.string ⟨#[]⟩,.int .i64 (c.lt.pl:Nat),c.lr] (0,0) _ h underlying82 rfl stT ?_;intro j u hu;rcases j with _|_|_|j
 ·simpa[qC]using hu
 ·simpa[qC]using hu
 ·simpa[qC]using hu
 ·simp at hu
theorem WJ{c:Hd}{t:Tr}(h:Qm x v c t r w):(loadVar 76 ⟨x,2,none⟩).run prog w=.ok (.agg #[.int .u64 (c.tu:Nat),.int .i64 (c.ro:Nat)]) w:=by
 refine yQ (P:=prog) w x 2 84 76 (qC c v t r).toList [.int .u64 (c.tu:Nat),.int .i64 (c.ro:Nat)] (0,0) _ h underlying76 rfl (by kernel_rfl) ?_;intro j u hu;rcases j with _|_|j
 ·simpa[qC]using hu
 ·simpa[qC]using hu
 ·simp at hu
theorem Qay{q b:Nat}(h:w.heap[q]?=some (.cells #[.int .i64 n,.map (some b)] 131 (0,0))):(loadVar 131 ⟨q,0,none⟩).run prog w=.ok (.agg #[.int .i64 n,.map (some b)]) w:=df w q 131 131 _ (0,0) _ h underlying131 rfl Zl
theorem YY{o:Oper}{a:Act}(fn:Fn)(x:Operand)(ho:o.op=.makeFunc fn #[x] #[])(v:Value)(hx:a.eval x=v):(execOp a.eval o).run prog w=.ok (.value (.func fn #[v] #[])) w:=by
 simp[execOp,ho,hx,M1]
theorem QaA(n b:Nat):(#[.int .i64 n,.map (some b)]:Array Value).all (·.oneCell')=true:=qf (l:= [.int .i64 n,.map (some b)]) (by intro u hu;simp at hu;rcases hu with rfl|rfl<;>rfl)
theorem QaB(w:World):(Instr.alloc 131 true (.tuple #[])).run prog w=.ok (.pointer (some ⟨w.heap.size,0,none⟩)) (w.alloc (.cells #[.int .i64 0,.map none] 131)):=by kernel_rfl
theorem YD(args:Array Value)(w:World):(callFunc 77 args).run prog w=.ok (.enter 77 args) w:=qy func77 (by kernel_rfl) (by kernel_rfl) args w
theorem ZW(args:Array Value)(w:World):(callFunc 83 args).run prog w=.ok (.enter 83 args) w:=qy func83 (by kernel_rfl) (by kernel_rfl) args w
theorem QaD(args:Array Value)(w:World):(callFunc 84 args).run prog w=.ok (.enter 84 args) w:=qy func84 (by kernel_rfl) (by kernel_rfl) args w
theorem QaE(args:Array Value)(w:World):(callFunc 85 args).run prog w=.ok (.enter 85 args) w:=qy func85 (by kernel_rfl) (by kernel_rfl) args w
theorem PQ(p:Nat)(r:Value)(w:World):Calls prog 83 #[.agg #[.string ⟨#[]⟩,.int .i64 (p:Nat),r]] w fun e w'=>e=.returned (.int .i64 p)/\y6 [] w w':=by
 go_enter func83,ntmps83;go_wp2;go_ret;exact⟨rfl,(y6.refl _ _).alloc _⟩
def usL(t:Tr):List Nat:=(qZ t).reverse++ [1,0]
structure LyP(c:Hd)(t:Tr)(n:Nat):Prop where
 nd:(usL c.lt).Nodup
 lt:∀p∈qZ c.lt,p<n
 ck:CkK t.h ⟨yu,t.n,t.pl⟩
def FrW(lt:Tr)(n:Nat)(ws:List (Nat×List UInt8)):Prop:=(∀p∈ws,p.1∉usL lt/\p.1<n/\p.2.length=128)/\ws.length<=n
def yG(c:Hd)(t:Tr):Tr×Ls:=ZB t ⟨usL c.lt,[]⟩
def CvN(cv cv':Value)(m:Nat):Prop:=∀y,cv'.ownBlock=some y->cv.ownBlock=some y\/m<=y
theorem CvN.trans{cv cv' l9:Value}{m m':Nat}(h:CvN cv cv' m)(g:CvN cv' l9 m')(hm:m<=m'):CvN cv l9 m:=fun y b=>(g y b).elim (h y) fun a=>Or.inr (av hm a)
def QaG(x v a n:Nat)(bv cv:Value)(c:Hd)(t:Tr)(D:Dv)(w:World)(W:World):Prop:=
 ∃r' cv' D' fq fy,DQ W a bv n cv' D'/\Rec x v a n ⟨c.s,fq,fy,(yG c t).1,r'⟩ r' (yG c t).1 W/\(y6 (x::yk a bv cv) w W/\CvN cv cv' w.heap.size)/\FrW c.lt n (yG c t).2.ws/\(∀u∈(yG c t).2.us,u<n)/\
  (((yG c t).1.pl=c.lt.pl/\fq=c.tu/\fy=c.ro/\Wrs D (yG c t).2.ws D')\/((yG c t).1.pl≠c.lt.pl/\fq=nxt c.tu/\fy=(yG c t).1.pl/\∃D1 D2 D3,Wrs D (yG c t).2.ws D1/\Fl D1 D2/\Wn D2 (nxt c.tu%2) (blk (nxt c.tu) (yG c t).1.pl) D3/\Fl D3 D'))
def UL(x v a n:Nat)(bv cv:Value)(c:Hd)(r:Value)(t:Tr)(D:Dv)(w:World)(e:Ending)(W:World):Prop:=
 ∃cv' D' fq fy,DQ W a bv n cv' D'/\Rec x v a n ⟨c.s,fq,fy,c.lt,c.lr⟩ r t W/\(y6 (x::yk a bv cv) w W/\CvN cv cv' w.heap.size)/\
  ((∃ws D1,(FrW c.lt n ws/\ws.length<=(yG c t).2.ws.length)/\Wrs D ws D1/\((Er D1 D'/\Thr 6 e W)\/(D'=D1/\Thr 3 e W/\¬Bd n (yG c t).2)))\/
   (Thr 6 e W/\FrW c.lt n (yG c t).2.ws/\∃D1 D2,Wrs D (yG c t).2.ws D1/\Fl D1 D2/\(Er D2 D'\/∃D3,Wn D2 (nxt c.tu%2) (blk (nxt c.tu) (yG c t).1.pl) D3/\Er D3 D')))
def LayR(x v a n:Nat)(bv cv:Value)(c:Hd)(r:Value)(t:Tr)(D:Dv)(w:World)(e:Ending)(W:World):Prop:=
 (e=.returned (.tuple #[])/\QaG x v a n bv cv c t D w W)\/UL x v a n bv cv c r t D w e W
def S4(rs rn x v:Nat)(c:Hd)(t:Tr)(r:Value)(eF:Nat)(r':Value)(W:World):Prop:=W.heap[rs]?=some (.cells #[.pointer (some ⟨x,0,none⟩)] 27 (0,0))/\Qm x v c t r W/\W.heap[rn]?=some (.cells #[.string ⟨#[]⟩,.int .i64 (eF:Nat),r'] 82 (0,0))
theorem No{q eF:Nat}{r':Value}(h:w.heap[q]?=some (.cells #[.string ⟨#[]⟩,.int .i64 (eF:Nat),r'] 82 (0,0))):(loadVar 82 ⟨q,0,none⟩).run prog w=.ok (.agg #[.string ⟨#[]⟩,.int .i64 (eF:Nat),r']) w:=df w q 82 82 _ (0,0) _ h underlying82 rfl QH
theorem QaJ{o:Oper}{a:Act}(x y:Operand)(ho:o.op=.binOp .neq 3 x y 3)(m k:Nat)(hx:a.eval x=.int .i64 (m:Int))(hy:a.eval y=.int .i64 (k:Int)):(execOp a.eval o).run prog w=.ok (.value (.bool (decide (m≠k)))) w:=by
 have b:(binOp .neq 3 (.int .i64 m) (.int .i64 k)).run prog w=.ok (.bool (!decide ((m:Int)=(k:Int)))) w:=rfl;have d:(eqGuard .neq 3 x y (.int .i64 m) (.int .i64 k)).run prog w=.ok () w:=by simp[eqGuard]
 have e:(!decide ((m:Int)=(k:Int)))=decide (m≠k):=by
  by_cases h:m=k
  ·simp[h]
  ·have c:¬(m:Int)=(k:Int):=by omega
   simp[h,c]
 rw[e]at b;simp[execOp,ho,hx,hy,b,d]
def S8(rs rn x eF:Nat)(r':Value)(W:World):Prop:=W.heap[rs]?=some (.cells #[.pointer (some ⟨x,0,none⟩)] 27 (0,0))/\W.heap[rn]?=some (.cells #[.string ⟨#[]⟩,.int .i64 (eF:Nat),r'] 82 (0,0))
theorem Ul{a:Nat}{C:Hd}{t T':Tr}{r':Value}{eF:Nat}{W y:World}(hv:Vol W v a n)(A5:TV W Tru T' r')(mC:Qm x v C t r W)(k:y6 [x] W y)(hs:1<=C.s/\C.s<=3)(hpl:eF=T'.pl)
  (hy:y.heap[x]?=some (.cells (splice (splice (qC C v t r).toList (0+4) [.string ⟨#[]⟩,.int .i64 (eF:Nat),r']) (0+7) [.string ⟨#[]⟩,.int .i64 (eF:Nat),r']).toArray 84 (0,0))):Rec x v a n ⟨C.s,C.tu,C.ro,T',r'⟩ r' T' y:=by
 have g:∀z∈ [x],¬TT W z:=by
  intro z d;simp at d;subst d;rintro(⟨e,f,c⟩|⟨e,f,c⟩)
  ·exact yP mC c (by decide) rfl
  ·exact yP mC c (by decide) rfl
 have b:TV y Tru T' r':=TV.kept A5.tags k g fun _ _=>trivial;subst hpl;exact⟨hy,k.get hv (by simp;exact yP hv mC (by decide)),hs,b,b⟩
theorem QaL{c:Hd}{t:Tr}(hc:CkK t.h ⟨yu,t.n,t.pl⟩)(hn:n<=1000)(hu:∀u∈(yG c t).2.us,u<n):(yG c t).1.pl<65536:=by
 unfold yG at*;unfold ZB at*;split
 ·exact hc.2.1
 ·rename_i a;rw[if_neg a]at hu
  by_cases b:t.pl=0
  ·rw[Z1 (k:=⟨yu,t.n,t.pl⟩) b]at hu⊢;have:=hu _ (aZ ..);simp only at this⊢;omega
  ·rw[Q6 (k:=⟨yu,t.n,t.pl⟩) b];exact hc.2.1
def S2(rs rb x v n b:Nat)(c:Hd)(t:Tr)(r:Value)(W:World):Prop:=W.heap[rs]?=some (.cells #[.pointer (some ⟨x,0,none⟩)] 27 (0,0))/\Qm x v c t r W/\W.heap[rb]?=some (.cells #[.int .i64 n,.map (some b)] 131 (0,0))
theorem Sc(x v a n:Nat)(bv cv:Value)(c:Hd)(r:Value)(t:Tr)(D:Dv)(w:World)(hR:Rec x v a n c r t w)(hd:DQ w a bv n cv D)(hP:LyP c t n)(fM:8<=n)(hn:n<=400)(hq:D.q.length<=800000)(nR:(nxt c.tu:Int)<18446744073709551616)(hT:qM D\/Tab w):
  Calls prog 53 #[.pointer (some ⟨x,0,none⟩)] w (LayR x v a n bv cv c r t D w):=by
 have iN:=M1;have c1:∀w1,y6 [] w w1->w1.cell? ⟨x,1,none⟩=some (.pointer (some ⟨v,0,none⟩)):=fun w1 k=>y7 (k.get hR.row (by simp)) rfl;have IW:Hid (∀W,y6 [] w W->Calls prog 76 #[.pointer (some ⟨v,0,none⟩)] W fun e w'=>e=.returned (.int .i64 n)/\y6 [] W w'):=fun W k=>Nm v a n W (k.get hR.vol (by simp));have lO:Hid _:=c1;have HR:Hid (Rec x v a n c r t w):=hR;have HD:Hid (DQ w a bv n cv D):=hd;have HP:Hid (LyP c t n):=hP;have HT:Hid (qM D\/Tab w):=hT;have HU:Hid ((nxt c.tu:Int)<18446744073709551616/\D.q.length<=800000):=⟨nR,hq⟩
 clear c1 hR hd hP hT nR hq;go_enter func53,ntmps53;go_wp2_with(first|(refine yw rfl _ _ (jZ 27 (.tmp 0) rfl (.pointer (some ⟨x,0,none⟩)) rfl rfl) ?_;intro w1 n1 q1 hs1;have hU:Hid _:=hs1;clear hs1;have zI:w1.cell? ⟨w.heap.size,0,none⟩=some (.pointer (some ⟨x,0,none⟩)):=y7 n1 rfl;have IX:=lO.out w1 q1)|(go_at_call 76;refine(IW.out w1 q1).mono ?_;rintro e w2⟨rfl,q2⟩)|(go_at_call 75;refine(OA n w2 fM).mono ?_;rintro e w3⟨b,rfl,wQ,hb3,q3⟩)|(refine yj rfl 2 rfl 131 rfl _ (QaB _) ?_;intro w4 n4 q4 hs4;have La:Hid _:=hs4;clear hs4)|(refine ye rfl 131 (.tmp 2) (.tmp 9) rfl w3.heap.size #[.int .i64 n,.map (some b)] rfl rfl 131 _ n4 Zl rfl (QaA _ _) ?_;intro w5 n5 q5))
 have hR:=HR.out;have hd:=HD.out;have hP:=HP.out;have hT:=HT.out;have hq:=HU.out.2;have hs1:=hU.out;have eE:=q2.size;have hz3:=q3.size;have K4:y6 [] w w4:=((q1.trans q2).trans q3).trans q4;have K5:y6 [] w w5:=K4.trans2 q5 (by intro y j;simp at j;subst j;exact Or.inr (by omega));have E3:=K5.size;have Fw:=q5.get (q4.get (q3.get (q2.get n1 (by simp)) (by simp)) (by simp)) (by simp;omega);have CE:SpM w5 b [1,0]:=(wQ.kept q4 (by simp)).kept q5 (by simp;have:=wQ.lt;omega);have CF:=hR.k K5;have L:S2 w.heap.size w3.heap.size x v n b c t r w5.drew:=⟨Fw,CF.row,n5⟩
 have hbw:w.heap.size<=b:=by omega
 have hpl:(qZ c.lt).length<=n:=by
  have:=jg n (qZ c.lt).reverse (cL.1 hP.nd).1 (fun u hu=>hP.lt u (cD.1 hu))
  rwa[List.length_reverse]at this
 have HB:Hid (Calls _ _ _ _ _):=Q9R n b [1,0] c.lt c.lr w5.drew (TV.tags (CF.lv.k (y6.refl [] w5).drew)) (CE.kept (y6.refl [] w5).drew (by simp)) hP.nd hP.lt (by omega) (by simp;omega);clear q1 q2 q3 q4 q5 n1 n4 n5 Fw zI IX wQ CF;go_wp2_with fail;refine yo (S2 w.heap.size w3.heap.size x v n b c t r) (by kernel_rfl) ?_;refine uh 0 (.pointer (some ⟨x,0,none⟩)) rfl (fun W l=>y9 27 (.tmp 1) rfl ⟨w.heap.size,0,none⟩ rfl _ (yh underlying27 rfl (y7 l.1 rfl))) L ?_;refine uh 1 (.pointer (some ⟨x,0,none⟩)) rfl (fun W l=>by rfl) L ?_;refine uh 2 (.pointer (some ⟨x,0+4,none⟩)) rfl (fun W l=>yx 84 (.tmp 11) 3 rfl x 0 rfl 4 (by rfl)) L ?_;refine uh 3 (.agg #[.string ⟨#[]⟩,.int .i64 (c.lt.pl:Nat),c.lr]) rfl (fun W l=>y9 82 (.tmp 12) rfl ⟨x,0+4,none⟩ rfl _ (V0 l.2.1)) L ?_;refine uh 4 (.agg #[.int .i64 n,.map (some b)]) rfl (fun W l=>y9 131 (.tmp 2) rfl ⟨w3.heap.size,0,none⟩ rfl _ (Qay l.2.2)) L ?_;refine uh 5 (.func (.func 78) #[.agg #[.int .i64 n,.map (some b)]] #[]) rfl (fun W l=>YY (.func 78) (.tmp 14) rfl _ rfl) L ?_;refine yi (i:=6) (by kernel_rfl) (yp rfl (by rfl) 77 #[.agg #[.string ⟨#[]⟩,.int .i64 (c.lt.pl:Nat),c.lr],.func (.func 78) #[.agg #[.int .i64 n,.map (some b)]] #[]] (yn _ _ _ rfl _ (by simp[Act.eval]) (YD _ _)) _ HB.out ?_);rintro e U⟨rfl,tY,k6⟩;have nb:∀{y:Nat} {B:Array Value} {t:TypeId} {C:Nat×Nat},w5.heap[y]?=some (.cells B t C)->y∉ [b]:=by
  intro y B t C j hm;simp at hm;exact CE.ne j hm
 have F:S2 w.heap.size w3.heap.size x v n b c t r U:=⟨k6.get (w:=w5.drew) L.1 (nb L.1),k6.get (w:=w5.drew) L.2.1 (nb L.2.1),k6.get (w:=w5.drew) L.2.2 (nb L.2.2)⟩
 have K6:y6 [] w U:=K5.drew.trans2 k6 (by intro y j;simp at j;subst j;exact Or.inr hbw);refine⟨_,rfl,F,?_⟩;simp only[zz];refine aK (by kernel_rfl) ?_ _;have zJ:=hR.k K6;have tP:=hd.k0 K6;have zj:qM D\/Tab U:=hT.imp id fun h=>h.k K6;have sE:LyI a bv n cv b D (usL c.lt) U ⟨usL c.lt,[]⟩ U:=by
  refine⟨tY,?_,hP.nd,ay _,fun _ h=>h,by simp,⟨cv,D,tP,Wrs.nil D,fun _ h=>Or.inl h⟩,y6.refl _ _⟩;intro u hu;rcases ar.1 hu with hu|hu
  ·exact hP.lt u (cD.1 hu)
  ·simp at hu;omega
 have hL:=Q9L x v a n w3.heap.size w.heap.size b bv cv D (usL c.lt) (usL c.lt) U c t r F.2.2 F.1 F.2.1 zJ.vol tP tY (by omega) (by omega) zj;have IY:Hid (Calls _ _ _ _ _):=YO hL ⟨usL c.lt,[]⟩ t r U zJ.tv hP.ck sE (ag _) (fun s W W' S hI k L=>LyI.frs hI k fun y j=>⟨(L y j).1,_,by decide,(L y j).2⟩);have Q:Hid (∀{y:Nat} {B:Array Value} {t:TypeId} {C:Nat×Nat},U.heap[y]?=some (.cells B t C)->t∉ [91,92,94]->y∉b::yk a bv cv):=by
  intro y B t C j ht hm;rcases an.1 hm with rfl|hm
  ·exact tY.ne j rfl
  ·exact tP.no j ht hm
 have HSub:Hid (∀y∈b::yk a bv cv,y∈x::yk a bv cv\/w.heap.size<=y):=by
  intro y j;rcases an.1 j with rfl|j
  ·exact Or.inr hbw
  ·exact Or.inl (aq _ j)
 have c60:U.cell? ⟨w.heap.size,0,none⟩=some (.pointer (some ⟨x,0,none⟩)):=y7 F.1 rfl;have zK:=NT F.2.1;clear L HB CE nb k6 sE;go_wp2_with(first|(refine y8 rfl 82 (.tmp 19) rfl ⟨x,7,none⟩ rfl _ zK ?_))
 refine IY.out.mono ?_;rintro e m⟨⟨g,rfl,wR,rz⟩|⟨bx,hJ,wT⟩,ny⟩;rotate_left
 ·obtain⟨ws,cv',D1,D',IZ,hwr,eC,hfr,iP,Fx⟩:=hJ;have sD:Rec x v a n c r t m:=zJ.kept Fx (Q.out F.2.1 (by decide)) fun y j=>⟨fun⟨B,C,A⟩=>Q.out A (by decide) j,fun ht=>by rcases ht with⟨B,C,A⟩|⟨B,C,A⟩<;>exact Q.out A (by decide) j⟩
  have K7:y6 (x::yk a bv cv) w m:=(K6.mono (by simp)).trans2 Fx (HSub.out);have FIN:∀en,(Er D1 D'/\Thr 6 en m\/D'=D1/\Thr 3 en m/\¬Bd n (yG c t).2)->LayR x v a n bv cv c r t D w en m:=fun en hc=>Or.inr ⟨cv',D',c.tu,c.ro,IZ,sD,⟨K7,fun y j=>(iP y j).imp id fun h=>av K6.size h⟩,Or.inl ⟨ws,D1,⟨hfr.1,by rw[hfr.2];exact wT.2⟩,hwr,hc⟩⟩;rcases eC with⟨_,sA,fN⟩|⟨mr,sA,fN⟩
  ·obtain⟨f,o,rfl,hf⟩:=fN.ex;exact⟨rfl,FIN _ (Or.inl ⟨sA,fN⟩)⟩
  ·obtain⟨f,o,rfl,hf⟩:=fN.ex;exact⟨rfl,FIN _ (Or.inr ⟨sA,fN,wT.1 mr⟩)⟩
 have fI:=wR.one;have HX:Hid (TV m Tru (yG c t).1 g/\LyI a bv n cv b D (usL c.lt) U (yG c t).2 m):=⟨wR,rz⟩
 have Fy:=ny.row _ _ _ _ trivial (by decide) F.1;have Fz:=ny.row _ _ _ _ trivial (by decide) F.2.1;have Ih:=ny.size;obtain⟨d,epl⟩:∃d,d=(yG c t).1.pl:=⟨_,rfl⟩
 have hpl7:(ZB t ⟨usL c.lt,[]⟩).1.pl=d:=epl.symm;rw[hpl7];have tZ:Hid (d=(yG c t).1.pl):=epl;clear wR rz hpl7 epl;go_wp2_with(first|(refine yj rfl 3 rfl 82 rfl _ (Om _) ?_;intro w8 n8 q8 FA;have Lb:Hid _:=FA;clear FA)|(refine ye rfl 82 (.tmp 3) (.tmp 22) rfl m.heap.size #[.string yu,.int .i64 (d:Nat),g] rfl rfl 82 _ n8 QH rfl (qf (jb _ _ fI)) ?_;intro w9 n9 q9))
 have R:y6 [] m w9:=q8.trans2 q9 (by intro y j;simp at j;subst j;exact Or.inr (ag _));have FB:=R.get Fy (by simp);have FC:Qm x v c t r w9:=R.get Fz (by simp);have FD:w9.heap[m.heap.size]?=some (.cells #[.string ⟨#[]⟩,.int .i64 (d:Nat),g] 82 (0,0)):=n9;have CG:TV w9 Tru (yG c t).1 g/\LyI a bv n cv b D (usL c.lt) U (yG c t).2 w9:=⟨HX.out.1.k R,LyI.frs HX.out.2 R (by simp)⟩
 have hK9:KA Tru U w9:=ny.trans (KA.k0 R);clear R q8 q9 n8 n9 Fy Fz HX ny;have mD:S4 w.heap.size m.heap.size x v c t r d g w9.drew:=⟨FB,FC,FD⟩
 go_wp2_with fail;refine yo (S4 w.heap.size m.heap.size x v c t r d g) (by kernel_rfl) ?_;refine uh 0 (.agg #[.string ⟨#[]⟩,.int .i64 (d:Nat),g]) rfl (fun W l=>y9 82 (.tmp 3) rfl ⟨m.heap.size,0,none⟩ rfl _ (No l.2.2)) mD ?_;refine uh 2 (.pointer (some ⟨x,0,none⟩)) rfl (fun W l=>y9 27 (.tmp 1) rfl ⟨w.heap.size,0,none⟩ rfl _ (yh underlying27 rfl (y7 l.1 rfl))) mD ?_;refine uh 3 (.pointer (some ⟨x,0,none⟩)) rfl (fun W l=>by rfl) mD ?_;refine uh 4 (.pointer (some ⟨x,0+4,none⟩)) rfl (fun W l=>yx 84 (.tmp 26) 3 rfl x 0 rfl 4 (by rfl)) mD ?_;refine uh 5 (.agg #[.string ⟨#[]⟩,.int .i64 (c.lt.pl:Nat),c.lr]) rfl (fun W l=>y9 82 (.tmp 27) rfl ⟨x,0+4,none⟩ rfl _ (V0 l.2.1)) mD ?_;refine yi (i:=1) (by kernel_rfl) (yp rfl (by rfl) 83 #[.agg #[.string ⟨#[]⟩,.int .i64 (d:Nat),g]] (yn _ _ _ rfl _ (by simp[Act.eval]) (ZW _ _)) _ (PQ d g _) ?_);rintro e wa⟨rfl,ka⟩;have hSa:S4 w.heap.size m.heap.size x v c t r d g wa:=⟨ka.get mD.1 (by simp),ka.get mD.2.1 (by simp),ka.get mD.2.2 (by simp)⟩
 refine⟨_,rfl,hSa,?_⟩;simp only[zz];refine yi (i:=6) (by kernel_rfl) (yp rfl (by rfl) 83 #[.agg #[.string ⟨#[]⟩,.int .i64 (c.lt.pl:Nat),c.lr]] (yn _ _ _ rfl _ (by simp[Act.eval]) (ZW _ _)) _ (PQ c.lt.pl c.lr _) ?_);rintro e G⟨rfl,kb⟩;have rW:S4 w.heap.size m.heap.size x v c t r d g G:=⟨kb.get hSa.1 (by simp),kb.get hSa.2.1 (by simp),kb.get hSa.2.2 (by simp)⟩
 refine⟨_,rfl,rW,?_⟩;simp only[zz];refine yi (i:=7) (by kernel_rfl) (yM rfl (by rfl) (.bool (decide (d≠c.lt.pl))) _ (QaJ (.tmp 24) (.tmp 29) rfl d c.lt.pl rfl rfl) ⟨rW,?_⟩);simp only[zz];have Kb:y6 [] w9 G:=((y6.refl [] w9).drew.trans ka).trans kb;have Y:TV G Tru (yG c t).1 g/\LyI a bv n cv b D (usL c.lt) U (yG c t).2 G:=⟨CG.1.k Kb,LyI.frs CG.2 Kb (by simp)⟩
 clear mD hSa ka kb FB FC FD CG;have vt:=Y.2.kp;have CH:Rec x v a n c r t G:=zJ.kept vt (Q.out F.2.1 (by decide)) fun y j=>⟨fun⟨B,C,A⟩=>Q.out A (by decide) j,fun ht=>by rcases ht with⟨B,C,A⟩|⟨B,C,A⟩<;>exact Q.out A (by decide) j⟩
 have KWb:y6 (x::yk a bv cv) w G:=(K6.mono (by simp)).trans2 vt HSub.out;obtain⟨cvb,Db,I,wU,sF⟩:=Y.2.dq;have zL:Hid (CvN cv cvb w.heap.size):=fun y j=>(sF y j).imp id fun h=>av K6.size h;have sG:FrW c.lt n (yG c t).2.ws:=⟨Y.2.fr,by have h1:=Y.2.ln;have h2:=jg n _ Y.2.nd Y.2.us;omega⟩
 have vu:=Y.2.us;have FE:Db.q.length<=1000000:=by
  have h1:=Y.2.ln;have h2:=jg n _ Y.2.nd Y.2.us;rw[wU.q,ai];omega
 have CI:=QaL hP.ck (by omega) vu;rw[<-tZ.out]at CI;have I0:=K6.size;have zM:Hid (TV G Tru (yG c t).1 g):=Y.1;have FF:Hid (Rec x v a n c r t G):=CH;have pV:Vol G v a n:=CH.vol;have pF:qM Db\/Tab G:=zj.imp wU.good.2 fun h=>h.ka (hK9.trans (KA.k0 Kb));clear Y CH vt zJ hR hd tP hT zj hL zK c60 tY
 by_cases J:d=c.lt.pl
 focus
  rw[show decide (d≠c.lt.pl)=false from ct (by simpa using J)];refine aK (by kernel_rfl) ?_ _;have N:=rW.1;have T:=rW.2.1;have oF:=rW.2.2;clear rW;go_wp2_with fail;have H:S8 w.heap.size m.heap.size x d g G.drew:=⟨N,oF⟩
 rotate_left
 focus
  rw[show decide (d≠c.lt.pl)=true from bM J];refine aK (by kernel_rfl) ?_ _;have ua:G.cell? ⟨w.heap.size,0,none⟩=some (.pointer (some ⟨x,0,none⟩)):=y7 rW.1 rfl;have I1:G.cell? ⟨x,1,none⟩=some (.pointer (some ⟨v,0,none⟩)):=y7 rW.2.1 rfl;have rC:Hid (S4 w.heap.size m.heap.size x v c t r d g G):=rW;clear rW;go_wp2_with fail;refine(On v a bv n cvb Db G pV I (by omega) FE).mono ?_;rintro e wc⟨M,Dc,A7,kc,vw,eC⟩;have A8:=I.ka kc;have uc:Rec x v a n c r t wc:=FF.out.kept kc (I.no rC.out.2.1 (by decide)) fun y j=>⟨fun⟨B,C,A⟩=>I.no A (by decide) j,fun ht=>by rcases ht with⟨B,C,A⟩|⟨B,C,A⟩<;>exact I.no A (by decide) j⟩
  have KWc:y6 (x::yk a bv cv) w wc:=KWb.trans2 kc (by
   intro y j;rcases QR sF y j with e|e
   ·exact Or.inl (aq _ e)
   ·exact Or.inr (by omega))
  rcases eC with⟨hfl,rfl⟩|⟨sA,fN⟩
  rotate_left
  ·obtain⟨f,o,rfl,hf⟩:=fN.ex;exact⟨rfl,Or.inr ⟨M,Dc,c.tu,c.ro,A7,uc,⟨KWc,zL.out.trans vw KWb.size⟩,Or.inl ⟨_,Db,⟨sG,ag _⟩,wU,Or.inl ⟨sA,fN⟩⟩⟩⟩
  have p:S4 w.heap.size m.heap.size x v c t r d g wc.drew:=⟨A8.row _ _ _ _ trivial (by decide) rC.out.1,A8.row _ _ _ _ trivial (by decide) rC.out.2.1,A8.row _ _ _ _ trivial (by decide) rC.out.2.2⟩
  have htvc:TV wc Tru (yG c t).1 g:=TV.kept zM.out.tags kc (fun y j ht=>by rcases ht with⟨B,C,A⟩|⟨B,C,A⟩<;>exact I.no A (by decide) j) fun _ _=>trivial;have FG:qM Dc\/Tab wc:=pF.imp hfl.good.2 fun h=>h.ka A8;have ud:∀y,M.ownBlock=some y->cv.ownBlock=some y\/w.heap.size<=y:=by
   intro y j;rcases vw y j with e|e
   ·rcases sF y e with e|e
    ·exact Or.inl e
    ·exact Or.inr (by omega)
   ·have h1:=hK9.size;have h2:=Kb.size;exact Or.inr (by omega)
  have hqc:Dc.q.length=0:=by rw[hfl.q];rfl
  clear ua I1 I kc vw sF pF FE;go_wp2_with fail;refine gu (S4 w.heap.size m.heap.size x v c t r d g) 10 (by kernel_rfl) ?_;refine uk 0 (.pointer (some ⟨x,0,none⟩)) rfl (fun W l=>y9 27 (.tmp 1) rfl ⟨w.heap.size,0,none⟩ rfl _ (yh underlying27 rfl (y7 l.1 rfl))) p ?_;refine uk 1 (.pointer (some ⟨x,0,none⟩)) rfl (fun W l=>y9 27 (.tmp 1) rfl ⟨w.heap.size,0,none⟩ rfl _ (yh underlying27 rfl (y7 l.1 rfl))) p ?_;refine uk 2 (.pointer (some ⟨x,0,none⟩)) rfl (fun W l=>by rfl) p ?_;refine uk 3 (.pointer (some ⟨x,0+2,none⟩)) rfl (fun W l=>yx 84 (.tmp 38) 2 rfl x 0 rfl 2 (by rfl)) p ?_;refine uk 4 (.agg #[.int .u64 (c.tu:Nat),.int .i64 (c.ro:Nat)]) rfl (fun W l=>y9 76 (.tmp 39) rfl ⟨x,0+2,none⟩ rfl _ (WJ l.2.1)) p ?_;refine uk 5 ((.agg #[.string ⟨#[]⟩,.int .i64 (d:Nat),g])) rfl (fun W l=>y9 82 (.tmp 3) rfl ⟨m.heap.size,0,none⟩ rfl _ (No l.2.2)) p ?_;refine qI (i:=6) (by kernel_rfl) (yp rfl (by rfl) 83 #[(.agg #[.string ⟨#[]⟩,.int .i64 (d:Nat),g])] (yn _ _ _ rfl _ (by simp[Act.eval]) (ZW _ _)) _ (PQ d g _) ?_);rintro e wd⟨rfl,kd⟩;have iI:S4 w.heap.size m.heap.size x v c t r d g wd:=⟨kd.get p.1 (by simp),kd.get p.2.1 (by simp),kd.get p.2.2 (by simp)⟩
  refine⟨_,rfl,fun _=>iI,?_⟩;simp only[zz];refine qI (i:=7) (by kernel_rfl) (yp rfl (by rfl) 84 #[.agg #[.int .u64 (c.tu:Nat),.int .i64 (c.ro:Nat)],.int .i64 (d:Nat)] (yn _ _ _ rfl _ (by simp[Act.eval]) (QaD _ _)) _ (PI c.tu c.ro d _) ?_);rintro e we⟨rfl,ke⟩;have Z:S4 w.heap.size m.heap.size x v c t r d g we:=⟨ke.get iI.1 (by simp),ke.get iI.2.1 (by simp),ke.get iI.2.2 (by simp)⟩
  refine⟨_,rfl,fun _=>Z,?_⟩;simp only[zz];refine qI (i:=8) (by kernel_rfl) (yM rfl (by rfl) (.pointer (some ⟨x,0,none⟩)) we (by rfl) ⟨fun _=>Z,?_⟩);simp only[zz];refine uk 9 (.pointer (some ⟨x,0+2,none⟩)) rfl (fun W l=>yx 84 (.tmp 44) 2 rfl x 0 rfl 2 (by rfl)) Z ?_;have Ke:y6 [] wc we:=((y6.refl [] wc).drew.trans kd).trans ke;have hst:=yI (P:=prog) we x (0+2) 84 76 (qC c v t r).toList [.int .u64 (nxt c.tu:Nat),.int .i64 (d:Nat)] Z.2.1 (by kernel_rfl) (by show 2+2<=10;omega) (by intro u hu;simp at hu;rcases hu with rfl|rfl<;>rfl);have kf:y6 [x] we (we.setRow x (splice (qC c v t r).toList (0+2) [.int .u64 (nxt c.tu:Nat),.int .i64 (d:Nat)]).toArray):=(y6.refl _ _).setRow (Or.inl (by simp)) _;have rxf:Qm x v ⟨c.s,nxt c.tu,d,c.lt,c.lr⟩ t r (we.setRow x (splice (qC c v t r).toList (0+2) [.int .u64 (nxt c.tu:Nat),.int .i64 (d:Nat)]).toArray):=bH _ _ _ _ _ _ Z.2.1;have rsf:=kf.get Z.1 (by simp;exact yP Z.1 Z.2.1 (by decide));have rnf:=kf.get Z.2.2 (by simp;exact yP Z.2.2 Z.2.1 (by decide));generalize we.setRow x (splice (qC c v t r).toList (0+2) [.int .u64 (nxt c.tu:Nat),.int .i64 (d:Nat)]).toArray=wf at*;refine qI (i:=10) (by kernel_rfl) (qo rfl rfl wf (yK 76 (.tmp 45) (.tmp 43) rfl ⟨x,0+2,none⟩ rfl (.agg #[.int .u64 (nxt c.tu:Nat),.int .i64 (d:Nat)]) rfl hst) ⟨fun h=>absurd rfl h,?_⟩);simp only[zz];refine gq (by kernel_rfl) ?_ _;have K:y6 [x] wc wf:=(Ke.mono (by simp)).trans kf;have nxd:x∉yk a bv M:=A7.no p.2.1 (by decide);have iK:DQ wf a bv n M Dc:=A7.k1 K nxd;have sH:∀z∈ [x],¬TT wc z:=by
   intro z hz;simp at hz;subst hz;rintro(⟨B,C,A⟩|⟨B,C,A⟩)
   ·exact yP p.2.1 A (by decide) rfl
   ·exact yP p.2.1 A (by decide) rfl
  have hvf:Vol wf v a n:=K.get uc.vol (by simp;exact yP uc.vol uc.row (by decide));have FH:Rec x v a n ⟨c.s,nxt c.tu,d,c.lt,c.lr⟩ r t wf:=⟨rxf,hvf,uc.st,TV.kept uc.lv.tags K sH fun _ _=>trivial,TV.kept uc.tv.tags K sH fun _ _=>trivial⟩
  have htvf:TV wf Tru (yG c t).1 g:=TV.kept htvc.tags K sH fun _ _=>trivial;have FI:qM Dc\/Tab wf:=FG.imp id fun h=>h.kept K (by simp;exact h.ne p.2.1 (by decide));have FJ:y6 (x::yk a bv cv) w wf:=KWc.trans2 K (by intro y j;simp at j;subst j;exact Or.inl (by simp));have X:S4 w.heap.size m.heap.size x v ⟨c.s,nxt c.tu,d,c.lt,c.lr⟩ t r d g wf.drew:=⟨rsf,rxf,rnf⟩
  have HHL:Hid (Calls _ _ _ _ _):=PJ v a bv n M Dc (nxt c.tu) d wf.drew hvf iK.drew fM (by omega) (by omega) HU.out.1 (by omega) (FI.imp id fun h=>h.k (y6.refl [] wf).drew);have I2:Hid (Rec x v a n ⟨c.s,nxt c.tu,d,c.lt,c.lr⟩ r t wf):=FH;have CJ:Hid (TV wf Tru (yG c t).1 g):=htvf;clear p iI Z kd ke kf hst rsf rnf uc A7 htvc FH htvf Ke K FI FG sH;go_wp2_with fail;refine yo (S4 w.heap.size m.heap.size x v ⟨c.s,nxt c.tu,d,c.lt,c.lr⟩ t r d g) (by kernel_rfl) ?_;refine uh 0 (.pointer (some ⟨x,0,none⟩)) rfl (fun W l=>y9 27 (.tmp 1) rfl ⟨w.heap.size,0,none⟩ rfl _ (yh underlying27 rfl (y7 l.1 rfl))) X ?_;refine uh 1 (.pointer (some ⟨x,0,none⟩)) rfl (fun W l=>by rfl) X ?_;refine uh 2 (.pointer (some ⟨x,0+1,none⟩)) rfl (fun W l=>yx 84 (.tmp 47) 1 rfl x 0 rfl 1 (by rfl)) X ?_;refine uh 3 (.pointer (some ⟨v,0,none⟩)) rfl (fun W l=>y9 73 (.tmp 48) rfl ⟨x,0+1,none⟩ rfl _ (yh underlying73 rfl (y7 l.2.1 rfl))) X ?_;refine uh 4 (.pointer (some ⟨x,0,none⟩)) rfl (fun W l=>y9 27 (.tmp 1) rfl ⟨w.heap.size,0,none⟩ rfl _ (yh underlying27 rfl (y7 l.1 rfl))) X ?_;refine uh 5 (.pointer (some ⟨x,0,none⟩)) rfl (fun W l=>by rfl) X ?_;refine uh 6 (.pointer (some ⟨x,0+2,none⟩)) rfl (fun W l=>yx 84 (.tmp 51) 2 rfl x 0 rfl 2 (by rfl)) X ?_;refine uh 7 (.agg #[.int .u64 (nxt c.tu:Nat),.int .i64 (d:Nat)]) rfl (fun W l=>y9 76 (.tmp 52) rfl ⟨x,0+2,none⟩ rfl _ (WJ l.2.1)) X ?_;refine yi (i:=8) (by kernel_rfl) (jO rfl (by rfl) 85 #[.pointer (some ⟨v,0,none⟩),.agg #[.int .u64 (nxt c.tu:Nat),.int .i64 (d:Nat)]] (yn _ _ _ rfl _ (by simp[Act.eval]) (QaE _ _)) _ HHL.out ?_);rintro e O⟨cvg,Dg,CK,kg,CL,eC⟩;have zN:Hid (CvN cv cvg w.heap.size):=CvN.trans (cv':=M) ud CL FJ.size;have zO:y6 (yk a bv M) wf O:=(y6.refl _ _).drew.trans kg;have A9:=iK.ka zO;have CM:Rec x v a n ⟨c.s,nxt c.tu,d,c.lt,c.lr⟩ r t O:=I2.out.kept zO (iK.no rxf (by decide)) fun y j=>⟨fun⟨B,C,A⟩=>iK.no A (by decide) j,fun ht=>by rcases ht with⟨B,C,A⟩|⟨B,C,A⟩<;>exact iK.no A (by decide) j⟩
  have KWg:y6 (x::yk a bv cv) w O:=FJ.trans2 zO (by
   intro y j;rcases QR ud y j with e|e
   ·exact Or.inl (aq _ e)
   ·exact Or.inr e)
  rcases eC with⟨D3,iH,lU,rfl⟩|⟨fN,mF⟩
  rotate_left
  ·obtain⟨f,o,rfl,hf⟩:=fN.ex;refine Or.inr ⟨_,rfl,rfl,Or.inr ⟨cvg,Dg,nxt c.tu,d,CK,CM,⟨KWg,zN.out⟩,Or.inr ⟨fN,sG,Db,Dc,wU,hfl,?_⟩⟩⟩;rw[<-tZ.out];exact mF
  have hSg:S4 w.heap.size m.heap.size x v ⟨c.s,nxt c.tu,d,c.lt,c.lr⟩ t r d g O:=⟨A9.row _ _ _ _ trivial (by decide) X.1,A9.row _ _ _ _ trivial (by decide) X.2.1,A9.row _ _ _ _ trivial (by decide) X.2.2⟩
  have htvg:TV O Tru (yG c t).1 g:=TV.kept CJ.out.tags zO (fun y j ht=>by rcases ht with⟨B,C,A⟩|⟨B,C,A⟩<;>exact iK.no A (by decide) j) fun _ _=>trivial;refine Or.inl ⟨_,rfl,hSg,?_⟩;simp only[zz];refine aK (by kernel_rfl) ?_ _;have N:=hSg.1;have T:=hSg.2.1;have oF:=hSg.2.2;have CN:Hid (TV O Tru (yG c t).1 g):=htvg;have FL:Hid (Rec x v a n ⟨c.s,nxt c.tu,d,c.lt,c.lr⟩ r t O):=CM;clear hSg X htvg CM kg zO A9 iK;go_wp2_with fail;have H:S8 w.heap.size m.heap.size x d g O.drew:=⟨N,oF⟩
 rotate_left
 all_goals
  refine yo (S8 w.heap.size m.heap.size x d g) (by kernel_rfl) ?_;refine uh 0 (.pointer (some ⟨x,0,none⟩)) rfl (fun W l=>y9 27 (.tmp 1) rfl ⟨w.heap.size,0,none⟩ rfl _ (yh underlying27 rfl (y7 l.1 rfl))) H ?_;refine uh 1 (.pointer (some ⟨x,0,none⟩)) rfl (fun W l=>y9 27 (.tmp 1) rfl ⟨w.heap.size,0,none⟩ rfl _ (yh underlying27 rfl (y7 l.1 rfl))) H ?_;refine uh 2 ((.agg #[.string ⟨#[]⟩,.int .i64 (d:Nat),g])) rfl (fun W l=>y9 82 (.tmp 3) rfl ⟨m.heap.size,0,none⟩ rfl _ (No l.2)) H ?_;refine uh 3 ((.agg #[.string ⟨#[]⟩,.int .i64 (d:Nat),g])) rfl (fun W l=>y9 82 (.tmp 3) rfl ⟨m.heap.size,0,none⟩ rfl _ (No l.2)) H ?_;refine uh 4 (.pointer (some ⟨x,0,none⟩)) rfl (fun W l=>by rfl) H ?_;refine uh 5 (.pointer (some ⟨x,0+4,none⟩)) rfl (fun W l=>yx 84 (.tmp 59) 3 rfl x 0 rfl 4 (by rfl)) H ?_
 focus
  have sI:=yI (P:=prog) G.drew x (0+4) 84 82 (qC c v t r).toList [.string ⟨#[]⟩,.int .i64 (d:Nat),g] T QH (by show 4+3<=10;omega) (jb _ _ fI);have sJ:y6 [x] G (G.drew.setRow x (splice (qC c v t r).toList (0+4) [.string ⟨#[]⟩,.int .i64 (d:Nat),g]).toArray):=((y6.refl _ _).drew).setRow (Or.inl (by simp)) _;have E:(G.drew.setRow x (splice (qC c v t r).toList (0+4) [.string ⟨#[]⟩,.int .i64 (d:Nat),g]).toArray).heap[x]?=some (.cells (splice (qC c v t r).toList (0+4) [.string ⟨#[]⟩,.int .i64 (d:Nat),g]).toArray 84 (0,0)):=bH _ _ _ _ _ _ T;have sK:=sJ.get N (by simp;exact yP N T (by decide));have sM:=sJ.get oF (by simp;exact yP oF T (by decide));generalize G.drew.setRow x (splice (qC c v t r).toList (0+4) [.string ⟨#[]⟩,.int .i64 (d:Nat),g]).toArray=V at*
 rotate_left
 focus
  have sI:=yI (P:=prog) O.drew x (0+4) 84 82 (qC ⟨c.s,nxt c.tu,d,c.lt,c.lr⟩ v t r).toList [.string ⟨#[]⟩,.int .i64 (d:Nat),g] T QH (by show 4+3<=10;omega) (jb _ _ fI);have sJ:y6 [x] O (O.drew.setRow x (splice (qC ⟨c.s,nxt c.tu,d,c.lt,c.lr⟩ v t r).toList (0+4) [.string ⟨#[]⟩,.int .i64 (d:Nat),g]).toArray):=((y6.refl _ _).drew).setRow (Or.inl (by simp)) _;have E:(O.drew.setRow x (splice (qC ⟨c.s,nxt c.tu,d,c.lt,c.lr⟩ v t r).toList (0+4) [.string ⟨#[]⟩,.int .i64 (d:Nat),g]).toArray).heap[x]?=some (.cells (splice (qC ⟨c.s,nxt c.tu,d,c.lt,c.lr⟩ v t r).toList (0+4) [.string ⟨#[]⟩,.int .i64 (d:Nat),g]).toArray 84 (0,0)):=bH _ _ _ _ _ _ T;have sK:=sJ.get N (by simp;exact yP N T (by decide));have sM:=sJ.get oF (by simp;exact yP oF T (by decide));generalize O.drew.setRow x (splice (qC ⟨c.s,nxt c.tu,d,c.lt,c.lr⟩ v t r).toList (0+4) [.string ⟨#[]⟩,.int .i64 (d:Nat),g]).toArray=V at*
 rotate_left
 all_goals
  refine yi (i:=6) (by kernel_rfl) (qo rfl rfl V (yK 82 (.tmp 60) (.tmp 57) rfl ⟨x,0+4,none⟩ rfl (.agg #[.string ⟨#[]⟩,.int .i64 (d:Nat),g]) rfl sI) ⟨⟨sK,sM⟩,?_⟩);simp only[zz];have Ba:S8 w.heap.size m.heap.size x d g V:=⟨sK,sM⟩
  refine uh 7 (.pointer (some ⟨x,0,none⟩)) rfl (fun W l=>by rfl) Ba ?_;refine uh 8 (.pointer (some ⟨x,0+7,none⟩)) rfl (fun W l=>yx 84 (.tmp 61) 4 rfl x 0 rfl 7 (by rfl)) Ba ?_
 focus
  have mG:=yI (P:=prog) V x (0+7) 84 82 (splice (qC c v t r).toList (0+4) [.string ⟨#[]⟩,.int .i64 (d:Nat),g]) [.string ⟨#[]⟩,.int .i64 (d:Nat),g] E QH (by show 7+3<=10;omega) (jb _ _ fI);have sN:y6 [x] V (V.setRow x (splice (splice (qC c v t r).toList (0+4) [.string ⟨#[]⟩,.int .i64 (d:Nat),g]) (0+7) [.string ⟨#[]⟩,.int .i64 (d:Nat),g]).toArray):=(y6.refl _ _).setRow (Or.inl (by simp)) _;have hx2:(V.setRow x (splice (splice (qC c v t r).toList (0+4) [.string ⟨#[]⟩,.int .i64 (d:Nat),g]) (0+7) [.string ⟨#[]⟩,.int .i64 (d:Nat),g]).toArray).heap[x]?=some (.cells (splice (splice (qC c v t r).toList (0+4) [.string ⟨#[]⟩,.int .i64 (d:Nat),g]) (0+7) [.string ⟨#[]⟩,.int .i64 (d:Nat),g]).toArray 84 (0,0)):=bH _ _ _ _ _ _ E;have tV:=sN.get sK (by simp;exact yP sK E (by decide));have Bb:=sN.get sM (by simp;exact yP sM E (by decide));generalize V.setRow x (splice (splice (qC c v t r).toList (0+4) [.string ⟨#[]⟩,.int .i64 (d:Nat),g]) (0+7) [.string ⟨#[]⟩,.int .i64 (d:Nat),g]).toArray=y2 at*
 rotate_left
 focus
  have mG:=yI (P:=prog) V x (0+7) 84 82 (splice (qC ⟨c.s,nxt c.tu,d,c.lt,c.lr⟩ v t r).toList (0+4) [.string ⟨#[]⟩,.int .i64 (d:Nat),g]) [.string ⟨#[]⟩,.int .i64 (d:Nat),g] E QH (by show 7+3<=10;omega) (jb _ _ fI);have sN:y6 [x] V (V.setRow x (splice (splice (qC ⟨c.s,nxt c.tu,d,c.lt,c.lr⟩ v t r).toList (0+4) [.string ⟨#[]⟩,.int .i64 (d:Nat),g]) (0+7) [.string ⟨#[]⟩,.int .i64 (d:Nat),g]).toArray):=(y6.refl _ _).setRow (Or.inl (by simp)) _;have hx2:(V.setRow x (splice (splice (qC ⟨c.s,nxt c.tu,d,c.lt,c.lr⟩ v t r).toList (0+4) [.string ⟨#[]⟩,.int .i64 (d:Nat),g]) (0+7) [.string ⟨#[]⟩,.int .i64 (d:Nat),g]).toArray).heap[x]?=some (.cells (splice (splice (qC ⟨c.s,nxt c.tu,d,c.lt,c.lr⟩ v t r).toList (0+4) [.string ⟨#[]⟩,.int .i64 (d:Nat),g]) (0+7) [.string ⟨#[]⟩,.int .i64 (d:Nat),g]).toArray 84 (0,0)):=bH _ _ _ _ _ _ E;have tV:=sN.get sK (by simp;exact yP sK E (by decide));have Bb:=sN.get sM (by simp;exact yP sM E (by decide));generalize V.setRow x (splice (splice (qC ⟨c.s,nxt c.tu,d,c.lt,c.lr⟩ v t r).toList (0+4) [.string ⟨#[]⟩,.int .i64 (d:Nat),g]) (0+7) [.string ⟨#[]⟩,.int .i64 (d:Nat),g]).toArray=y2 at*
 rotate_left
 all_goals
  refine yi (i:=9) (by kernel_rfl) (qo rfl rfl y2 (yK 82 (.tmp 62) (.tmp 58) rfl ⟨x,0+7,none⟩ rfl (.agg #[.string ⟨#[]⟩,.int .i64 (d:Nat),g]) rfl mG) ⟨⟨tV,Bb⟩,?_⟩);simp only[zz];refine aK (by kernel_rfl) ?_ _
 ·have KX:y6 [x] G y2:=sJ.trans sN;have CO:Hid (y2.heap[x]?=_):=hx2;clear Ba sI mG sK sM tV Bb sJ sN E hx2 H;go_wp2;go_end0;refine Or.inl ⟨rfl,g,cvb,Db,c.tu,c.ro,I.k1 KX (I.no T (by decide)),Ul pV zM.out T KX FF.out.st tZ.out CO.out,⟨KWb.trans2 KX (by intro y j;simp at j;subst j;exact Or.inl (by simp)),zL.out⟩,sG,vu,Or.inl ⟨by rw[<-tZ.out];exact J,rfl,rfl,wU⟩⟩
 ·have KX:y6 [x] O y2:=sJ.trans sN;have CO:Hid (y2.heap[x]?=_):=hx2;clear Ba sI mG sK sM tV Bb sJ sN E hx2 H;go_wp2;go_end0;refine Or.inl ⟨rfl,g,cvg,Dg,nxt c.tu,(yG c t).1.pl,CK.k1 KX (CK.no T (by decide)),?_,⟨KWg.trans2 KX (by intro y j;simp at j;subst j;exact Or.inl (by simp)),zN.out⟩,sG,vu,Or.inr ⟨by rw[<-tZ.out];exact J,rfl,rfl,Db,Dc,D3,wU,hfl,?_,lU⟩⟩
  ·have:=Ul FL.out.vol CN.out T KX FL.out.st tZ.out CO.out;rw[<-tZ.out];exact this
  ·rw[<-tZ.out];exact iH
end Go.Proofs.YtcklgafpgdhnaaaGreatDoor
