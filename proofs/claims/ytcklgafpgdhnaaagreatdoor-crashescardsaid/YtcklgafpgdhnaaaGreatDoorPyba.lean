import Derived.Test.YtcklgafpgdhnaaaGreatDoorPyav
import Derived.Test.YtcklgafpgdhnaaaGreatDoorPyay
import Derived.Test.YtcklgafpgdhnaaaGreatDoorPyaz
set_option maxRecDepth 100000
set_option maxHeartbeats 4000000
set_option linter.unusedSimpArgs false
set_option linter.unusedVariables false
set_option linter.unusedSectionVars false
open Go.Proofs.Tryz
open List renaming set_cons_zero → zF
namespace Go.Proofs.YtcklgafpgdhnaaaGreatDoor
open Go.RowKit
theorem Zp(args:Array Value)(w:World):(callFunc 47 args).run prog w=.ok (.enter 47 args) w:=qy func47 (by kernel_rfl) (by kernel_rfl) args w
theorem P7:(prog.info? 41).map (·.size)=some 2:=by kernel_rfl
def FrS(w:World)(k x:ByteArray)(u v:Value)(W:World):Prop:=W.heap[w.heap.size]?=some (.cells #[.string k,.string x] 41 (0,0))/\W.heap[w.heap.size+1]?=some (.cells #[u,v] 41 (0,0))
def Fr1(w:World)(k x:ByteArray)(W:World):Prop:=W.heap[w.heap.size]?=some (.cells #[.string k,.string x] 41 (0,0))
variable {w:World}{v:Value}
theorem FrS.k{k x:ByteArray}{u:Value}{W W':World}(h:FrS w k x u v W)(kk:y6 [] W W'):FrS w k x u v W':=⟨kk.get h.1 (by simp),kk.get h.2 (by simp)⟩
theorem ZA(k x:ByteArray)(w:World)(hk:k.size<=1000)(hx:x.size<=1000):Calls prog 59 #[.agg #[.string k,.string x]] w fun e w'=>e=.returned (.agg #[.string k,.string x])/\y6 [] w w':=by
 have p:=((y6.refl [] w).alloc (.cells #[.string k,.string x] 41)).alloc (.cells #[.string ⟨#[]⟩,.string ⟨#[]⟩] 41);have b:FrS w k x (.string ⟨#[]⟩) (.string ⟨#[]⟩) ((w.alloc (.cells #[.string k,.string x] 41)).alloc (.cells #[.string ⟨#[]⟩,.string ⟨#[]⟩] 41)).drew:=by
  constructor
  ·exact((y6.refl [] _).alloc _).drew.get (af w _) (by simp)
  ·have:=af (w.alloc (.cells #[.string k,.string x] 41)) (.cells #[.string ⟨#[]⟩,.string ⟨#[]⟩] 41);rw[ak]at this;exact this
 go_enter func59,ntmps59;go_wp2;refine yo (Fr1 w k x) (by kernel_rfl) ?_;refine uh 0 (.pointer (some ⟨w.heap.size,0+0,none⟩)) rfl (fun W f=>yx 41 (.tmp 1) 0 rfl w.heap.size (0) rfl 0 (by rfl)) b.1 ?_;refine uh 1 (.string k) rfl (fun W f=>y9 9 (.tmp 3) rfl ⟨w.heap.size,0+0,none⟩ rfl _ (yh underlying9 rfl (y7 f rfl))) b.1 ?_;refine uh 3 (.pointer (some ⟨w.heap.size,0+1,none⟩)) rfl (fun W f=>yx 41 (.tmp 1) 1 rfl w.heap.size (0) rfl 1 (by rfl)) b.1 ?_;refine uh 4 (.string x) rfl (fun W f=>y9 9 (.tmp 6) rfl ⟨w.heap.size,0+1,none⟩ rfl _ (yh underlying9 rfl (y7 f rfl))) b.1 ?_;refine yi (i:=2) (by kernel_rfl) (yp rfl (by rfl) 47 #[.string k] (yn _ _ _ rfl _ (by simp[Act.eval]) (Zp _ _)) _ (Pk k _ (by omega)) ?_);rintro e q⟨rfl,g⟩;have j:=b.k g;refine⟨_,rfl,j.1,?_⟩;simp only[zz];refine yi (i:=5) (by kernel_rfl) (yp rfl (by rfl) 47 #[.string x] (yn _ _ _ rfl _ (by simp[Act.eval]) (Zp _ _)) _ (Pk x _ (by omega)) ?_);rintro e c⟨rfl,m⟩;have a:=j.k m;have l:=g.trans m;refine⟨_,rfl,a.1,?_⟩;simp only[zz];refine yi (i:=6) (by kernel_rfl) (yM rfl (by rfl) (.agg #[.string k,.string x]) c (QU 41 (.tmp 5) (.tmp 8) 0 1 rfl _ _ _ rfl rfl (by kernel_rfl)) ⟨a.1,?_⟩);simp only[zz];have h:=yI (P:=prog) c (w.heap.size+1) 0 41 41 [.string ⟨#[]⟩,.string ⟨#[]⟩] [.string k,.string x] a.2 (by rw[P7];rfl) (by simp) (by intro u hu;simp at hu;rcases hu with rfl|rfl<;>rfl);have d:FrS w k x (.string k) (.string x) (c.setRow (w.heap.size+1) (splice [.string ⟨#[]⟩,.string ⟨#[]⟩] 0 [.string k,.string x]).toArray):=⟨((y6.refl [w.heap.size+1] c).setRow (Or.inl (by simp)) _).get a.1 (by simp),bH _ _ _ _ _ _ a.2⟩
 refine yi (i:=7) (by kernel_rfl) (qo rfl rfl _ (yK 41 (.tmp 2) (.tmp 9) rfl ⟨w.heap.size+1,0,none⟩ rfl _ rfl h) ⟨d.1,?_⟩);simp only[zz];refine aK (by kernel_rfl) ?_ _;have n:Hid (y6 [] w (c.setRow (w.heap.size+1) (splice [.string ⟨#[]⟩,.string ⟨#[]⟩] 0 [.string k,.string x]).toArray)):=(p.drew.trans l).trans2 ((y6.refl [w.heap.size+1] c).setRow (Or.inl (by simp)) _) (fun y o=>Or.inr (by simp at o;omega));clear h b j a;go_wp2;refine aR (aI rfl _ _ (w.heap.size+1) 41 #[.string k,.string x] (0,0) _ rfl d.2 underlying41 rfl P7) rfl ?_;exact⟨rfl,n.out⟩
structure Hd where
 s:Nat
 tu:Nat
 ro:Nat
 lt:Tr
 lr:Value
def qC(c:Hd)(v:Nat)(t:Tr)(r:Value):Array Value:=#[.int .i64 (c.s:Nat),.pointer (some ⟨v,0,none⟩),.int .u64 (c.tu:Nat),.int .i64 (c.ro:Nat),.string ⟨#[]⟩,.int .i64 (c.lt.pl:Nat),c.lr,.string ⟨#[]⟩,.int .i64 (t.pl:Nat),r]
def row0:Array Value:=#[.int .i64 0,.pointer none,.int .u64 0,.int .i64 0,.string ⟨#[]⟩,.int .i64 0,.nilIface,.string ⟨#[]⟩,.int .i64 0,.nilIface]
theorem jA(x v:Nat)(c:Hd)(t:Tr)(r:Value)(w:World)(hs:1<=c.s)(h:w.heap[x]?=some (.cells (qC c v t r) 84 (0,0))):Calls prog 44 #[.pointer (some ⟨x,0,none⟩)] w fun e w'=>e=.returned (.tuple #[])/\y6 [] w w':=by
 have a:w.cell? ⟨x,0,none⟩=some (.int .i64 (c.s:Nat)):=y7 h rfl;have b:¬(c.s:Int)=0:=by omega
 go_enter func44,ntmps44;go_wp2;go_end0;exact⟨rfl,y6.refl _ _⟩
theorem Zg(x:Nat)(w:World)(h:w.heap[x]?=some (.cells row0 84 (0,0))):Calls prog 44 #[.pointer (some ⟨x,0,none⟩)] w (L9 5 w):=by
 have c:w.cell? ⟨x,0,none⟩=some (.int .i64 0):=y7 h rfl;go_enter func44,ntmps44;go_wp2_with(first|(go_at_call 62;refine(jy _ _ _).mono ?_;rintro e d⟨f,o,rfl,a,b⟩))
 exact⟨rfl,f,o,rfl,a,b⟩
theorem jq(x v:Nat)(c:Hd)(t:Tr)(r:Value)(w:World)(hs:c.s=1\/c.s=2)(h:w.heap[x]?=some (.cells (qC c v t r) 84 (0,0))):Calls prog 49 #[.pointer (some ⟨x,0,none⟩)] w fun e w'=>e=.returned (.tuple #[])/\y6 [] w w':=by
 have b:Hid (Calls _ _ _ _ _):=jA x v c t r w (by omega) h;have g:¬(c.s:Int)=3:=by omega
 go_enter func49,ntmps49;go_wp2_with(first|(go_at_call 44;refine b.out.mono ?_;rintro e d⟨rfl,a⟩;have f:d.cell? ⟨x,0,none⟩=some (.int .i64 (c.s:Nat)):=y7 (a.get h (by simp)) rfl))
 go_end0;exact⟨rfl,a⟩
theorem Z5(x:Nat)(w:World)(h:w.heap[x]?=some (.cells row0 84 (0,0))):Calls prog 49 #[.pointer (some ⟨x,0,none⟩)] w (L9 5 w):=by
 have a:Hid (Calls _ _ _ _ _):=Zg x w h;go_enter func49,ntmps49;go_wp2_with(first|(go_at_call 44;refine a.out.mono ?_;rintro e d⟨f,o,rfl,b,c⟩))
 exact⟨rfl,f,o,rfl,b,c⟩
theorem Z6(x v:Nat)(c:Hd)(t:Tr)(r:Value)(w:World)(hs:c.s=3)(h:w.heap[x]?=some (.cells (qC c v t r) 84 (0,0))):Calls prog 49 #[.pointer (some ⟨x,0,none⟩)] w (L9 4 w):=by
 have b:Hid (Calls _ _ _ _ _):=jA x v c t r w (by omega) h;go_enter func49,ntmps49;go_wp2_with(first|(go_at_call 44;refine b.out.mono ?_;rintro e i⟨rfl,a⟩;have j:i.cell? ⟨x,0,none⟩=some (.int .i64 3):=y7 (a.get h (by simp)) (by simp[qC,hs]))|(go_at_call 62;refine(jy _ _ _).mono ?_;rintro e k⟨f,o,rfl,d,g⟩))
 exact⟨rfl,f,o,rfl,d,a.trans g⟩
theorem Zh(k:ByteArray)(w:World)(hk:1<=k.size/\k.size<=8):Calls prog 45 #[.string k] w fun e w'=>e=.returned (.tuple #[])/\y6 [] w w':=by
 have a:¬(k.size:Int)<1:=by omega
 have b:¬(8:Int)<(k.size:Int):=by omega
 go_enter func45,ntmps45;go_wp2;go_end0;exact⟨rfl,y6.refl _ _⟩
theorem Rp(k:ByteArray)(w:World)(hk:¬(1<=k.size/\k.size<=8)):Calls prog 45 #[.string k] w (L9 1 w):=by
 by_cases d:(k.size:Int)<1
 ·go_enter func45,ntmps45;go_wp2_with(first|(go_at_call 62;refine(jy _ _ _).mono ?_;rintro e c⟨f,o,rfl,a,b⟩))
  exact⟨rfl,f,o,rfl,a,b⟩
 ·have g:(8:Int)<(k.size:Int):=by omega
  go_enter func45,ntmps45;go_wp2_with(first|(go_at_call 62;refine(jy _ _ _).mono ?_;rintro e c⟨f,o,rfl,a,b⟩))
  exact⟨rfl,f,o,rfl,a,b⟩
theorem Q99(k:ByteArray)(w:World)(hk:k.size<=12):Calls prog 57 #[.string k] w fun e w'=>e=.returned (.tuple #[])/\y6 [] w w':=by
 have a:¬(12:Int)<(k.size:Int):=by omega
 go_enter func57,ntmps57;go_wp2;go_end0;exact⟨rfl,y6.refl _ _⟩
theorem XD(k:ByteArray)(w:World)(hk:¬k.size<=12):Calls prog 57 #[.string k] w (L9 2 w):=by
 have c:(12:Int)<(k.size:Int):=by omega
 go_enter func57,ntmps57;go_wp2_with(first|(go_at_call 62;refine(jy _ _ _).mono ?_;rintro e d⟨f,o,rfl,a,b⟩))
 exact⟨rfl,f,o,rfl,a,b⟩
theorem Nm(v a n:Nat)(w:World)(h:Vol w v a n):Calls prog 76 #[.pointer (some ⟨v,0,none⟩)] w fun e w'=>e=.returned (.int .i64 n)/\y6 [] w w':=by
 have b:w.cell? ⟨v,1,none⟩=some (.int .i64 n):=y7 h rfl;go_enter func76,ntmps76;go_wp2;go_ret;exact⟨rfl,y6.refl _ _⟩
theorem WM(x v a n:Nat)(c:Hd)(t:Tr)(r:Value)(w:World)(hx:w.heap[x]?=some (.cells (qC c v t r) 84 (0,0)))(h:Vol w v a n)(h8:8<=n)(h4:n<=400):Calls prog 61 #[.pointer (some ⟨x,0,none⟩)] w fun e w'=>e=.returned (.int .i64 (((n-2)/2:Nat):Int))/\y6 [] w w':=by
 have f:w.cell? ⟨x,1,none⟩=some (.pointer (some ⟨v,0,none⟩)):=y7 hx rfl;have d:Hid (Calls _ _ _ _ _):=Nm v a n w h;clear h;go_enter func61,ntmps61;go_wp2_with(first|(go_at_call 76;refine d.out.mono ?_;rintro e g⟨rfl,b⟩))
 go_ret;refine⟨?_,b⟩;have e:((n:Int)-2)/2=(((n-2)/2:Nat):Int):=by omega
 rw[<-e];rfl
def Tg(w:World)(y:Nat)(t:TypeId):Prop:=∃cs fr,w.heap[y]?=some (.cells cs t fr)
theorem Tg.ne{y:Nat}{t t':TypeId}(h:Tg w y t)(h':Tg w y t'):t=t':=by
 obtain⟨_,_,h⟩:=h;obtain⟨_,_,h'⟩:=h';rw[h]at h'
 cases h'
 rfl
theorem Tg.lt{y:Nat}{t:TypeId}(h:Tg w y t):y<w.heap.size:=by
 obtain⟨_,_,h⟩:=h;exact yt h
variable {es:List El}
theorem SL.tag{t:TypeId}{d:Nat}(h:SL w t d v es){b:Nat}(hb:v.ownBlock=some b):Tg w b t:=by
 rcases h with⟨rfl,_⟩|⟨g,off,cap,cur,rfl,hh,_⟩
 ·cases hb
 ·cases hb
  exact⟨_,_,hh⟩
def TT(w:World)(y:Nat):Prop:=Tg w y 122\/Tg w y 80
theorem TT.lt{w:World}{y:Nat}(h:TT w y):y<w.heap.size:=h.elim Tg.lt Tg.lt
theorem ND.tags{w:World}{A:Nat->Prop}:∀{h:Nat} {n:Nd h} {x:Value},ND w A h n x->ND w (TT w) h n x
 |0,_,_,⟨v,e,a,_⟩=>⟨v,e,a,fun _ h=>Or.inl (SL.tag a h)⟩
 |_+1,_,_,⟨v,c,e,a,_,d⟩=>⟨v,c,e,a,fun _ h=>Or.inr (SL.tag a h),d.mono fun _ _ _ b=>⟨b.1,ND.tags b.2⟩⟩
theorem TV.tags{w:World}{A:Nat->Prop}{t:Tr}{r:Value}(h:TV w A t r):TV w (TT w) t r:=h.imp id fun h=>⟨ND.tags h.1,h.2⟩
def Tru(_:Nat):Prop:=True
structure Rec(x v a n:Nat)(c:Hd)(r:Value)(t:Tr)(w:World):Prop where
 row:w.heap[x]?=some (.cells (qC c v t r) 84 (0,0))
 vol:Vol w v a n
 st:1<=c.s/\c.s<=3
 lv:TV w Tru c.lt c.lr
 tv:TV w Tru t r
def Shut(x:Nat)(w:World):Prop:=w.heap[x]?=some (.cells row0 84 (0,0))
theorem Rec.kept{x v a n:Nat}{c:Hd}{r:Value}{t:Tr}{w w':World}{S:List Nat}(h:Rec x v a n c r t w)(k:y6 S w w')(hx:x∉S)(hS:∀y∈S,¬Tg w y 128/\¬TT w y):Rec x v a n c r t w':=
 ⟨k.get h.row hx,k.get h.vol (fun d=>(hS v d).1 ⟨_,_,h.vol⟩),h.st,TV.kept h.lv.tags k (fun y b=>(hS y b).2) fun _ _=>trivial,TV.kept h.tv.tags k (fun y b=>(hS y b).2) fun _ _=>trivial⟩
variable {w':World}
theorem Rec.k{x v a n:Nat}{c:Hd}{r:Value}{t:Tr}(h:Rec x v a n c r t w)(k:y6 [] w w'):Rec x v a n c r t w':=h.kept k (by simp) (by simp)
variable {S:List Nat}
theorem Rec.err{x v a n:Nat}{c:Hd}{r:Value}{t:Tr}(h:Rec x v a n c r t w)(k:y6 S w w')(hS:∀y∈S,Tg w y 35):Rec x v a n c r t w':=by
 refine h.kept k (fun d=> ?_) fun y b=>⟨fun ht=> ?_,fun ht=> ?_⟩
 ·have:=(hS x d).ne ⟨_,_,h.row⟩;revert this;decide
 ·have:=(hS y b).ne ht;revert this;decide
 ·rcases ht with ht|ht
  ·have:=(hS y b).ne ht;revert this;decide
  ·have:=(hS y b).ne ht;revert this;decide
structure KA(A:Nat->Prop)(w w':World):Prop where
 size:w.heap.size<=w'.heap.size
 row:∀(y:Nat) (cs:Array Value) (t:TypeId) (fr:Nat×Nat),A y->t∉ [91,92,94]->w.heap[y]?=some (.cells cs t fr)->w'.heap[y]?=some (.cells cs t fr)
theorem KA.refl(A:Nat->Prop)(w:World):KA A w w:=⟨ag _,fun _ _ _ _ _ _ h=>h⟩
variable {A:Nat->Prop}
theorem KA.trans{a b c:World}(h:KA A a b)(g:KA A b c):KA A a c:=⟨av h.size g.size,fun y d t e f ht i=>g.row y d t e f ht (h.row y d t e f ht i)⟩
variable {A':Nat->Prop}
theorem KA.mono{a b:World}(h:KA A a b)(hA:∀y,A' y->A y):KA A' a b:=⟨h.size,fun y c t d e ht f=>h.row y c t d (hA y e) ht f⟩
theorem KA.of(k:y6 S w w')(hS:∀y∈S,¬A y):KA A w w':=⟨k.size,fun y _ _ _ a _ c=>k.get c fun b=>hS y b a⟩
theorem KA.k0(k:y6 [] w w'):KA A w w':=KA.of k (by simp)
theorem KA.new{w1:World}(h:KA A w w1)(k:y6 S w1 w')(hS:∀y∈S,w.heap.size<=y):KA A w w':=
 ⟨av h.size k.size,fun y b t c d ht a=>k.get (h.row y b t c d ht a) fun e=>by have:=hS y e;have:=yt a;omega⟩
theorem SL.ka{t:TypeId}{d:Nat}(h:SL w t d v es)(ht:t∉ [91,92,94])(hA:∀b,v.ownBlock=some b->A b)(k:KA A w w'):SL w' t d v es:=by
 rcases h with h|⟨g,e,a,c,rfl,f,r⟩
 ·exact Or.inl h
 ·exact Or.inr ⟨g,e,a,c,rfl,k.row _ _ _ _ (hA g rfl) ht f,r⟩
theorem ND.ka{A:Nat->Prop}{w w':World}(k:KA A w w'):∀{h:Nat} {n:Nd h} {x:Value},ND w A h n x->ND w' A h n x
 |0,_,_,⟨v,e,b,a⟩=>⟨v,e,SL.ka b (by decide) a k,a⟩
 |_+1,_,_,⟨v,d,e,b,a,f⟩=>⟨v,d,e,SL.ka b (by decide) a k,a,f.mono fun _ _ _ c=>⟨c.1,ND.ka k c.2⟩⟩
theorem ND.amono{h:Nat}{n:Nd h}{x:Value}(hx:ND w A h n x)(hA:∀y,A y->A' y):ND w A' h n x:=ND.kept (y6.refl [] w) (by simp) hA hx
def CgR{α β σ ι:Type}(f:α->σ->Option (β×σ))(Po:(Nat->Prop)->β->KE->World->Prop)(I:σ->World->Prop)(J:ι->Ending->World->Prop)(X:ι->Option σ->Prop)(s:σ)(a:α)(A:Nat->Prop)(W:World)(en:Ending)(W':World):Prop:=
 ((∃b s' e',f a s=some (b,s')/\en=.returned (.agg #[.string e'.1,.int .i64 (e'.3:Nat),e'.2])/\Po (fun y=>A y\/W.heap.size<=y) b e' W'/\I s' W')\/∃b,J b en W'/\X b ((f a s).map fun p=>p.2))/\KA Tru W W'
structure Cgr{α β σ ι:Type}(fid:FuncId)(c:Value)(f:α->σ->Option (β×σ))(Pi:(Nat->Prop)->α->KE->World->Prop)(Po:(Nat->Prop)->β->KE->World->Prop)(I:σ->World->Prop)(J:ι->Ending->World->Prop)(X:ι->Option σ->Prop)(B:Nat):Prop where
 en:∀(args:Array Value) (W:World),(callFunc fid args).run prog W=.ok (.enter fid args) W
 call:∀(s:σ) (a:α) (e:KE) (A:Nat->Prop) (W:World),I s W->Pi A a e W->B<=W.heap.size->(∀y,A y->y<W.heap.size)->Calls prog fid #[.agg #[.string e.1,.int .i64 (e.3:Nat),e.2],c] W (CgR f Po I J X s a A W)
 fresh:∀(s:σ) (W W':World) (S:List Nat),I s W->y6 S W W'->(∀y∈S,B<=y/\Tg W y 80)->I s W'
 pika:∀(A:Nat->Prop) (a:α) (e:KE) (W W':World),Pi A a e W->KA A W W'->Pi A a e W'
 poka:∀(A:Nat->Prop) (b:β) (e:KE) (W W':World),Po A b e W->KA A W W'->Po A b e W'
 pomono:∀(A A':Nat->Prop) (b:β) (e:KE) (W:World),Po A b e W->(∀y,A y->A' y)->Po A' b e W
 pish:∀(A:Nat->Prop) (a:α) (e:KE) (W:World),Pi A a e W->e.2=.nilIface\/∃t v,e.2=.iface t v
 posh:∀(A:Nat->Prop) (b:β) (e:KE) (W:World),Po A b e W->∃t v,e.2=.iface t v
 xm:∀(b:ι) (l r:List α) (a:α) (s s1:σ) (bs:List β),jk f l s=some (bs,s1)->X b ((f a s1).map fun p=>p.2)->X b ((jk f (l++(a::r)) s).map fun p=>p.2)
 jp:∀(b:ι) (en:Ending) (W:World),J b en W->∃c,en=.panicked c
def WthR{α β σ ι:Type}(f:α->σ->Option (β×σ))(Po:(Nat->Prop)->β->KE->World->Prop)(I:σ->World->Prop)(J:ι->Ending->World->Prop)(X:ι->Option σ->Prop)(s:σ)(al:List α)(A:Nat->Prop)(w:World)(en:Ending)(W':World):Prop:=
 ((∃bs s' v' ys,jk f al s=some (bs,s')/\en=.returned (.iface 168 v')/\SL W' 80 3 v' (List.map ke ys)/\(∀b,v'.ownBlock=some b->w.heap.size<=b)/\F2 (fun b e=>Po (fun y=>A y\/w.heap.size<=y) b e W') bs ys/\I s' W')\/∃b,J b en W'/\X b ((jk f al s).map fun p=>p.2))/\KA Tru w W'
theorem Q9k{d:Nat}(h:Wd d es)(j:Nat)(e:El)(hj:j<es.length)(he:e.length=d):splice (fl es) (j*d) e=fl (es.set j e):=by
 have a:es.set j e=es.take j++e::es.drop (j+1):=by rw[List.set_eq_take_append_cons_drop,if_pos hj]
 rw[a,qx,Qp];unfold splice;rw[P3 h,he,show j*d+d=(j+1)*d by rw[bT];omega,Pc h]
theorem zkid(w:World):(Instr.alloc 80 true (.tuple #[])).run prog w=.ok (.pointer (some ⟨w.heap.size,0,none⟩)) (w.alloc (.cells #[.string ⟨#[]⟩,.int .i64 0,.nilIface] 80)):=by kernel_rfl
theorem jb{r:Value}(f:ByteArray)(i:Int)(hr:r.oneCell'=true):∀u∈ [Value.string f,.int .i64 i,r],u.oneCell'=true:=by
 intro u hu;simp at hu;rcases hu with rfl|rfl|rfl
 ·rfl
 ·rfl
 ·exact hr
theorem Q9l{xs:List KE}(h:∀x∈xs,x.2=.nilIface\/∃t v,x.2=.iface t v):One 3 (xs.map ke):=by
 intro e b;obtain⟨x,c,rfl⟩:=bg.1 b;rcases h x c with a|⟨t,v,a⟩<;>exact⟨rfl,by intro u hu;simp[ke,a]at hu;rcases hu with rfl|rfl|rfl<;>rfl⟩
theorem VG(xs:List KE):Wd 3 (xs.map ke):=by
 intro e a;obtain⟨x,_,rfl⟩:=bg.1 a;rfl
def WtI{α β σ:Type}(f:α->σ->Option (β×σ))(Po:(Nat->Prop)->β->KE->World->Prop)(I:σ->World->Prop)(s:σ)(al:List α)(xs:List KE)(A:Nat->Prop)(w:World)(v2:Value)(i:Value)(wr:World):Prop:=
 ∃(j:Nat) (bs:List β) (sj:σ) (ys:List KE),j<=xs.length/\i=.int .i64 j/\ys.length=j/\jk f (al.take j) s=some (bs,sj)/\OW wr w.heap.size 80 3 v2 ((ys++xs.drop j).map ke)/\F2 (fun b e=>Po (fun y=>A y\/(w.heap.size<=y/\v2.ownBlock≠some y)) b e wr) bs ys/\I sj wr/\KA Tru w wr
theorem Tf{α β σ ι:Type}{fid:FuncId}{c:Value}{f:α->σ->Option (β×σ)}{Pi:(Nat->Prop)->α->KE->World->Prop}{Po:(Nat->Prop)->β->KE->World->Prop}{I:σ->World->Prop}{J:ι->Ending->World->Prop}{X:ι->Option σ->Prop}{B:Nat}(hc:Cgr fid c f Pi Po I J X B)
  (v:Value)(xs:List KE)(al:List α)(s:σ)(A:Nat->Prop)(w:World)(hl:SL w 80 3 v (xs.map ke))(hA:∀y,A y->y<w.heap.size)(AS:∀b,v.ownBlock=some b->A b)(hf:F2 (fun a e=>Pi A a e w) al xs)(hI:I s w)(hB:B<=w.heap.size)(hlen:xs.length<=1000):
  Calls prog 260 #[v,.func (.func fid) #[] #[c]] w (WthR f Po I J X s al A w):=by
 obtain⟨pv,cv,ev⟩:=hl.shape;rw[aj]at ev;subst ev;have oD:∀x∈xs,x.2=.nilIface\/∃t v,x.2=.iface t v:=by
  intro x F;obtain⟨i,hi⟩:=aU.1 F;have hl:i<al.length:=by rw[hf.1];exact(ae.1 hi).1
  exact hc.pish _ _ _ _ (hf.2 i _ x (aa hl) hi)
 have HCl:Hid (Calls _ _ _ _ _):=Vz (.slice pv xs.length cv) (xs.map ke) w hl (Q9l oD) (by rw[aj];omega);have uR:=hc.en;have R:∀j wr,KA Tru w wr->j<xs.length->∃g k x a,pv=some ⟨g,k,none⟩/\xs[j]?=some x/\al[j]?=some a/\Pi A a x wr/\(x.2=.nilIface\/∃t v,x.2=.iface t v)/\(loadVar 80 ⟨g,k+j*3,none⟩).run prog wr=.ok (.agg #[.string x.1,.int .i64 (x.3:Nat),x.2]) wr:=by
  intro j wr D hj;obtain⟨g,k,cap,cur,e,hg,hc1,hc2,hc3,dW⟩:=(SL.ka hl (by decide) AS (D.mono fun _ _=>trivial)).at_ (by rw[aj];omega);rw[aj]at e
  cases e
  obtain⟨x,F⟩:∃x,xs[j]?=some x:=⟨_,aa hj⟩
  obtain⟨a,M⟩:∃a,al[j]?=some a:=⟨_,aa (by rw[hf.1];exact hj)⟩
  refine⟨g,k,x,a,rfl,F,M,hc.pika _ _ _ _ _ (hf.2 j a x M F) (D.mono fun _ _=>trivial),oD x (ah F),?_⟩;exact jC (P:=prog) (ty:=80) _ hg (dW j (ke x) (by rw[aA,F];rfl)) underlying80 stk
 have u:Hid _:=R;have HI:Hid (I s w):=hI;have m:Hid (Cgr fid c f Pi Po I J X B):=hc;have IC:=hf.1;clear R hI hf hl hc AS oD;go_enter func260,ntmps260;go_wp2_with(go_at_call 263;refine HCl.out.mono ?_;rintro e w2⟨v2,rfl,E,Q⟩;obtain⟨p2,c2,U⟩:=yZ E.1;rw[aj]at U;subst U)
 have z:Hid _:=E;clear E
 go_loopw [12] (fun i wr=>WtI f Po I s al xs A w (.slice p2 xs.length c2) i wr) (fun i _=>xs.length-(intOf i).toNat)
 case atStart=>
  refine⟨0,[],s,[],ay _,rfl,rfl,rfl,z.out,F2.nil,m.out.fresh _ _ _ [] HI.out Q (by simp),KA.k0 Q⟩
 case round=>
  obtain⟨j,bs,Y,K,hj,rfl,Fk,iW,rS,Z,AU,G⟩:=hrel
  by_cases p:j<xs.length
  ·have hlt':(j:Int)<(xs.length:Int):=by omega
   obtain⟨g,k,x,a,epv,F,M,Fm,Fo,eK⟩:=u.out j wr G p;subst epv;have hx1:x.2.oneCell'=true:=by rcases Fo with e|⟨_,_,e⟩<;>rw[e]<;>rfl
   have r:Hid (∀W,y6 [] wr W->Calls prog fid #[.agg #[.string x.1,.int .i64 (x.3:Nat),x.2],c] W (CgR f Po I J X Y a A W)):=fun W D=>m.out.call Y a x A W (m.out.fresh _ _ _ [] AU D (by simp)) (m.out.pika _ _ _ _ _ Fm (KA.k0 D)) (by have:=G.size;have:=D.size;omega) (fun y d=>by have:=hA y d;have:=G.size;have:=D.size;omega);obtain⟨n,eH,o,U,lq,O,fO,fA,fF,rh⟩:=rS.open (by rw[aj,ai,aC];omega);have S:((K++xs.drop j).map ke).length=xs.length:=by rw[aj,ai,aC];omega
   rw[S]at U fO rh
   cases U
   have HPo:Hid (F2 _ _ _):=Z;clear Fo Fm Z rS AU u z;go_wp2_with(first|(refine ya rfl _ _ (yc 168 (.tmp 10) (.tmp 12) rfl g k xs.length cv j 3 rfl rfl 80 underlying168 stk p (k+j*3) rfl) ?_)|(refine y8 rfl 80 (.tmp 15) rfl ⟨g,k+j*3,none⟩ rfl _ eK ?_)|(refine yj rfl 7 rfl 80 rfl _ (zkid _) ?_;intro w3 n3 k3 fV)|(refine ye rfl 80 (.tmp 7) (.tmp 16) rfl wr.heap.size #[.string x.1,.int .i64 (x.3:Nat),x.2] rfl rfl 80 _ n3 stk rfl (qf (jb _ _ hx1)) ?_;intro w4 n4 k4)|(refine aW rfl 80 (.tmp 7) rfl wr.heap.size rfl 80 #[.string x.1,.int .i64 (x.3:Nat),x.2] (0,0) _ n4 underlying80 rfl stk ?_))
   have C:y6 [] wr w4:=k3.trans2 k4 (by intro y d;simp at d;subst d;exact Or.inr (ag _));have oU:Rw w4 n 80 o:=O.kept C (by simp);refine(r.out w4 C).mono ?_;rintro e q⟨⟨b,s',l,ID,rfl,vk,AV⟩|⟨b,hJ,hb⟩,V⟩
   ·have od:Rw q n 80 o:=V.row _ _ _ _ trivial (by decide) oU;obtain⟨te,ve,ee⟩:=m.out.posh _ _ _ _ vk;have ho':l.2.oneCell'=true:=by rw[ee];rfl
    have N:j*3+3<=o.length:=by rw[fF];omega
    have hst:=yI (P:=prog) q n (j*3) 80 80 o (ke l) od (by rw[stk];rfl) (by show j*3+3<=o.length;exact N) (jb _ _ ho');have k6:y6 [n] q (q.setRow n (splice o (j*3) (ke l)).toArray):=(y6.refl _ _).setRow (Or.inl (by simp)) _;have IE:Rw (q.setRow n (splice o (j*3) (ke l)).toArray) n 80 (splice o (j*3) (ke l)):=bH _ _ _ _ _ _ od;have HE:Hid (_/\_):=⟨vk,AV⟩
    clear vk AV ee;generalize q.setRow n (splice o (j*3) (ke l)).toArray=w6 at*;have ki:(storeVar 80 ⟨n,j*3,none⟩ (.agg #[.string l.1,.int .i64 (l.3:Nat),l.2])).run prog q=.ok () w6:=hst;go_wp2_with(first|(refine ya rfl _ _ (yc 168 (.tmp 17) (.tmp 18) rfl n 0 xs.length c2 j 3 rfl rfl 80 underlying168 stk p (j*3) (by omega)) ?_)|(refine gL rfl _ (yK 80 (.tmp 22) (.tmp 21) rfl ⟨n,j*3,none⟩ rfl _ rfl ki) ?_))
    have hw5:wr.heap.size<=q.heap.size:=av C.size V.size;have IF:=C.size;have IG:=yt O;have mj:(K++xs.drop j).set j l=(K++ [l])++xs.drop (j+1):=by
     have hd:xs.drop j=xs[j]::xs.drop (j+1):=aL p;rw[cP _ _ (by omega),Fk,Nat.sub_self,hd,zF,aG];rfl
    have T:(splice o (j*3) (ke l)).take (xs.length*3)=fl (((K++ [l])++xs.drop (j+1)).map ke):=by
     rw[PH rh (by show j*3+3<=xs.length*3;omega) (by rw[fF];exact bN 3 fO),Q9k (VG _) j (ke l) (by rw[S];exact p) rfl,<-List.map_set,mj]
    have hl6:(splice o (j*3) (ke l)).length=c2*3:=by rw[aN _ _ _ (by show j*3+3<=o.length;exact N),fF]
    have L:KA (fun y=>A y\/(w.heap.size<=y/\(Value.slice (some ⟨n,0,none⟩) xs.length c2).ownBlock≠some y)) q w6:=KA.of k6 (by
     intro y d;simp at d;subst d;rintro(H|⟨_,H⟩)
     ·have:=hA y H;omega
     ·exact H rfl)
    go_roundw
    case rel=>
     refine⟨j+1,bs++ [b],s',K++ [l],by omega,by go_num,by simp[Fk],?_,?_,?_,m.out.fresh _ _ _ [n] HE.out.2 k6 (by intro y d;simp at d;subst d;exact⟨by omega,_,_,od⟩),?_⟩
     ·rw[qe al j a M,Q9d,iW];simp only[ID]
     ·exact OW.close (VG _) lq IE (by rw[aj,ai,ai,aC];simp;omega) fO fA hl6 T
     ·refine F2.append (HPo.out.mono fun b' _ e'' hp=>m.out.poka _ _ _ _ _ (m.out.poka _ _ _ _ _ (m.out.poka _ _ _ _ _ hp (KA.k0 C)) (V.mono fun _ _=>trivial)) L) (F2.one (m.out.poka _ _ _ _ _ (m.out.pomono _ _ _ _ _ HE.out.1 ?_) L));rintro y(H|H)
      ·exact Or.inl H
      ·refine Or.inr ⟨by have:=G.size;omega,?_⟩;intro e;simp[Value.ownBlock]at e;omega
     ·exact((G.trans (KA.k0 C)).trans V).new k6 (by intro y d;simp at d;subst d;exact lq)
    case measure=>simp[intOf];omega
   ·obtain⟨ch,rfl⟩:=m.out.jp _ _ _ hJ;refine⟨rfl,Or.inr ⟨b,hJ,?_⟩,(G.trans (KA.k0 C)).trans V⟩;have e:al=al.take j++(a::al.drop (j+1)):=by
     have lA:=(ae.1 M)
     conv=>lhs;rw[<-aS j al,aL lA.1,lA.2]
    rw[e];exact m.out.xm b _ _ a s Y bs iW hb
  ·have hge:¬(j:Int)<(xs.length:Int):=by omega
   have ej:j=xs.length:=by omega
   subst ej;have HF:Hid (F2 _ _ _):=Z;have II:Hid (I Y wr):=AU;have Fp:Hid (OW _ _ _ _ _ _):=rS;clear Z AU rS u z;go_wp2;go_ret;rw[<-IC,bV]at iW;refine⟨Or.inl ⟨bs,Y,_,K,iW,rfl,?_,?_,HF.out.mono fun b _ e hp=>m.out.pomono _ _ _ _ _ hp fun y d=>d.imp id fun h=>h.1,II.out⟩,G⟩
   ·have:=Fp.out.sl;rw[dV,bo]at this;exact this
   ·intro y d;exact(Fp.out.1.lt y d).1
theorem Q9o:333+Made.depth=433:=by kernel_rfl
theorem ZT{o:Oper}{a:Act}(x:Operand)(nm:String)(ho:o.op=.call {callee:=.invoke x nm,args:=#[],argTypes:=#[]})(t:TypeId)(v:Value)(hx:a.eval x=.iface t v)(f:FuncId)(hm:(Go.method 433 t v nm).run prog w=.ok (f,v) w)(he:(callFunc f #[v]).run prog w=.ok (.enter f #[v]) w):
  (execOp a.eval o).run prog w=.ok (.enter f #[v]) w:=by
 simp[execOp,ho,hx,resolve,invoke,callMethod,Q9o,hm,he]
theorem Q9p{P:Program}{o:Oper}{a:Act}(x y:Operand)(t:TypeId)(ho:o.op=.call {callee:=.value x,args:=#[y],argTypes:=#[t]})(f:FuncId)(cs:Array Value)(hx:a.eval x=.func (.func f) #[] cs)(vy:Value)(hy:a.eval y=vy)(he:(callFunc f (#[vy]++cs)).run P w=.ok (.enter f (#[vy]++cs)) w):
  (execOp a.eval o).run P w=.ok (.enter f (#[vy]++cs)) w:=by
 simp[execOp,ho,hx,hy,resolve,invoke,Deferred.ofValue,he]
def CkN:(h:Nat)->Nd h->Prop
 |0,l=>Qx (.leaf l)
 |h+1,ks=>11*List.length (α:=Kid h) ks<=122/\∀k:Kid h,List.Mem k ks->k.1.size<=8/\k.3<65536/\(k.3=0->CkN h k.2)
def CkK(h:Nat)(k:Kid h):Prop:=k.1.size<=8/\k.3<65536/\(k.3=0->CkN h k.2)
theorem O1{h:Nat}{ks:List (Kid h)}:CkN (h+1) ks↔11*ks.length<=122/\∀k∈ks,CkK h k:=Iff.rfl
theorem Q9r{α β σ:Type}{f:α->σ->β×σ}{T:σ->σ->Prop}(ht:∀a s,T s (f a s).2)(h0:∀s,T s s)(IJ:∀a b c,T a b->T b c->T a c){G:α->β->σ->Prop}(hG:∀a s s',T (f a s).2 s'->G a (f a s).1 s'):∀{l:List α} {s:σ} {b:β},b∈(jz f l s).1->T s (jz f l s).2/\∃a∈l,G a b (jz f l s).2:=by
 have e:∀(l:List α) (s:σ),T s (jz f l s).2:=by
  intro l
  induction l with
  |nil=>intro s;exact h0 s
  |cons x l ih=>intro s;exact IJ _ _ _ (ht x s) (ih _)
 intro l
 induction l with
 |nil=>intro s b d;cases d
 |cons x l ih=>
  intro s b d;refine⟨e _ _,?_⟩;rcases an.1 d with rfl|d
  ·exact⟨x,by simp,hG x s _ (e l _)⟩
  ·obtain⟨_,a,g,h⟩:=ih d;exact⟨a,by simp[g],h⟩
theorem O8(h:Nat)(k:Kid h)(s:Ls):Stp s (qr h k s).2:=by
 unfold qr;split
 ·exact(Zf h k.2 s).1.step _
 ·exact .refl s
theorem Stp.us{s s':Ls}(h:Stp s s'):∀b∈s.us,b∈s'.us:=by
 induction h with
 |refl=>exact fun _ h=>h
 |step _ B ih=>exact fun b a=>by simp[Ls.step,ih b a]
theorem Q9t(h:Nat)(n:Nd h)(s:Ls)(hc:CkN h n)(hu:∀u∈(qg h n s).2.us,u<65536):Qx (nbN h (qg h n s).1):=by
 cases h with
 |zero=>exact hc
 |succ h=>
  have g:∀(c:List (Kid h)),(11*c.length<=122/\∀k∈c,CkK h k)->(∀u∈(jz (qr h) c s).2.us,u<65536)->Qx (.branch ((jz (qr h) c s).1.map fun k:Kid h=>(k.1,k.3))):=by
   intro c hc hu;refine⟨?_,by rw[aj,Q7o];exact hc.1⟩;intro q o;obtain⟨b,d,rfl⟩:=bg.1 o;obtain⟨_,k,m,j,l⟩:=Q9r (T:=Stp) (fun a s=>O8 h a s) Stp.refl (fun _ _ _=>Stp.trans) (G:=fun(k b:Kid h) i=>b.1=k.1/\(b.3=k.3\/b.3∈i.us)) (by
    intro a s i f;unfold qr at f⊢;split
    ·rename_i e;rw[if_pos e]at f;exact⟨rfl,Or.inr (f.us _ (by simp[Ls.step]))⟩
    ·exact⟨rfl,Or.inl rfl⟩) d
   have:=hc.2 k m;refine⟨by show b.1.size<=8;rw[j];exact this.1,?_⟩;rcases l with e|e
   ·show b.3<65536;rw[e];exact this.2.1
   ·exact hu _ e
  exact g n (O1.1 hc) hu
def Bd(N:Nat)(s:Ls):Prop:=∀u∈s.us,u<N
instance (N:Nat)(s:Ls):Decidable (Bd N s):=by unfold Bd;infer_instance
variable {s':Ls}
theorem Bd.back{N:Nat}{s:Ls}(h:Bd N s')(hs:Stp s s'):Bd N s:=fun u hu=>h u (hs.us u hu)
theorem R9{α β:Type}{f:α->Ls->β×Ls}(hf:∀a s,Stp s (f a s).2):∀(l:List α) (s:Ls),Stp s (jz f l s).2
 | [],s=> .refl s
 |x::l,s=>(hf x s).trans (R9 hf l _)
theorem Stp.wl{s:Ls}(h:Stp s s'):s.ws.length<=s'.ws.length:=by
 induction h with
 |refl=>exact ag _
 |step _ B ih=>
  simp only[Ls.step,ai];omega
def Nb0(N:Nat)(x:Bool×Nat)(s:Ls):Prop:=(x.1=true->¬Bd N s)/\x.2<=s.ws.length
theorem Nb0.mono{N:Nat}{x:Bool×Nat}{s:Ls}(h:Nb0 N x s)(hs:Stp s s'):Nb0 N x s':=⟨fun b a=>h.1 b (a.back hs),av h.2 hs.wl⟩
theorem Nw{α β:Type}(f:α->Ls->β×Ls):∀(l:List α) (s:Ls),jk (fun a s=>some (f a s)) l s=some (jz f l s)
 | [],_=>rfl
 |x::l,s=>by simp only[jk,jz,Nw f l]
theorem R7{α β:Type}(f:α->Ls->β×Ls):∀(l r:List α) (s:Ls),(jz f (l++r) s).2=(jz f r (jz f l s).2).2
 | [],_,_=>rfl
 |x::l,r,s=>by simp only[bD,jz,R7 f l r]
structure Lyr(fid:FuncId)(c1 c2:Value)(N:Nat)(I:Ls->World->Prop)(J:Bool×Nat->Ending->World->Prop)(B:Nat):Prop where
 en:∀(args:Array Value) (W:World),(callFunc fid args).run prog W=.ok (.enter fid args) W
 call:∀(s:Ls) (b:List UInt8) (W:World),I s W->b.length=128->B<=W.heap.size->Calls prog fid #[.agg (u8s b).toArray,c1,c2] W fun e W'=>((e=.returned (.int .i64 (tk s.us:Nat))/\I (s.step b) W')\/∃x,J x e W'/\((x.1=true->¬tk s.us<N)/\x.2<=s.ws.length))/\KA Tru W W'
 fresh:∀(s:Ls) (W W':World) (S:List Nat),I s W->y6 S W W'->(∀y∈S,B<=y/\Tg W y 80)->I s W'
 bnd:∀(s:Ls) (W:World),I s W->Bd N s
 nb:N<=65536
 jp:∀(x:Bool×Nat) (e:Ending) (W:World),J x e W->∃c,e=.panicked c
def lfv(fid:FuncId)(c1 c2:Value):Value:=.func (.func fid) #[] #[c1,c2]
def LdR(N:Nat)(I:Ls->World->Prop)(J:Bool×Nat->Ending->World->Prop)(h:Nat)(s:Ls)(k:Kid h)(A:Nat->Prop)(W:World)(e:Ending)(W':World):Prop:=
 ((∃x',e=.returned (.agg #[.string k.1,.int .i64 ((qr h k s).1.3:Nat),x'])/\ND W' (fun y=>A y\/W.heap.size<=y) h (qr h k s).1.2 x'/\I (qr h k s).2 W')\/∃x,J x e W'/\Nb0 N x (qr h k s).2)/\KA Tru W W'
def LdOk(fid:FuncId)(c1 c2:Value)(N:Nat)(I:Ls->World->Prop)(J:Bool×Nat->Ending->World->Prop)(B:Nat)(h:Nat):Prop:=
 ∀(s:Ls) (k:Kid h) (x:Value) (A:Nat->Prop) (W:World),ND W A h k.2 x->(∀y,A y->y<W.heap.size)->CkK h k->I s W->B<=W.heap.size->Calls prog 116 #[.agg #[.string k.1,.int .i64 (k.3:Nat),x],lfv fid c1 c2] W (LdR N I J h s k A W)
end Go.Proofs.YtcklgafpgdhnaaaGreatDoor
