import Derived.Test.YtcklgafpgdhnaaaGreatDoorPybb
set_option maxRecDepth 100000
set_option maxHeartbeats 4000000
set_option linter.unusedSimpArgs false
set_option linter.unusedVariables false
set_option linter.unusedSectionVars false
open Go.Proofs.Tryz
namespace Go.Proofs.YtcklgafpgdhnaaaGreatDoor
open Go.RowKit
theorem jg:∀(n:Nat) (us:List Nat),us.Nodup->(∀u∈us,u<n)->us.length<=n
 |0,us,_,h=>by
  cases us with
  |nil=>simp
  |cons a r=>have:=h a (by simp);omega
 |n+1,us,c,h=>by
  have d:=jg n (us.erase n) (c.erase n) (fun u hu=>by
   have f:=h u (List.mem_of_mem_erase hu);have g:u≠n:=fun e=>by subst e;exact(c.not_mem_erase) hu
   omega)
  by_cases b:n∈us
  ·have:=List.length_erase_of_mem b;omega
  ·rw[List.erase_of_not_mem b]at d;omega
variable {w w':World}{bv cv:Value}
theorem DQ.ka{a:Nat}{n:Nat}{D:Dv}(h:DQ w a bv n cv D)(k:y6 (yk a bv cv) w w'):KA Tru w w':=⟨k.size,fun _ _ _ _ _ ht b=>k.get b (h.no b ht)⟩
theorem SpM.ka{b:Nat}{us:List Nat}(h:SpM w b us)(k:y6 [b] w w'):KA Tru w w':=⟨k.size,fun y _ _ _ _ _ a=>k.get a (by simp;exact h.ne a)⟩
theorem Uv{base e size n:Nat}{v:Value}{xs:List Value}(h:w.ownsRow base e size v n xs){y:Nat}(hy:v.ownBlock=some y):∃cs t fr,w.heap[y]?=some (.cells cs t fr):=by
 obtain⟨_,⟨rfl,_⟩|⟨g,a,b,rfl,_,c,_⟩⟩:=h
 ·cases hy
 ·cases hy
  exact⟨_,_,_,c⟩
theorem DQ.rowOf{a:Nat}{n:Nat}{D:Dv}(h:DQ w a bv n cv D):∀y∈yk a bv cv,∃cs t fr,w.heap[y]?=some (.cells cs t fr):=by
 intro y c;unfold yk at c;rcases an.1 c with rfl|c
 ·exact⟨_,_,_,h.d⟩
 ·rcases ar.1 c with c|c
  ·exact Uv h.b (by simpa using c)
  ·exact Uv h.o (by simpa using c)
theorem SpM.nd{a:Nat}{n:Nat}{D:Dv}{b:Nat}{us:List Nat}(h:SpM w b us)(hd:DQ w a bv n cv D):b∉yk a bv cv:=by
 intro c;obtain⟨e,t,f,d⟩:=hd.rowOf b c;exact h.ne d rfl
theorem Tab.rowOf(h:Tab w):∃cs t fr,w.heap[2]?=some (.cells cs t fr):=by
 obtain⟨cs,fr,a⟩:=h.row;exact⟨cs,_,fr,a⟩
theorem Tab.ka(h:Tab w)(k:KA Tru w w'):Tab w':=by
 obtain⟨c,d,a⟩:=h.row;have b:=k.row _ _ _ _ trivial (by decide) a;exact⟨⟨c,d,b⟩,fun W e=>h.ito W (by rw[e,b,a])⟩
theorem DQ.drew{w:World}{a:Nat}{bv:Value}{n:Nat}{cv:Value}{D:Dv}(h:DQ w a bv n cv D):DQ w.drew a bv n cv D:=h.k0 (y6.refl [] w).drew
variable {g:Nat}{B:List UInt8}
theorem Pf(h:w.heap[g]?=some (.cells (u8s B).toArray 92 (0,0)))(hB:B.length=128):(loadVar 92 ⟨g,0,none⟩).run prog w=.ok (.agg (u8s B).toArray) w:=df w g 92 92 _ (0,0) _ h underlying92 rfl (by rw[QM];simp[yd,hB])
theorem yC{P:Program}{ops:Array Oper}{rest:List Oper}{o:Oper}{a:Act}{Q:Exit->Act->World->Prop}(hgd:o.guard=none)(ty:TypeId)(x y:Operand)(ho:o.op=.store ty x y)(g j:Nat)(hx:a.eval x=.pointer (some ⟨g,j,none⟩))(v:Value)(hy:a.eval y=v)
  (t:TypeId)(cs:Array Value)(hg:w.heap[g]?=some (.cells cs t (0,0)))(hi:(P.info? ty).map (·.size)=some 1)(hv:v.oneCell'=true)(hj:j<cs.size)
  (h:∀w',w'.heap[g]?=some (.cells (cs.setIfInBounds j v) t (0,0))->y6 [g] w w'->wpList P ops Q rest (a.put o.dst undef) w'):wpList P ops Q (o::rest) a w:=
 gL hgd _ (yK ty x y ho ⟨g,j,none⟩ hx v hy (qR hi hv hg hj)) (h _ (yf v hg) ((y6.refl _ _).setCell (Or.inl (by simp)) _))
theorem jK(w:World):Calls prog 188 #[.bool true] w fun e w'=>e=.returned (.tuple #[])/\w'=w:=by
 go_enter func188,ntmps188;go_wp2;go_end0;exact⟨rfl,rfl⟩
theorem jB(w:World):Calls prog 188 #[.bool false] w fun e w'=>Thr 7 e w'/\y6 [] w w':=by
 go_enter func188,ntmps188;go_wp2_with(go_at_call 62;refine(ZH _ _ _).mono ?_;rintro e c⟨ht,a⟩;obtain⟨f,o,rfl,b⟩:=ht.ex)
 exact⟨rfl,ht,a⟩
structure Rst(w:World)(q g:Nat)(B R:List UInt8):Prop where
 v:w.heap[q]?=some (.cells #[.slice (some ⟨g,124-R.length,none⟩) R.length (R.length+4)] 246 (0,0))
 b:w.heap[g]?=some (.cells (u8s B).toArray 92 (0,0))
 l:B.length=128
 r:R.length<=122
 e:R=(B.drop (124-R.length)).take R.length
variable {R:List UInt8}
theorem Rst.k{q:Nat}(h:Rst w q g B R)(k:y6 [] w w'):Rst w' q g B R:=⟨k.get h.v (by simp),k.get h.b (by simp),h.l,h.r,h.e⟩
theorem Rst.ne{q:Nat}(h:Rst w q g B R):g≠q:=yP h.b h.v (by decide)
theorem YA:(prog.info? 246).map (·.size)=some 1:=by kernel_rfl
theorem Rst.part{q:Nat}(h:Rst w q g B R)(n:Nat)(hn:n<=R.length):(B.drop (124-R.length)).take n=R.take n:=by
 conv=>rhs;rw[h.e]
 rw[cA,bS hn]
theorem Rst.next{q:Nat}(h:Rst w q g B R)(n:Nat)(hn:n<=R.length)(k:y6 [q] w w')(hv:w'.heap[q]?=some (.cells #[.slice (some ⟨g,124-R.length+n,none⟩) (R.length-n) (R.length+4-n)] 246 (0,0))):Rst w' q g B (R.drop n):=by
 have c:=h.r;have a:(R.drop n).length=R.length-n:=aC ..;refine⟨?_,k.get h.b (by simp;exact h.ne),h.l,by omega,?_⟩
 ·rw[a,show 124-(R.length-n)=124-R.length+n by omega,show R.length-n+4=R.length+4-n by omega];exact hv
 ·rw[a,show 124-(R.length-n)=124-R.length+n by omega,<-dL,<-cC,<-h.e]
theorem PK(q g:Nat)(B R:List UInt8)(n:Nat)(w:World)(h:Rst w q g B R)(hn:n<=R.length):
  Calls prog 199 #[.pointer (some ⟨q,0,none⟩),.int .i64 (n:Nat)] w fun e w'=>e=.returned (.slice (some ⟨g,124-R.length,none⟩) n (R.length+4))/\Rst w' q g B (R.drop n)/\y6 [q] w w':=by
 have p:w.cell? ⟨q,0,none⟩=some (.slice (some ⟨g,124-R.length,none⟩) R.length (R.length+4)):=y7 h.v rfl;have j:(n:Int)<=(R.length:Int):=by omega
 have k:=h.r;have a:∀W:World,(Instr.sliceAt 246 (.slice (some ⟨g,124-R.length,none⟩) R.length (R.length+4)) none (some (.int .i64 (n:Nat))) none).run prog W=.ok (.slice (some ⟨g,124-R.length,none⟩) n (R.length+4)) W:=fun W=>qB W 246 5 1 g (124-R.length) R.length (R.length+4) underlying246 su8 n (by omega);have i:∀W:World,(Instr.sliceAt 246 (.slice (some ⟨g,124-R.length,none⟩) R.length (R.length+4)) (some (.int .i64 (n:Nat))) none none).run prog W=.ok (.slice (some ⟨g,124-R.length+n,none⟩) (R.length-n) (R.length+4-n)) W:=fun W=>by
  rw[yA W 246 5 1 g (124-R.length) R.length (R.length+4) underlying246 su8 n hn];unfold qS;rw[if_neg (by omega),Nat.mul_one]
 have d:Hid (Calls _ _ _ _ _):=jK w;have l:=h.v;have f:Hid (Rst w q g B R):=h;clear h k;go_enter func199,ntmps199;go_wp2_with(first|(go_at_call 188;refine d.out.mono ?_;rintro e o⟨rfl,b⟩;rw[b];clear b o)|(refine ya rfl _ _ (yY 246 (.tmp 15) none (some (.tmp 16)) none rfl _ none (some (.int .i64 (n:Nat))) none rfl rfl (by rfl) rfl _ (a _)) ?_)|(refine ya rfl _ _ (yY 246 (.tmp 21) (some (.tmp 22)) none none rfl _ (some (.int .i64 (n:Nat))) none none rfl (by rfl) rfl rfl _ (i _)) ?_)|(refine yC rfl 246 (.tmp 24) (.tmp 23) rfl q 0 rfl (.slice (some ⟨g,124-R.length+n,none⟩) (R.length-n) (R.length+4-n)) rfl 246 _ l YA rfl (by simp) ?_;intro s m c))
 go_ret;exact⟨rfl,f.out.next n hn c m,c⟩
theorem OT(q g:Nat)(B R:List UInt8)(n:Nat)(w:World)(h:Rst w q g B R)(hn:R.length<n):
  Calls prog 199 #[.pointer (some ⟨q,0,none⟩),.int .i64 (n:Nat)] w fun e w'=>Thr 7 e w'/\y6 [] w w':=by
 have d:w.cell? ⟨q,0,none⟩=some (.slice (some ⟨g,124-R.length,none⟩) R.length (R.length+4)):=y7 h.v rfl;have c:¬(n:Int)<=(R.length:Int):=by omega
 have a:Hid (Calls _ _ _ _ _):=jB w;go_enter func199,ntmps199;go_wp2_with(go_at_call 188;refine a.out.mono ?_;rintro e j⟨ht,b⟩;obtain⟨f,o,rfl,i⟩:=ht.ex)
 exact⟨rfl,ht,b⟩
theorem V2(q g:Nat)(B R:List UInt8)(n:Nat)(w:World)(h:Rst w q g B R)(hn:n<=R.length)(h2:n<=2):
  Calls prog 200 #[.pointer (some ⟨q,0,none⟩),.int .i64 (n:Nat)] w fun e w'=>e=.returned (.int .i64 (qt (R.take n):Nat))/\Rst w' q g B (R.drop n)/\y6 [q] w w':=by
 have f:Hid (Calls _ _ _ _ _):=PK q g B R n w h hn;have i:Hid (∀W,Rst W q g B (R.drop n)->Calls prog 154 #[.slice (some ⟨g,124-R.length,none⟩) n (R.length+4)] W fun e w'=>e=.returned (.int .u64 (qt (R.take n):Nat))/\w'=W):=by
  intro W j;have:=P9 g (124-R.length) (R.length+4) n n B 92 (0,0) W j.b (by rw[h.part n hn,au];omega) (by omega);rw[h.part n hn]at this;exact this
 have k:qt (R.take n)<65536:=by
  have o:=QY (R.take n);have p:(R.take n).length<=2:=by rw[au];omega
  have:2^(8*(R.take n).length)<=2^16:=dy (by omega) (by omega);omega
 generalize qt (R.take n)=m at*;clear h;go_enter func200,ntmps200;go_wp2_with(first|(go_at_call 199;refine f.out.mono ?_;rintro e r⟨rfl,d,a⟩)|(go_at_call 154;refine(i.out _ d).mono ?_;rintro e l⟨rfl,c⟩;rw[c];clear c l))
 go_ret;exact⟨rfl,d,a⟩
theorem U2(q g:Nat)(B R:List UInt8)(n:Nat)(w:World)(h:Rst w q g B R)(hn:R.length<n):
  Calls prog 200 #[.pointer (some ⟨q,0,none⟩),.int .i64 (n:Nat)] w fun e w'=>Thr 7 e w'/\y6 [] w w':=by
 have a:Hid (Calls _ _ _ _ _):=OT q g B R n w h hn;clear h;go_enter func200,ntmps200;go_wp2_with(go_at_call 199;refine a.out.mono ?_;rintro e d⟨ht,b⟩;obtain⟨f,o,rfl,c⟩:=ht.ex)
 exact⟨rfl,ht,b⟩
def TkE(q g:Nat)(B:List UInt8){α:Type}(enc:α->Value)(o:Option (α×List UInt8))(w:World)(e:Ending)(w':World):Prop:=
 (match o with
  |some (x,R')=>e=.returned (enc x)/\Rst w' q g B R'
  |none=>Thr 7 e w')/\y6 [q] w w'
theorem Yw(c:UInt8)(r:List UInt8):qt ((c::r).take 1)=c.toNat:=by
 simp[qt]
theorem RQ(q g:Nat)(B R:List UInt8)(m:Nat)(w:World)(h:Rst w q g B R):
  Calls prog 198 #[.pointer (some ⟨q,0,none⟩),.int .i64 (m:Nat)] w (TkE q g B Value.string (Q3 m R) w):=by
 cases R with
 |nil=>
  have k:Hid (Calls _ _ _ _ _):=U2 q g B [] 1 w h (by simp);clear h;go_enter func198,ntmps198;go_wp2_with(go_at_call 200;refine k.out.mono ?_;rintro e D⟨ht,N⟩;obtain⟨f,o,rfl,I⟩:=ht.ex)
  exact⟨rfl,ht,N.mono (by simp)⟩
 |cons c r=>
  have k:=V2 q g B (c::r) 1 w h (by simp) (by omega);rw[Yw]at k;have v:Hid (Calls _ _ _ _ _):=k;have hc:=c.toNat_lt;clear k
  by_cases L:c.toNat<=m
  ·have A:(c.toNat:Int)<=(m:Int):=by omega
   by_cases C:c.toNat<=r.length
   ·have y:Hid (∀W,Rst W q g B r->Calls prog 199 #[.pointer (some ⟨q,0,none⟩),.int .i64 (c.toNat:Nat)] W fun e t=>e=.returned (.slice (some ⟨g,124-r.length,none⟩) c.toNat (r.length+4))/\Rst t q g B (r.drop c.toNat)/\y6 [q] W t):=fun W p=>PK q g B r c.toNat W p C;have J:∀W,Rst W q g B (r.drop c.toNat)->(convert 60 9 (.slice (some ⟨g,124-r.length,none⟩) c.toNat (r.length+4))).run prog W=.ok (.string ⟨(r.take c.toNat).toArray⟩) W:=by
     intro W p;have O:(r.take c.toNat).length=c.toNat:=by rw[au];omega
     have i:(B.drop (124-r.length)).take c.toNat=r.take c.toNat:=by
      have H:=h.e;have Q:=h.r;simp only[aB]at H Q;have K:r=(B.drop (124-r.length)).take r.length:=by
       have z:=congrArg (List.drop 1) H;rw[cI,da,cC,dL]at z;rw[show 124-(r.length+1)+1=124-r.length by omega,dJ]at z;exact z
      conv=>rhs;rw[K]
      rw[cA,bS C]
     have:=run_convert_bytes_back (P:=prog) W 60 9 5 ⟨g,124-r.length,none⟩ (r.length+4) (r.take c.toNat) underlying60 underlying5 underlying9 (by
      intro j M;rw[add_lit,aY _ _ _ _ _ _ p.b];have G:=PG B (124-r.length) c.toNat j (by rw[i];exact M);simp only[i]at G;exact G)
     rw[O]at this;exact this
    have x:Hid _:=J;have l:Hid (Q3 m (c::r)=some (⟨(r.take c.toNat).toArray⟩,r.drop c.toNat)):=by show _=_;simp only[Q3];rw[if_pos ⟨L,C⟩]
    clear J h;go_enter func198,ntmps198;go_wp2_with(first|(go_at_call 200;refine v.out.mono ?_;rintro e D⟨rfl,u,a⟩)|(go_at_call 188;refine(jK _).mono ?_;rintro e E⟨rfl,n⟩;rw[n];clear n E)|(go_at_call 199;refine(y.out _ u).mono ?_;rintro e F⟨rfl,s,d⟩;have S:=x.out F s))
    go_ret;rw[l.out];exact⟨⟨rfl,s⟩,a.trans d⟩
   ·have y:Hid (∀W,Rst W q g B r->Calls prog 199 #[.pointer (some ⟨q,0,none⟩),.int .i64 (c.toNat:Nat)] W fun e t=>Thr 7 e t/\y6 [] W t):=fun W p=>OT q g B r c.toNat W p (by omega);have l:Hid (Q3 m (c::r)=none):=by show _=_;simp only[Q3];rw[if_neg (by omega)]
    clear h;go_enter func198,ntmps198;go_wp2_with(first|(go_at_call 200;refine v.out.mono ?_;rintro e D⟨rfl,u,a⟩)|(go_at_call 188;refine(jK _).mono ?_;rintro e E⟨rfl,n⟩;rw[n];clear n E)|(go_at_call 199;refine(y.out _ u).mono ?_;rintro e F⟨ht,d⟩;obtain⟨f,o,rfl,I⟩:=ht.ex))
    refine⟨rfl,?_⟩;rw[l.out];exact⟨ht,a.trans2 d (by simp)⟩
  ·have A:¬(c.toNat:Int)<=(m:Int):=by omega
   have l:Hid (Q3 m (c::r)=none):=by show _=_;simp only[Q3];rw[if_neg (by omega)]
   clear h;go_enter func198,ntmps198;go_wp2_with(first|(go_at_call 200;refine v.out.mono ?_;rintro e D⟨rfl,u,a⟩)|(go_at_call 188;refine(jB _).mono ?_;rintro e F⟨ht,d⟩;obtain⟨f,o,rfl,I⟩:=ht.ex))
   refine⟨rfl,?_⟩;rw[l.out];exact⟨ht,a.trans2 d (by simp)⟩
theorem Z7{α:Type}(t:List UInt8->Option (α×List UInt8)):∀(j:Nat) (R:List UInt8),gd t (j+1) R=match gd t j R with
  |none=>none
  |some (l,c)=>match t c with
   |none=>none
   |some (a,d)=>some (l++ [a],d)
 |0,R=>by
  simp only[gd]
  cases t R with
  |none=>rfl
  |some r=>obtain⟨a,d⟩:=r;rfl
 |j+1,R=>by
  rw[gd]
  cases h:t R with
  |none=>simp only[gd,h]
  |some r=>
   obtain⟨a,c⟩:=r;simp only[Z7 t j c];rw[gd,h];simp only
   cases gd t j c with
   |none=>rfl
   |some q=>
    obtain⟨l,d⟩:=q;simp only
    cases t d with
    |none=>rfl
    |some z=>obtain⟨b,e⟩:=z;rfl
theorem Px{α:Type}(t:List UInt8->Option (α×List UInt8))(j:Nat)(R R1:List UInt8)(l:List α)(h1:gd t j R=some (l,R1))(h2:t R1=none):∀k,gd t (j+1+k) R=none
 |0=>by rw[dG,Z7,h1];simp only[h2]
 |k+1=>by rw[<-Nat.add_assoc,Z7,Px t j R R1 l h1 h2 k]
def encQ(p:Pr):Value:=.agg #[.string p.1,.string p.2]
def encK(k:ByteArray×Nat):Value:=.agg #[.string k.1,.int .i64 (k.2:Nat),.nilIface]
theorem N0(w:World):(Instr.alloc 122 true (.tuple #[])).run prog w=.ok (.pointer (some ⟨w.heap.size,0,none⟩)) (w.alloc (.cells #[.string ⟨#[]⟩,.string ⟨#[]⟩] 122)):=by kernel_rfl
theorem Rv(p:Pr):∀u∈pe p,u.oneCell'=true:=by intro u hu;simp[pe]at hu;rcases hu with rfl|rfl<;>rfl
theorem QbZ(q g:Nat)(B R:List UInt8)(w:World)(h:Rst w q g B R):Calls prog 185 #[.pointer (some ⟨q,0,none⟩)] w (TkE q g B encQ (jh R) w):=by
 have U:=yt h.v;have C:Hid (∀m R W,Rst W q g B R->Calls prog 198 #[.pointer (some ⟨q,0,none⟩),.int .i64 (m:Nat)] W (TkE q g B Value.string (Q3 m R) W)):=fun m R W c=>RQ q g B R m W c;have A:Hid (Rst w q g B R):=h;clear h
 cases n:Q3 8 R with
 |none=>
  have s:Hid (jh R=none):=by show _=_;unfold jh;rw[n]
  have a:Hid (∀W,Rst W q g B R->Calls prog 198 #[.pointer (some ⟨q,0,none⟩),.int .i64 8] W (TkE q g B Value.string none W)):=fun W c=>n▸C.out 8 R W c;go_enter func185,ntmps185;go_wp2_with(first|(refine yj rfl 2 rfl 122 rfl _ (N0 _) ?_;intro x H d t)|(go_at_call 198;refine(a.out x (A.out.k d)).mono ?_;rintro e F⟨ht,p⟩;obtain⟨f,o,rfl,M⟩:=Thr.ex ht))
  refine⟨rfl,?_⟩;rw[s.out];exact⟨ht,(d.mono (by simp)).trans p⟩
 |some z=>
  obtain⟨k,j⟩:=z;have a:Hid (∀W,Rst W q g B R->Calls prog 198 #[.pointer (some ⟨q,0,none⟩),.int .i64 8] W (TkE q g B Value.string (some (k,j)) W)):=fun W c=>n▸C.out 8 R W c
  cases D:Q3 12 j with
  |none=>
   have s:Hid (jh R=none):=by show _=_;unfold jh;rw[n];simp only[D]
   have i:Hid (∀W,Rst W q g B j->Calls prog 198 #[.pointer (some ⟨q,0,none⟩),.int .i64 12] W (TkE q g B Value.string none W)):=fun W c=>D▸C.out 12 j W c;go_enter func185,ntmps185;go_wp2_with(refine yj rfl 2 rfl 122 rfl _ (N0 _) ?_;intro x H d t)
   refine(a.out x (A.out.k d)).mono ?_;rintro e F⟨⟨rfl,I⟩,p⟩;go_wp2_with fail;refine(i.out F I).mono ?_;rintro e P⟨ht,E⟩;obtain⟨f,o,rfl,M⟩:=Thr.ex ht;refine⟨rfl,?_⟩;rw[s.out];exact⟨ht,((d.mono (by simp)).trans p).trans E⟩
  |some S=>
   obtain⟨v,J⟩:=S;have s:Hid (jh R=some ((k,v),J)):=by show _=_;unfold jh;rw[n];simp only[D]
   have i:Hid (∀W,Rst W q g B j->Calls prog 198 #[.pointer (some ⟨q,0,none⟩),.int .i64 12] W (TkE q g B Value.string (some (v,J)) W)):=fun W c=>D▸C.out 12 j W c;go_enter func185,ntmps185;go_wp2_with(refine yj rfl 2 rfl 122 rfl _ (N0 _) ?_;intro x H d t)
   refine(a.out x (A.out.k d)).mono ?_;rintro e F⟨⟨rfl,I⟩,p⟩;go_wp2_with fail;refine(i.out F I).mono ?_;rintro e P⟨⟨rfl,u⟩,E⟩;have N:=E.get (p.get H (by simp;omega)) (by simp;omega);have T:∀W:World,(Instr.build 41 #[(0,.string k),(1,.string v)]).run prog W=.ok (.agg #[.string k,.string v]) W:=fun W=>by kernel_rfl
   have L:∀W:World,(Instr.build 122 #[(0,.agg #[.string k,.string v])]).run prog W=.ok (.agg #[.string k,.string v]) W:=fun W=>by kernel_rfl
   go_wp2_with(refine ye rfl 122 (.tmp 2) (.tmp 10) rfl w.heap.size #[.string k,.string v] rfl rfl 122 _ N stp rfl (qf (Rv (k,v))) ?_;intro Q O G)
   refine aR (aI rfl _ Q w.heap.size 122 _ (0,0) _ rfl O underlying122 rfl stp) rfl ?_;rw[s.out];refine⟨⟨rfl,⟨G.get u.v (by simp;omega),G.get u.b (by simp;have n:=yt A.out.b;omega),u.l,u.r,u.e⟩⟩,(((d.mono (by simp)).trans p).trans E).trans2 G (by intro y K;simp at K;subst K;exact Or.inr (ag _))⟩
theorem Xt(q g:Nat)(B R:List UInt8)(w:World)(h:Rst w q g B R):Calls prog 187 #[.pointer (some ⟨q,0,none⟩)] w (TkE q g B encK (Qw R) w):=by
 have Z:=yt h.v;have F:=RQ q g B R 8;have E:Hid (Rst w q g B R):=h;clear h
 cases p:Q3 8 R with
 |none=>
  have s:Hid (Qw R=none):=by show _=_;unfold Qw;rw[p]
  have j:Hid (∀W,Rst W q g B R->Calls prog 198 #[.pointer (some ⟨q,0,none⟩),.int .i64 8] W (TkE q g B Value.string none W)):=fun W d=>p▸F W d;clear F;go_enter func187,ntmps187;go_wp2_with(refine yj rfl 2 rfl 80 rfl _ (zkid _) ?_;intro D K n x)
  refine(j.out D (E.out.k n)).mono ?_;rintro e H⟨ht,t⟩;obtain⟨f,o,rfl,N⟩:=Thr.ex ht;refine⟨rfl,?_⟩;rw[s.out];exact⟨ht,(n.mono (by simp)).trans t⟩
 |some z=>
  obtain⟨k,a⟩:=z;have S:=(ZI p).2;have j:Hid (∀W,Rst W q g B R->Calls prog 198 #[.pointer (some ⟨q,0,none⟩),.int .i64 8] W (TkE q g B Value.string (some (k,a)) W)):=fun W d=>p▸F W d;have c:(8:Int)-(k.size:Int)=((8-k.size:Nat):Int):=by omega
  clear F
  by_cases Q:8-k.size<=a.length
  ·have I:Hid (∀W,Rst W q g B a->Calls prog 199 #[.pointer (some ⟨q,0,none⟩),.int .i64 ((8:Int)-(k.size:Int))] W fun e i=>e=.returned (.slice (some ⟨g,124-a.length,none⟩) (8-k.size) (a.length+4))/\Rst i q g B (a.drop (8-k.size))/\y6 [q] W i):=fun W d=>by rw[c];exact PK q g B a (8-k.size) W d Q
   by_cases u:8-k.size+2<=a.length
   focus
    have s:Hid (Qw R=some ((k,qt ((a.drop (8-k.size)).take 2)),a.drop (8-k.size+2))):=by show _=_;unfold Qw;rw[p];simp only;rw[if_pos u]
    have M:Hid (∀W,Rst W q g B (a.drop (8-k.size))->Calls prog 200 #[.pointer (some ⟨q,0,none⟩),.int .i64 2] W fun e i=>e=.returned (.int .i64 (qt ((a.drop (8-k.size)).take 2):Nat))/\Rst i q g B (a.drop (8-k.size+2))/\y6 [q] W i):=fun W d=>by
     have:=V2 q g B (a.drop (8-k.size)) 2 W d (by rw[aC];omega) (by omega);rw[dL]at this;exact this
    generalize qt ((a.drop (8-k.size)).take 2)=m at*;have lJ:∀W:World,(Instr.build 80 #[(0,.string k),(1,.int .i64 (m:Nat))]).run prog W=.ok (.agg #[.string k,.int .i64 (m:Nat),.nilIface]) W:=fun W=>by kernel_rfl
   rotate_left
   focus
    have s:Hid (Qw R=none):=by show _=_;unfold Qw;rw[p];simp only;rw[if_neg u]
    have M:Hid (∀W,Rst W q g B (a.drop (8-k.size))->Calls prog 200 #[.pointer (some ⟨q,0,none⟩),.int .i64 2] W fun e i=>Thr 7 e i/\y6 [] W i):=fun W d=>U2 q g B (a.drop (8-k.size)) 2 W d (by rw[aC];omega)
   rotate_left
   all_goals
    clear c;go_enter func187,ntmps187;go_wp2_with(refine yj rfl 2 rfl 80 rfl _ (zkid _) ?_;intro D K n x)
    refine(j.out D (E.out.k n)).mono ?_;rintro e H⟨⟨rfl,L⟩,t⟩;go_wp2_with fail;refine(I.out H L).mono ?_;rintro e P⟨rfl,V,A⟩;go_wp2_with fail;refine(M.out P V).mono ?_
   ·rintro e X⟨rfl,C,G⟩;have T:=G.get (A.get (t.get K (by simp;omega)) (by simp;omega)) (by simp;omega);go_wp2_with(refine ye rfl 80 (.tmp 2) (.tmp 14) rfl w.heap.size #[.string k,.int .i64 (m:Nat),.nilIface] rfl rfl 80 _ T stk rfl (qf (jb _ _ rfl)) ?_;intro Y U J)
    refine aR (aI rfl _ Y w.heap.size 80 _ (0,0) _ rfl U underlying80 rfl stk) rfl ?_;rw[s.out];refine⟨⟨rfl,⟨J.get C.v (by simp;omega),J.get C.b (by simp;have p:=yt E.out.b;omega),C.l,C.r,C.e⟩⟩,((((n.mono (by simp)).trans t).trans A).trans G).trans2 J (by intro y O;simp at O;subst O;exact Or.inr (ag _))⟩
   ·rintro e X⟨ht,G⟩;obtain⟨f,o,rfl,N⟩:=ht.ex;refine⟨rfl,?_⟩;rw[s.out];exact⟨ht,(((n.mono (by simp)).trans t).trans A).trans2 G (by simp)⟩
  ·have s:Hid (Qw R=none):=by show _=_;unfold Qw;rw[p];simp only;rw[if_neg (by omega)]
   have I:Hid (∀W,Rst W q g B a->Calls prog 199 #[.pointer (some ⟨q,0,none⟩),.int .i64 ((8:Int)-(k.size:Int))] W fun e i=>Thr 7 e i/\y6 [] W i):=fun W d=>by rw[c];exact OT q g B a (8-k.size) W d (by omega)
   clear c;go_enter func187,ntmps187;go_wp2_with(refine yj rfl 2 rfl 80 rfl _ (zkid _) ?_;intro D K n x)
   refine(j.out D (E.out.k n)).mono ?_;rintro e H⟨⟨rfl,L⟩,t⟩;go_wp2_with fail;refine(I.out H L).mono ?_;rintro e P⟨ht,A⟩;obtain⟨f,o,rfl,N⟩:=ht.ex;refine⟨rfl,?_⟩;rw[s.out];exact⟨ht,((n.mono (by simp)).trans t).trans2 A (by simp)⟩
def kx(k:ByteArray×Nat):KE:=⟨k.1,.nilIface,k.2⟩
def pk0(k:ByteArray×Nat):El:=ke (kx k)
def TiI{α:Type}(t:List UInt8->Option (α×List UInt8))(el:α->El)(T:TypeId)(d n q g g2:Nat)(B:List UInt8)(w:World)(i:Value)(wr:World):Prop:=
 ∃(j:Nat) (l:List α) (R:List UInt8) (cur:List Value),j<=n/\i=.int .i64 (j:Nat)/\gd t j ((B.drop 2).take 122)=some (l,R)/\Rst wr q g B R/\Rw wr g2 T cur/\cur.length=n*d/\cur.take (j*d)=fl (l.map el)/\y6 [] w wr
def TiR{α:Type}(t:List UInt8->Option (α×List UInt8))(el:α->El)(T:TypeId)(d n:Nat)(B:List UInt8)(w:World)(e:Ending)(w':World):Prop:=
 (match gd t n ((B.drop 2).take 122)with
  |some (l,_)=>∃v,e=.returned v/\SL w' T d v (l.map el)/\∀b,v.ownBlock=some b->w.heap.size<=b
  |none=>Thr 7 e w')/\y6 [] w w'
theorem Qc1(l:List Pr):Wd 2 (l.map pe):=by
 intro e a;obtain⟨x,_,rfl⟩:=bg.1 a;rfl
theorem Qc2(l:List (ByteArray×Nat)):Wd 3 (l.map pk0):=by
 intro e a;obtain⟨x,_,rfl⟩:=bg.1 a;rfl
theorem Vf{q:Nat}(hv:w.heap[q]?=some (.cells #[.slice (some ⟨g,2,none⟩) 122 126] 246 (0,0)))(hb:w.heap[g]?=some (.cells (u8s B).toArray 92 (0,0)))(hl:B.length=128):Rst w q g B ((B.drop 2).take 122):=by
 have e:((B.drop 2).take 122).length=122:=by rw[au,aC];omega
 exact⟨by rw[e];exact hv,hb,hl,by omega,by rw[e]⟩
theorem Qc4(n:Nat)(hn:n<=255):∃new:List Value,new.length=n*2/\∀W:World,(Instr.makeSlice 115 (.int .i64 (n:Nat)) (.int .i64 (n:Nat))).run prog W=.ok (.slice (some ⟨W.heap.size,0,none⟩) n n) (W.alloc (.cells new.toArray 122)):=by
 obtain⟨e,d,a,c,b⟩:=bu itp;refine⟨(madeCells (Value.agg #[.string ⟨#[]⟩,.string ⟨#[]⟩]).cells (n*2)).toList,by rw[bZ,size_madeCells],fun W=> ?_⟩;have:=run_make (P:=prog) W 115 122 e _ underlying115 d a .i64 .i64 (n:Int) (n:Int) (by omega) (by omega) (by rw[b];omega) (by omega);rw[this,c];simp only[Int.toNat_natCast,Array.toArray_toList]
theorem Qc5(g n:Nat)(B:List UInt8)(w:World)(hb:w.heap[g]?=some (.cells (u8s B).toArray 92 (0,0)))(hl:B.length=128)(hn:n<=255):
  Calls prog 184 #[.slice (some ⟨g,2,none⟩) 122 126,.int .i64 (n:Nat),.func (.func 185) #[] #[]] w (TiR jh pe 122 2 n B w):=by
 obtain⟨C,fG,uA⟩:=Qc4 n hn;have I:Hid (∀R W,Rst W w.heap.size g B R->Calls prog 185 #[.pointer (some ⟨w.heap.size,0,none⟩)] W (TkE w.heap.size g B encQ (jh R) W)):=fun R W hW=>QbZ w.heap.size g B R W hW;have uR:∀(h:Array Value) (W:World),(callFunc 185 h).run prog W=.ok (.enter 185 h) W:=fun _ _=>by kernel_rfl
 have HM:Hid _:=uA;clear uA;go_enter func184,ntmps184;go_wp2_with(first|(refine yw rfl _ _ (jZ 246 (.tmp 0) rfl (.slice (some ⟨g,2,none⟩) 122 126) rfl rfl) ?_;intro d Z S c;have K:Hid _:=c;clear c)|(at_make;refine jH rfl _ _ _ rfl _ _ rfl rfl _ _ (HM.out d) ?_;intro U n2 G V;have nO:Hid _:=V;clear V))
 have r2:Rst U w.heap.size g B ((B.drop 2).take 122):=Vf (G.get Z (by simp)) (G.get (S.get hb (by simp)) (by simp)) hl;have K2:=S.trans G;have C3:Rw U d.heap.size 122 C:=n2;have vB:Hid (Rst U w.heap.size g B ((B.drop 2).take 122)):=r2;clear r2 Z n2 S G
 go_loopw [13] (fun i wr=>TiI jh pe 122 2 n w.heap.size g d.heap.size B w i wr) (fun i _=>n-(intOf i).toNat)
 case atStart=>exact⟨0,[],_,C,ay _,rfl,rfl,vB.out,C3,fG,by simp[fl],K2⟩
 case round=>
  obtain⟨j,l,R,a,hj,rfl,u,D,X,q,A,L⟩:=hrel;have iL:=R6 u
  by_cases M:j<n
  ·have Y:(j:Int)<(n:Int):=by omega
   have t:=I.out R wr D
   cases E:jh R with
   |none=>
    rw[E]at t;have T:Hid (Calls _ _ _ _ _):=t;have H:Hid (gd jh n ((B.drop 2).take 122)=none):=by
     show _=_;have:=Px jh j ((B.drop 2).take 122) R l u E (n-(j+1));rw[show j+1+(n-(j+1))=n by omega]at this;exact this
    clear t D;go_wp2_with fail;refine T.out.mono ?_;rintro e p⟨ht,F⟩;obtain⟨f,o,rfl,hf⟩:=Thr.ex ht;refine⟨rfl,?_,L.trans2 F (by intro y m;simp at m;subst m;exact Or.inr (ag _))⟩;rw[H.out];exact ht
   |some z=>
    obtain⟨x,J⟩:=z;rw[E]at t;have T:Hid (Calls _ _ _ _ _):=t;have H:Hid (gd jh (j+1) ((B.drop 2).take 122)=some (l++ [x],J)):=by
     show _=_;rw[Z7,u];simp only[E]
    clear t D;go_wp2_with fail;refine T.out.mono ?_;rintro e p⟨⟨rfl,s⟩,F⟩;have c:=K.out;have O:Rw p d.heap.size 122 a:=X.kept F (by simp;omega);have k:j*2+2<=a.length:=by rw[q];omega
    have N:=yI (P:=prog) p d.heap.size (j*2) 122 122 a [.string x.1,.string x.2] O (by rw[stp];rfl) (by show j*2+2<=a.length;exact k) (Rv x);have Q:y6 [d.heap.size] p (p.setRow d.heap.size (splice a (j*2) [.string x.1,.string x.2]).toArray):=(y6.refl _ _).setRow (Or.inl (by simp)) _;have oU:Rw (p.setRow d.heap.size (splice a (j*2) [.string x.1,.string x.2]).toArray) d.heap.size 122 (splice a (j*2) [.string x.1,.string x.2]):=bH _ _ _ _ _ _ O;generalize p.setRow d.heap.size (splice a (j*2) [.string x.1,.string x.2]).toArray=w4 at*;have ki:(storeVar 122 ⟨d.heap.size,j*2,none⟩ (encQ x)).run prog p=.ok () w4:=N;have C4:Hid (Rst w4 w.heap.size g B J):=⟨Q.get s.v (by simp;omega),Q.get s.b (by simp;exact yP s.b O (by decide)),s.l,s.r,s.e⟩
    clear s c;simp only[encQ];go_wp2_with(first|(refine ya rfl _ _ (yc 115 (.tmp 16) (.tmp 17) rfl d.heap.size 0 n n j 2 rfl rfl 122 underlying115 stp M (j*2) (by omega)) ?_)|(refine gL rfl _ (yK 122 (.tmp 20) (.tmp 19) rfl ⟨d.heap.size,j*2,none⟩ rfl (.agg (List.toArray [.string x.1,.string x.2])) rfl ki) ?_))
    have c:=K.out;have vG:(splice a (j*2) [.string x.1,.string x.2]).take ((j+1)*2)=fl ((l++ [x]).map pe):=by
     rw[cS,qx,<-A];have e1:(a.take (j*2)).length=j*2:=by rw[au];omega
     unfold splice;rw[dS,e1,aJ (l:=a.take (j*2)) (by omega),show(j+1)*2-j*2=2 by omega];congr 1
    go_roundw
    case rel=>exact⟨j+1,l++ [x],J,_,by omega,by go_num,H.out,C4.out,oU,by rw[aN _ _ _ (by show j*2+2<=a.length;exact k),q],vG,(L.trans2 F (by intro y m;simp at m;subst m;exact Or.inr (ag _))).trans2 Q (by intro y m;simp at m;subst m;exact Or.inr (by omega))⟩
    case measure=>simp[intOf];omega
  ·have hge:¬(j:Int)<(n:Int):=by omega
   have ej:j=n:=by omega
   subst ej;have C5:Hid (gd jh j ((B.drop 2).take 122)=some (l,R)):=u;clear u D;go_wp2;go_ret;have c:=K.out;refine⟨?_,L⟩;rw[C5.out];refine⟨_,rfl,?_,?_⟩
   ·have:=OW.close (B:=w.heap.size) (w:=wr) (Qc1 l) (by omega) X (by rw[aj,iL]) (ag _) (by unfold maxLen;omega) q A;exact this.sl
   ·intro b hb;simp[Value.ownBlock]at hb;omega
theorem Qc6(n:Nat)(hn:n<=255):∃new:List Value,new.length=n*3/\∀W:World,(Instr.makeSlice 165 (.int .i64 (n:Nat)) (.int .i64 (n:Nat))).run prog W=.ok (.slice (some ⟨W.heap.size,0,none⟩) n n) (W.alloc (.cells new.toArray 80)):=by
 obtain⟨e,d,a,c,b⟩:=bu itk;refine⟨(madeCells (Value.agg #[.string ⟨#[]⟩,.int .i64 0,.nilIface]).cells (n*3)).toList,by rw[bZ,size_madeCells],fun W=> ?_⟩;have:=run_make (P:=prog) W 165 80 e _ underlying165 d a .i64 .i64 (n:Int) (n:Int) (by omega) (by omega) (by rw[b];omega) (by omega);rw[this,c];simp only[Int.toNat_natCast,Array.toArray_toList]
theorem XH(g n:Nat)(B:List UInt8)(w:World)(hb:w.heap[g]?=some (.cells (u8s B).toArray 92 (0,0)))(hl:B.length=128)(hn:n<=255):
  Calls prog 186 #[.slice (some ⟨g,2,none⟩) 122 126,.int .i64 (n:Nat),.func (.func 187) #[] #[]] w (TiR Qw pk0 80 3 n B w):=by
 obtain⟨C,fG,uA⟩:=Qc6 n hn;have I:Hid (∀R W,Rst W w.heap.size g B R->Calls prog 187 #[.pointer (some ⟨w.heap.size,0,none⟩)] W (TkE w.heap.size g B encK (Qw R) W)):=fun R W hW=>Xt w.heap.size g B R W hW;have uR:∀(h:Array Value) (W:World),(callFunc 187 h).run prog W=.ok (.enter 187 h) W:=fun _ _=>by kernel_rfl
 have HM:Hid _:=uA;clear uA;go_enter func186,ntmps186;go_wp2_with(first|(refine yw rfl _ _ (jZ 246 (.tmp 0) rfl (.slice (some ⟨g,2,none⟩) 122 126) rfl rfl) ?_;intro d Z S c;have K:Hid _:=c;clear c)|(at_make;refine jH rfl _ _ _ rfl _ _ rfl rfl _ _ (HM.out d) ?_;intro U n2 G V;have nO:Hid _:=V;clear V))
 have r2:Rst U w.heap.size g B ((B.drop 2).take 122):=Vf (G.get Z (by simp)) (G.get (S.get hb (by simp)) (by simp)) hl;have K2:=S.trans G;have C3:Rw U d.heap.size 80 C:=n2;have vB:Hid (Rst U w.heap.size g B ((B.drop 2).take 122)):=r2;clear r2 Z n2 S G
 go_loopw [13] (fun i wr=>TiI Qw pk0 80 3 n w.heap.size g d.heap.size B w i wr) (fun i _=>n-(intOf i).toNat)
 case atStart=>exact⟨0,[],_,C,ay _,rfl,rfl,vB.out,C3,fG,by simp[fl],K2⟩
 case round=>
  obtain⟨j,l,R,a,hj,rfl,u,D,X,q,A,L⟩:=hrel;have iL:=R6 u
  by_cases M:j<n
  ·have Y:(j:Int)<(n:Int):=by omega
   have t:=I.out R wr D
   cases E:Qw R with
   |none=>
    rw[E]at t;have T:Hid (Calls _ _ _ _ _):=t;have H:Hid (gd Qw n ((B.drop 2).take 122)=none):=by
     show _=_;have:=Px Qw j ((B.drop 2).take 122) R l u E (n-(j+1));rw[show j+1+(n-(j+1))=n by omega]at this;exact this
    clear t D;go_wp2_with fail;refine T.out.mono ?_;rintro e p⟨ht,F⟩;obtain⟨f,o,rfl,hf⟩:=Thr.ex ht;refine⟨rfl,?_,L.trans2 F (by intro y m;simp at m;subst m;exact Or.inr (ag _))⟩;rw[H.out];exact ht
   |some z=>
    obtain⟨x,J⟩:=z;rw[E]at t;have T:Hid (Calls _ _ _ _ _):=t;have H:Hid (gd Qw (j+1) ((B.drop 2).take 122)=some (l++ [x],J)):=by
     show _=_;rw[Z7,u];simp only[E]
    clear t D;go_wp2_with fail;refine T.out.mono ?_;rintro e p⟨⟨rfl,s⟩,F⟩;have c:=K.out;have O:Rw p d.heap.size 80 a:=X.kept F (by simp;omega);have k:j*3+3<=a.length:=by rw[q];omega
    have N:=yI (P:=prog) p d.heap.size (j*3) 80 80 a [.string x.1,.int .i64 (x.2:Nat),.nilIface] O (by rw[stk];rfl) (by show j*3+3<=a.length;exact k) (jb _ _ rfl);have Q:y6 [d.heap.size] p (p.setRow d.heap.size (splice a (j*3) [.string x.1,.int .i64 (x.2:Nat),.nilIface]).toArray):=(y6.refl _ _).setRow (Or.inl (by simp)) _;have oU:Rw (p.setRow d.heap.size (splice a (j*3) [.string x.1,.int .i64 (x.2:Nat),.nilIface]).toArray) d.heap.size 80 (splice a (j*3) [.string x.1,.int .i64 (x.2:Nat),.nilIface]):=bH _ _ _ _ _ _ O;generalize p.setRow d.heap.size (splice a (j*3) [.string x.1,.int .i64 (x.2:Nat),.nilIface]).toArray=w4 at*;have ki:(storeVar 80 ⟨d.heap.size,j*3,none⟩ (encK x)).run prog p=.ok () w4:=N;have C4:Hid (Rst w4 w.heap.size g B J):=⟨Q.get s.v (by simp;omega),Q.get s.b (by simp;exact yP s.b O (by decide)),s.l,s.r,s.e⟩
    clear s c;simp only[encK];go_wp2_with(first|(refine ya rfl _ _ (yc 165 (.tmp 16) (.tmp 17) rfl d.heap.size 0 n n j 3 rfl rfl 80 underlying165 stk M (j*3) (by omega)) ?_)|(refine gL rfl _ (yK 80 (.tmp 20) (.tmp 19) rfl ⟨d.heap.size,j*3,none⟩ rfl (.agg (List.toArray [.string x.1,.int .i64 (x.2:Nat),.nilIface])) rfl ki) ?_))
    have c:=K.out;have vG:(splice a (j*3) [.string x.1,.int .i64 (x.2:Nat),.nilIface]).take ((j+1)*3)=fl ((l++ [x]).map pk0):=by
     rw[cS,qx,<-A];have e1:(a.take (j*3)).length=j*3:=by rw[au];omega
     unfold splice;rw[dS,e1,aJ (l:=a.take (j*3)) (by omega),show(j+1)*3-j*3=3 by omega];congr 1
    go_roundw
    case rel=>exact⟨j+1,l++ [x],J,_,by omega,by go_num,H.out,C4.out,oU,by rw[aN _ _ _ (by show j*3+3<=a.length;exact k),q],vG,(L.trans2 F (by intro y m;simp at m;subst m;exact Or.inr (ag _))).trans2 Q (by intro y m;simp at m;subst m;exact Or.inr (by omega))⟩
    case measure=>simp[intOf];omega
  ·have hge:¬(j:Int)<(n:Int):=by omega
   have ej:j=n:=by omega
   subst ej;have C5:Hid (gd Qw j ((B.drop 2).take 122)=some (l,R)):=u;clear u D;go_wp2;go_ret;have c:=K.out;refine⟨?_,L⟩;rw[C5.out];refine⟨_,rfl,?_,?_⟩
   ·have:=OW.close (B:=w.heap.size) (w:=wr) (Qc2 l) (by omega) X (by rw[aj,iL]) (ag _) (by unfold maxLen;omega) q A;exact this.sl
   ·intro b hb;simp[Value.ownBlock]at hb;omega
theorem VF{P:Program}{o:Oper}{a:Act}(t u:TypeId)(x y:Operand)(ho:o.op=.binOp .eql t x y u)(A B:List UInt8)(hx:a.eval x=.agg (u8s A).toArray)(hy:a.eval y=.agg (u8s B).toArray)
  (len:Nat)(e:TypeId)(hA:A.length=len)(hB:B.length=len)(ht:P.underlying t=some (.array len e))(he:P.underlying e=some (.int .u8))(hs:(P.info? e).map (·.size)=some 1)(hm:P.eqGuardType P.depth t=false):
  (execOp a.eval o).run P w=.ok (.value (.bool (decide (A=B)))) w:=by
 have b:(binOp .eql t (.agg (u8s A).toArray) (.agg (u8s B).toArray)).run P w=.ok (.bool (decide (A=B))) w:=by
  rw[run_eql_struct,VJ P w 9998 len t e A B hA hB ht he hs];rfl
 unfold execOp;simp only[ho,hx,hy,Sem.run_bind,run_eqGuard_agg (P:=P) (w:=w) .eql t x y _ _ hm,b,Result.andThen_ok,Sem.run_pure]
def NbV(w:World)(A:Nat->Prop):Nb->Value->Prop
 | .leaf l,x=>∃v,x=.iface 116 v/\LF w v l/\∀b,v.ownBlock=some b->A b
 | .branch ks,x=>∃v,x=.iface 168 v/\SL w 80 3 v (ks.map pk0)/\∀b,v.ownBlock=some b->A b
def TnR(B:List UInt8)(w:World)(e:Ending)(w':World):Prop:=
 (match decN B with
  |some nb=>∃x,e=.returned x/\NbV w' (fun y=>w.heap.size<=y) nb x
  |none=>Thr 7 e w')/\y6 [] w w'
def TnS(g:Nat)(B:List UInt8)(W:World):Prop:=W.heap[g]?=some (.cells (u8s B).toArray 92 (0,0))
theorem Qc9(W:World)(g:Nat):(Instr.sliceAt 92 (.pointer (some ⟨g,0,none⟩)) (some (.int .i64 2)) (some (.int .i64 124)) none).run prog W=.ok (.slice (some ⟨g,2,none⟩) 122 126) W:=by kernel_rfl
theorem Q8(args:Array Value)(w:World):(callFunc 188 args).run prog w=.ok (.enter 188 args) w:=qy func188 (by kernel_rfl) (by kernel_rfl) args w
variable {R':List UInt8}
theorem Qca{n:Nat}{l:List Pr}(hR:R.length<=122)(h:gd jh n R=some (l,R')):Qx (.leaf l):=by
 obtain⟨d,e⟩:=NW (G:=fun p:Pr=>p.1.size<=8/\p.2.size<=12) (sz:=fun p:Pr=>2+p.1.size+p.2.size) (fun r a f h=>by obtain⟨b,c⟩:=Wc h;exact⟨c,by rw[b,ai,Pu]⟩) h;exact⟨d,by omega⟩
theorem Qcb{n:Nat}{l:List (ByteArray×Nat)}(hR:R.length<=122)(h:gd Qw n R=some (l,R')):Qx (.branch l):=by
 obtain⟨b,f⟩:=NW (G:=fun k:ByteArray×Nat=>k.1.size<=8/\k.2<65536) (sz:=fun _=>11) (fun r a i h=>by obtain⟨c,d,e⟩:=VL h;exact⟨⟨c,d⟩,e⟩) h;have g:(l.map fun _=>11).sum=11*l.length:=by
  clear h b f
  induction l with
  |nil=>rfl
  |cons a l ih=>simp[ih];omega
 exact⟨b,by omega⟩
theorem Nl(l:List (ByteArray×Nat)):(l.map kx).map ke=l.map pk0/\(l.map kx).map kp=l:=by
 constructor
 ·rw[List.map_map];rfl
 ·rw[List.map_map]
  conv=>rhs;rw[<-List.map_id l]
  rfl
theorem Qcd(B:List UInt8)(w:World)(hB:B.length=128):Calls prog 173 #[.agg (u8s B).toArray] w (TnR B w):=by
 obtain⟨r,j,A,S⟩:∃r j A,B=r::j::A:=by
  match B,hB with
  |r::j::A,_=>exact⟨r,j,A,rfl⟩
 have O:B[0]?=some r:=by rw[S];rfl
 have U:B[1]?=some j:=by rw[S];rfl
 have hc0:(u8s B).toArray[0]?=some (.int .u8 r.toNat):=by rw[S];rfl
 have hc1:(u8s B).toArray[1]?=some (.int .u8 j.toNat):=by rw[S];rfl
 have h1:=j.toNat_lt;have h0:=r.toNat_lt;clear S;go_enter func173,ntmps173;go_wp2_with(refine yw rfl _ _ (j8 92 (.tmp 0) rfl (u8s B).toArray rfl) ?_;intro Y n1 k1 V;have hU:Hid _:=V;clear V)
 have P:TnS w.heap.size B Y.drew:=n1;refine yo (TnS w.heap.size B) (by kernel_rfl) ?_;refine uh 0 ((.slice (some ⟨w.heap.size,2,none⟩) 122 126)) rfl (fun W a=>yY 92 (.tmp 1) (some (.const (.int .i64 2))) (some (.const (.int .i64 124))) none rfl _ (some (.int .i64 2)) (some (.int .i64 124)) none rfl rfl rfl rfl _ (Qc9 W _)) P ?_;refine uh 1 ((.pointer (some ⟨w.heap.size,1,none⟩))) rfl (fun W a=>by rfl) P ?_;refine uh 2 ((.int .u8 j.toNat)) rfl (fun W a=>y9 5 (.tmp 7) rfl ⟨w.heap.size,1,none⟩ rfl _ (yh underlying5 rfl (y7 a hc1))) P ?_;refine uh 3 ((.int .i64 (IntKind.i64.wrap (j.toNat:Int)))) rfl (fun W a=>TF 5 3 (.tmp 8) rfl .u8 .i64 _ _ rfl underlying5 underlying3) P ?_;rw[show IntKind.i64.wrap (j.toNat:Int)=(j.toNat:Int)by rw[IntKind.wrap_i64];omega];refine uh 4 ((.slice (some ⟨w.heap.size,2,none⟩) 122 126)) rfl (fun W a=>by rfl) P ?_;refine uh 5 ((.int .i64 (j.toNat:Nat))) rfl (fun W a=>by rfl) P ?_;refine aK (by kernel_rfl) ?_ _;have I:Y.drew.heap[w.heap.size]?=some (.cells (u8s B).toArray 92 (0,0)):=n1;have wV:Y.drew.cell? ⟨w.heap.size,0,none⟩=some (.int .u8 r.toNat):=y7 I hc0;have N:y6 [] w Y.drew:=k1.drew;generalize Y.drew=w2 at*;clear P n1 k1
 by_cases C:r=76
 ·have Q:(r.toNat:Int)=76:=by rw[C];rfl
  rw[Q]at wV;have q:Hid (decN B=match gd jh j.toNat ((B.drop 2).take 122)with
    |none=>none
    |some (l,_)=>if encL l=B then some (.leaf l)else none):=by
   show _=_;unfold decN;simp only[O,U,cV];simp only[C];rfl
  have u:Hid (∀W:World,W.heap[w.heap.size]?=some (.cells (u8s B).toArray 92 (0,0))->_):=fun W a=>Qc5 w.heap.size j.toNat B W a hB (by omega)
  cases E:gd jh j.toNat ((B.drop 2).take 122)with
  |none=>
   rw[E]at q;go_wp2_with fail;refine(u.out _ I).mono ?_;rintro e g⟨ht,G⟩;rw[E]at ht;obtain⟨f,o,rfl,Z⟩:=Thr.ex ht;refine⟨rfl,?_,N.trans G⟩;rw[q.out];exact ht
  |some z=>
   obtain⟨l,R'⟩:=z;rw[E]at q;have s:=Qca (by rw[au];omega) E;have C6:(encL l).length=128:=OH (n:=.leaf l) s;go_wp2_with fail;refine(u.out _ I).mono ?_;rintro e g⟨t,G⟩;rw[E]at t;obtain⟨v,rfl,F,ia⟩:=t;have R:=N.trans G;obtain⟨p,m,T⟩:=F.shape;rw[aj]at T;subst T;have rD:=G.get I (by simp);have M:Hid (SL g 122 2 (.slice p l.length m) (l.map pe)):=F;clear u;go_wp2_with fail;have c:TnS w.heap.size B g.drew:=rD;obtain⟨tt,et,zw,zx⟩:=V8 p l.length m
   cases et
   have L:Hid (Calls _ _ _ _ _):=WD (.slice p l.length m) l g.drew (SL.kept F (y6.refl [] g).drew) s;refine yo (TnS w.heap.size B) (by kernel_rfl) ?_;refine uh 0 ((.iface 116 (.slice p l.length m))) rfl (fun W a=>by rfl) c ?_;refine uh 1 ((.bool true)) rfl (fun W a=>by rfl) c ?_;refine uh 2 ((.bool true)) rfl (fun W a=>by rfl) c ?_;refine uh 3 ((.iface 116 (.slice p l.length m))) rfl (fun W a=>by rfl) c ?_;refine uh 5 ((.agg (u8s B).toArray)) rfl (fun W a=>y9 92 (.tmp 1) rfl ⟨w.heap.size,0,none⟩ rfl _ (Pf a hB)) c ?_;refine yi (i:=4) (by kernel_rfl) (yp rfl (by rfl) _ #[(.slice p l.length m)] (ZT (.tmp 27) "store/tree.block" rfl 116 (.slice p l.length m) rfl _ (zw _) (zx _ _)) _ L.out ?_);rintro e wz⟨rfl,H⟩;have D:TnS w.heap.size B wz:=H.get c (by simp);refine⟨_,rfl,D,?_⟩;simp only[zz];refine uh 6 ((.bool (decide (encL l=B)))) rfl (fun W a=>VF 92 92 (.tmp 28) (.tmp 29) rfl (encL l) B rfl rfl 128 5 C6 hB underlying92 underlying5 su8 (by kernel_rfl)) D ?_
   by_cases d:encL l=B
   ·rw[show decide (encL l=B)=true from bM d];refine uh 7 ((.bool true)) rfl (fun W a=>by rfl) D ?_;refine yi (i:=8) (by kernel_rfl) (yp rfl (by rfl) 188 #[.bool true] (yn _ _ _ rfl _ (by simp[Act.eval]) (Q8 _ _)) _ (jK _) ?_);rintro e J⟨rfl,ey⟩;subst ey;refine⟨_,rfl,D,?_⟩;simp only[zz];refine aK (by kernel_rfl) ?_ _;rw[if_pos d]at q;have KZ:y6 [] w J:=(R.trans (y6.refl [] g).drew).trans H;have K:Hid (NbV J (fun y=>w.heap.size<=y) (.leaf l) (.iface 116 (.slice p l.length m))):=⟨_,rfl,SL.kept M.out ((y6.refl [] g).drew.trans H),fun b hb=>av N.size (ia b hb)⟩
    clear c D F;go_wp2;go_ret;refine⟨?_,KZ⟩;rw[q.out];exact⟨_,rfl,K.out⟩
   ·rw[show decide (encL l=B)=false from ct d];refine uh 7 ((.bool false)) rfl (fun W a=>by rfl) D ?_;refine yi (i:=8) (by kernel_rfl) (jO rfl (by rfl) 188 #[.bool false] (yn _ _ _ rfl _ (by simp[Act.eval]) (Q8 _ _)) _ (jB _) ?_);rintro e J⟨ht,X⟩;obtain⟨f,o,rfl,Z⟩:=ht.ex;refine Or.inr ⟨_,rfl,rfl,?_⟩;rw[if_neg d]at q;refine⟨?_,((R.trans (y6.refl [] g).drew).trans H).trans X⟩;rw[q.out];exact ht
 ·by_cases rO:r=66
  ·have Q:(r.toNat:Int)=66:=by rw[rO];rfl
   rw[Q]at wV;have C:r=66:=rO;have q:Hid (decN B=match gd Qw j.toNat ((B.drop 2).take 122)with
     |none=>none
     |some (l,_)=>if encB l=B then some (.branch l)else none):=by
    show _=_;unfold decN;simp only[O,U,cV];simp only[C];rfl
   have u:Hid (∀W:World,W.heap[w.heap.size]?=some (.cells (u8s B).toArray 92 (0,0))->_):=fun W a=>XH w.heap.size j.toNat B W a hB (by omega)
   cases E:gd Qw j.toNat ((B.drop 2).take 122)with
   |none=>
    rw[E]at q;go_wp2_with fail;refine(u.out _ I).mono ?_;rintro e g⟨ht,G⟩;rw[E]at ht;obtain⟨f,o,rfl,Z⟩:=Thr.ex ht;refine⟨rfl,?_,N.trans G⟩;rw[q.out];exact ht
   |some z=>
    obtain⟨l,R'⟩:=z;rw[E]at q;have s:=Qcb (by rw[au];omega) E;have C6:(encB l).length=128:=OH (n:=.branch l) s;go_wp2_with fail;refine(u.out _ I).mono ?_;rintro e g⟨t,G⟩;rw[E]at t;obtain⟨v,rfl,F,ia⟩:=t;have R:=N.trans G;obtain⟨p,m,T⟩:=F.shape;rw[aj]at T;subst T;have rD:=G.get I (by simp);have I3:Hid (Calls prog 250 #[.slice p l.length m] g.drew fun e w'=>e=.returned (.agg (u8s (encB l)).toArray)/\y6 [] g.drew w'):=by
     have:=TA (.slice p l.length m) (l.map kx) g.drew (by rw[(Nl l).1];exact SL.kept F (y6.refl [] g).drew) (by rw[(Nl l).2];exact s) (by intro x hx;obtain⟨k,_,rfl⟩:=bg.1 hx;exact Or.inl rfl);rw[(Nl l).2]at this;exact this
    have M:Hid (SL g 80 3 (.slice p l.length m) (l.map pk0)):=F;clear u;go_wp2_with fail;have c:TnS w.heap.size B g.drew:=rD;obtain⟨tt,et,zw,zx⟩:=UI p l.length m
    cases et
    have L:Hid (Calls _ _ _ _ _):=I3.out;refine yo (TnS w.heap.size B) (by kernel_rfl) ?_;refine uh 0 ((.iface 168 (.slice p l.length m))) rfl (fun W a=>by rfl) c ?_;refine uh 1 ((.bool true)) rfl (fun W a=>by rfl) c ?_;refine uh 2 ((.bool true)) rfl (fun W a=>by rfl) c ?_;refine uh 3 ((.iface 168 (.slice p l.length m))) rfl (fun W a=>by rfl) c ?_;refine uh 5 ((.agg (u8s B).toArray)) rfl (fun W a=>y9 92 (.tmp 1) rfl ⟨w.heap.size,0,none⟩ rfl _ (Pf a hB)) c ?_;refine yi (i:=4) (by kernel_rfl) (yp rfl (by rfl) _ #[(.slice p l.length m)] (ZT (.tmp 27) "store/tree.block" rfl 168 (.slice p l.length m) rfl _ (zw _) (zx _ _)) _ L.out ?_);rintro e wz⟨rfl,H⟩;have D:TnS w.heap.size B wz:=H.get c (by simp);refine⟨_,rfl,D,?_⟩;simp only[zz];refine uh 6 ((.bool (decide (encB l=B)))) rfl (fun W a=>VF 92 92 (.tmp 28) (.tmp 29) rfl (encB l) B rfl rfl 128 5 C6 hB underlying92 underlying5 su8 (by kernel_rfl)) D ?_
    by_cases d:encB l=B
    ·rw[show decide (encB l=B)=true from bM d];refine uh 7 ((.bool true)) rfl (fun W a=>by rfl) D ?_;refine yi (i:=8) (by kernel_rfl) (yp rfl (by rfl) 188 #[.bool true] (yn _ _ _ rfl _ (by simp[Act.eval]) (Q8 _ _)) _ (jK _) ?_);rintro e J⟨rfl,ey⟩;subst ey;refine⟨_,rfl,D,?_⟩;simp only[zz];refine aK (by kernel_rfl) ?_ _;rw[if_pos d]at q;have KZ:y6 [] w J:=(R.trans (y6.refl [] g).drew).trans H;have K:Hid (NbV J (fun y=>w.heap.size<=y) (.branch l) (.iface 168 (.slice p l.length m))):=⟨_,rfl,SL.kept M.out ((y6.refl [] g).drew.trans H),fun b hb=>av N.size (ia b hb)⟩
     clear c D F;go_wp2;go_ret;refine⟨?_,KZ⟩;rw[q.out];exact⟨_,rfl,K.out⟩
    ·rw[show decide (encB l=B)=false from ct d];refine uh 7 ((.bool false)) rfl (fun W a=>by rfl) D ?_;refine yi (i:=8) (by kernel_rfl) (jO rfl (by rfl) 188 #[.bool false] (yn _ _ _ rfl _ (by simp[Act.eval]) (Q8 _ _)) _ (jB _) ?_);rintro e J⟨ht,X⟩;obtain⟨f,o,rfl,Z⟩:=ht.ex;refine Or.inr ⟨_,rfl,rfl,?_⟩;rw[if_neg d]at q;refine⟨?_,((R.trans (y6.refl [] g).drew).trans H).trans X⟩;rw[q.out];exact ht
  ·have Lc:¬(r.toNat:Int)=76:=fun e=>C (UInt8.toNat_inj.1 (by show r.toNat=76;omega));have Ld:¬(r.toNat:Int)=66:=fun e=>rO (UInt8.toNat_inj.1 (by show r.toNat=66;omega));have q:Hid (decN B=none):=by
    show _=_;unfold decN;simp only[O];rw[if_neg (by simpa using C),if_neg (by simpa using rO)]
   go_wp2_with fail;have c:TnS w.heap.size B w2.drew:=I;refine yo (TnS w.heap.size B) (by kernel_rfl) ?_;refine uh 0 (.nilIface) rfl (fun W a=>by rfl) c ?_;refine uh 1 ((.bool false)) rfl (fun W a=>by rfl) c ?_;refine uh 2 ((.bool false)) rfl (fun W a=>by rfl) c ?_;refine bU (i:=3) (v:=undef) rfl (by kernel_rfl) (by kernel_rfl) (by kernel_rfl) (fun _ _ _ h=>h) (Or.inr ⟨by rfl,rfl⟩) c ?_;simp only[zz];refine bU (i:=4) (v:=undef) rfl (by kernel_rfl) (by kernel_rfl) (by kernel_rfl) (fun _ _ _ h=>h) (Or.inr ⟨by rfl,rfl⟩) c ?_;simp only[zz];refine bU (i:=5) (v:=undef) rfl (by kernel_rfl) (by kernel_rfl) (by kernel_rfl) (fun _ _ _ h=>h) (Or.inr ⟨by rfl,rfl⟩) c ?_;simp only[zz];refine bU (i:=6) (v:=undef) rfl (by kernel_rfl) (by kernel_rfl) (by kernel_rfl) (fun _ _ _ h=>h) (Or.inr ⟨by rfl,rfl⟩) c ?_;simp only[zz];refine uh 7 ((.bool false)) rfl (fun W a=>by rfl) c ?_;refine yi (i:=8) (by kernel_rfl) (jO rfl (by rfl) 188 #[.bool false] (yn _ _ _ rfl _ (by simp[Act.eval]) (Q8 _ _)) _ (jB _) ?_);rintro e J⟨ht,X⟩;obtain⟨f,o,rfl,Z⟩:=ht.ex;refine Or.inr ⟨_,rfl,rfl,?_,(N.trans (y6.refl [] w2).drew).trans X⟩;rw[q.out];exact ht
end Go.Proofs.YtcklgafpgdhnaaaGreatDoor
