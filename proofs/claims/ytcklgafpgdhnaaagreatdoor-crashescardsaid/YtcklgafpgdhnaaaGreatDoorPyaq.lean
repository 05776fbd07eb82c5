import Derived.Test.YtcklgafpgdhnaaaGreatDoorPyao
import Derived.Shelf.Strconv.Itoa3
import Derived.Lib.ItoaLen
set_option maxRecDepth 100000
set_option maxHeartbeats 4000000
set_option linter.unusedSimpArgs false
set_option linter.unusedVariables false
set_option linter.unusedSectionVars false
open Go.Proofs.Tryz
namespace Go.Proofs.YtcklgafpgdhnaaaGreatDoor
open Go.RowKit
theorem Nj(x y:Int):bits .xor .u32 x y=((BitVec.ofInt 32 x^^^BitVec.ofInt 32 y).toNat:Int):=by
 have:=(BitVec.ofInt 32 x^^^BitVec.ofInt 32 y).isLt;unfold bits;simp only[IntKind.wrap_u32];show(((BitVec.ofInt 32 x^^^BitVec.ofInt 32 y).toNat:Nat):Int)%4294967296=_;omega
theorem Og(x y:Int):bits .and .u32 x y=((BitVec.ofInt 32 x&&&BitVec.ofInt 32 y).toNat:Int):=by
 have:=(BitVec.ofInt 32 x&&&BitVec.ofInt 32 y).isLt;unfold bits;simp only[IntKind.wrap_u32];show(((BitVec.ofInt 32 x&&&BitVec.ofInt 32 y).toNat:Nat):Int)%4294967296=_;omega
def bB(z:Nat):Nat:=if z%2=1 then(z/2)^^^3988292384 else z/2
theorem Qh(a:Nat)(h:a<4294967296):(BitVec.ofInt 32 (a:Int)).toNat=a:=by
 simp only[BitVec.toNat_ofInt];omega
theorem Yc(z:Nat)(h:z<4294967296):P4 (z:Int)=(bB z:Int):=by
 have b:bits .and .u32 (z:Int) 1=((z%2:Nat):Int):=by
  rw[Og,BitVec.toNat_and,Qh z h,show(BitVec.ofInt 32 1).toNat=1 from rfl,Nat.and_one_is_mod]
 unfold P4 bB;rw[b];rcases dK z with a|a
 ·rw[a,if_neg (by decide),Og,show(BitVec.ofInt 32 3988292384&&&BitVec.ofInt 32 (-((0:Nat):Int)%4294967296)).toNat=0 from by decide,Nj,BitVec.toNat_xor,
   show(z:Int)/2=((z/2:Nat):Int)by omega,Qh _ (by omega)]
  simp
 ·rw[a,if_pos rfl,Og,show(BitVec.ofInt 32 3988292384&&&BitVec.ofInt 32 (-((1:Nat):Int)%4294967296)).toNat=3988292384 from by decide,Nj,BitVec.toNat_xor,
   show(z:Int)/2=((z/2:Nat):Int)by omega,Qh _ (by omega),Qh _ (by omega)]
theorem XR(z:Nat)(h:z<4294967296):bB z<4294967296:=by
 unfold bB;split
 ·exact cN (n:=32) (by omega) (by omega)
 ·omega
theorem NU{a b c:Nat}(h:a^^^c=b^^^c):a=b:=by
 have:=congrArg (·^^^c) h
 simpa[Nat.xor_assoc]using this
theorem YP{x y:Nat}(hx:x<4294967296)(hy:y<4294967296)(h:bB x=bB y):x=y:=by
 unfold bB at h;have c:∀a b:Nat,a<2147483648->b<2147483648->a^^^3988292384≠b:=by
  intro a b f g e;have d:3988292384=a^^^b:=by rw[<-e,<-Nat.xor_assoc,Nat.xor_self,Nat.zero_xor]
  have:=cN (n:=31) (x:=a) (y:=b) (by omega) (by omega);omega
 split at h<;>split at h
 ·have:=NU h;omega
 ·exact absurd h (c _ _ (by omega) (by omega))
 ·exact absurd h.symm (c _ _ (by omega) (by omega))
 ·omega
def bBs:Nat->Nat->Nat
 |0,y=>y
 |n+1,y=>bB (bBs n y)
theorem NV(n z:Nat)(h:z<4294967296):bBs n z<4294967296:=by
 induction n with
 |zero=>exact h
 |succ n ih=>exact XR _ ih
theorem TP(n:Nat){x y:Nat}(hx:x<4294967296)(hy:y<4294967296)(h:bBs n x=bBs n y):x=y:=by
 induction n with
 |zero=>exact h
 |succ n ih=>exact ih (YP (NV n x hx) (NV n y hy) h)
theorem Q3i(n z:Nat)(h:z<4294967296):Zj n (z:Int)=(bBs n z:Int):=by
 induction n with
 |zero=>rfl
 |succ n ih=>rw[Zj,ih,Yc _ (NV n z h)];rfl
def cB(z:Nat)(b:UInt8):Nat:=bBs 8 (z^^^b.toNat)
theorem Q3j(z:Nat)(b:UInt8)(h:z<4294967296):MU (z:Int) b=(cB z b:Int):=by
 have a:=b.toNat_lt;unfold MU cB;rw[show(b.toNat:Int)%4294967296=((b.toNat:Nat):Int)by omega,Nj,BitVec.toNat_xor,Qh _ h,Qh _ (by omega),Q3i _ _ (cN (n:=32) (by omega) (by omega))]
theorem Mk(z:Nat)(b:UInt8)(h:z<4294967296):cB z b<4294967296:=NV _ _ (cN (n:=32) (by omega) (by have:=b.toNat_lt;omega))
theorem Q3l{x y:Nat}{b:UInt8}(hx:x<4294967296)(hy:y<4294967296)(h:cB x b=cB y b):x=y:=
 NU (TP 8 (cN (n:=32) (by omega) (by have:=b.toNat_lt;omega)) (cN (n:=32) (by omega) (by have:=b.toNat_lt;omega)) h)
theorem Q3m{x:Nat}{b c:UInt8}(hx:x<4294967296)(h:cB x b=cB x c):b=c:=by
 have:=TP 8 (cN (n:=32) (by omega) (by have:=b.toNat_lt;omega)) (cN (n:=32) (by omega) (by have:=c.toNat_lt;omega)) h;rw[Nat.xor_comm x,Nat.xor_comm x]at this;exact UInt8.toNat_inj.1 (NU this)
def sB(z:Nat)(L:List UInt8):Nat:=L.foldl cB z
theorem Pz(z:Nat)(L:List UInt8)(h:z<4294967296):sB z L<4294967296:=by
 induction L generalizing z with
 |nil=>exact h
 |cons b r ih=>exact ih _ (Mk z b h)
theorem Q3o{x y:Nat}(L:List UInt8)(hx:x<4294967296)(hy:y<4294967296)(h:sB x L=sB y L):x=y:=by
 induction L generalizing x y with
 |nil=>exact h
 |cons b r ih=>exact Q3l hx hy (ih (Mk x b hx) (Mk y b hy) h)
theorem Q3p(L:List UInt8):csum L=(sB 4294967295 L:Int):=by
 have:∀(z:Nat),z<4294967296->L.foldl MU (z:Int)=(sB z L:Int):=by
  intro z a
  induction L generalizing z with
  |nil=>rfl
  |cons b r ih=>rw[List.foldl_cons,Q3j z b a,ih _ (Mk z b a)];rfl
 exact this 4294967295 (by decide)
theorem PP(L:List UInt8):crc L=4294967295^^^sB 4294967295 L:=by
 unfold crc;rw[Q3p,Nj,BitVec.toNat_xor,show(BitVec.ofInt 32 IntKind.u32.max).toNat=4294967295 from by decide,Qh _ (Pz _ _ (by decide))];rfl
theorem Q3r(A:List UInt8)(b c:UInt8)(B:List UInt8)(h:crc (A++b::B)=crc (A++c::B)):b=c:=by
 rw[PP,PP,Nat.xor_comm,Nat.xor_comm 4294967295]at h;have a:=NU h;unfold sB at a;rw[List.foldl_append,List.foldl_append,List.foldl_cons,List.foldl_cons]at a;have d:=Pz 4294967295 A (by decide);exact Q3m d (Q3o B (Mk _ _ d) (Mk _ _ d) a)
def blk(t r:Nat):List UInt8:=splice (List.replicate 128 0) 0 (sec t r)
theorem gP(t r:Nat):(blk t r).length=128:=by rw[blk,aN _ _ _ (by rw[qL,bR];omega),bR]
def Ye(D:Dv)(i:Nat)(B:List UInt8)(D':Dv)(e:Ending)(w':World):Prop:=
 (∃D1,Wn D i B D1/\Fl D1 D'/\e=.returned (.tuple #[]))\/(Thr 6 e w'/\(Er D D'\/∃D1,Wn D i B D1/\Er D1 D'))
structure HlS(w:World)(T r:Nat)(W:World):Prop where
 n:W.heap[w.heap.size]?=some (.cells #[.int .u64 T,.int .i64 r] 76 (0,0))
 b:W.heap[w.heap.size+1]?=some (.cells (u8s (blk T r)).toArray 92 (0,0))
theorem PJ(v a:Nat)(bv:Value)(n:Nat)(cv:Value)(D:Dv)(T r:Nat)(w:World)(hv:Vol w v a n)(h:DQ w a bv n cv D)(fM:8<=n)(hn:n<=1000)(hq:D.q.length<1000000)(lB:(T:Int)<18446744073709551616)(fE:(r:Int)<65536)(hT:qM D\/Tab w):
  Calls prog 85 #[.pointer (some ⟨v,0,none⟩),.agg #[.int .u64 T,.int .i64 r]] w (WrR a bv n cv (Ye D (T%2) (blk T r)) w):=by
 have nva:v∉yk a bv cv:=h.no hv (by decide);have pj:∀y,w.heap.size<=y->y∉yk a bv cv:=fun y c=>h.ge c;have k0:=(y6.refl [] w).alloc (.cells #[.int .u64 T,.int .i64 r] 76);have n0:=af w (.cells #[.int .u64 T,.int .i64 r] 76);go_enter func85,ntmps85;go_wp2_with(first|(refine yj rfl 4 rfl 92 rfl _ (zblk _) ?_;intro J t s G;have hU:Hid _:=G;clear G;have R:=s.get n0 (by simp);have c1:J.cell? ⟨w.heap.size,0,none⟩=some (.int .u64 T):=y7 R rfl;have If:J.cell? ⟨w.heap.size,1,none⟩=some (.int .i64 r):=y7 R rfl)|(go_at_call 117;refine(Vp T r J lB (by omega)).mono ?_;rintro e U⟨rfl,d⟩;have n2:=d.get R (by simp);have Y:=d.get t (by simp))|(refine yj rfl 5 rfl 175 rfl _ (zsec _) ?_;intro w3 fT g fV;clear fV;have n3:=g.get n2 (by simp);have Z:=g.get Y (by simp))|(refine ye rfl 175 (.tmp 5) (.tmp 7) rfl U.heap.size (u8s (sec T r)).toArray rfl rfl 175 _ fT (by rw[ssec];simp[yd,qL]) (by simp[yd,qL]) (qf (qP _)) ?_;intro p mg B))
 have I:J.heap.size=w.heap.size+1+1:=by have:=hU.out;simpa using this
 have eE:=d.size;have hz3:=g.size;have GR:=B.size;rw[ak]at t Y Z;have n4:=B.get n3 (by simp;omega);have b4:=B.get Z (by simp;omega);have oy:y6 [] w p:=by
  refine y6.trans2 (y6.trans (y6.trans (y6.trans k0 s) d) g) B ?_;intro x H;simp at H;subst H;exact Or.inr (by omega)
 have HZ:Hid (J.heap.size=w.heap.size+1+1):=I;clear I hU t Y Z n3 n2 R c1 If k0 n0 s d g B fT;refine wp_region_held (S:=fun _=>True) (by kernel_rfl) ?_;refine uh 0 (.slice (some ⟨w.heap.size+1,0,none⟩) 128 128) rfl (fun W A=>by rfl) trivial ?_;refine uh 1 (.slice (some ⟨U.heap.size,0,none⟩) 32 32) rfl (fun W A=>by rfl) trivial ?_;have C:=run_copy_row (P:=prog) p.drew 60 60 3 5 (w.heap.size+1) 0 128 128 ⟨U.heap.size,0,none⟩ 32 32 (u8s (List.replicate 128 0)).toArray 92 (u8s (sec T r)) underlying60 su8 b4 (by rw[yd,qL];rfl) (ju (w:=p.drew) mg) (by simp[yd,qL]) (qP _);refine yi (i:=2) (by kernel_rfl) (yX rfl rfl _ _ (qJ (.tmp 8) (.tmp 9) 60 60 rfl (.slice (some ⟨w.heap.size+1,0,none⟩) 128 128) (.slice (some ⟨U.heap.size,0,none⟩) 32 32) rfl rfl _ C) ⟨trivial,?_⟩);simp only[zz];refine aK (by kernel_rfl) ?_ _;have k5:y6 [w.heap.size+1] p (p.drew.setRow (w.heap.size+1) ((u8s (List.replicate 128 0)).toArray.toList.take 0++u8s (sec T r)++(u8s (List.replicate 128 0)).toArray.toList.drop (0+(u8s (sec T r)).length)).toArray):=(y6.refl _ _).drew.setRow (Or.inl (by simp)) _;have b5:(p.drew.setRow (w.heap.size+1) ((u8s (List.replicate 128 0)).toArray.toList.take 0++u8s (sec T r)++(u8s (List.replicate 128 0)).toArray.toList.drop (0+(u8s (sec T r)).length)).toArray).heap[w.heap.size+1]?=some (.cells (u8s (blk T r)).toArray 92 (0,0)):=by
  rw[bH p.drew (w.heap.size+1) _ _ 92 _ b4,blk,<-Qf];simp[splice]
 generalize p.drew.setRow (w.heap.size+1) ((u8s (List.replicate 128 0)).toArray.toList.take 0++u8s (sec T r)++(u8s (List.replicate 128 0)).toArray.toList.drop (0+(u8s (sec T r)).length)).toArray=V at*;have n5:=k5.get n4 (by simp);have lR:y6 [] w V:=oy.trans2 k5 (by intro x H;simp at H;subst H;exact Or.inr (by omega));clear C mg n4 b4 oy k5;go_wp2;have O:HlS w T r V.drew:=⟨n5,b5⟩
 refine wp_region_held (S:=HlS w T r) (by kernel_rfl) ?_;refine uh 0 (.pointer (some ⟨v,0,none⟩)) rfl (fun W A=>by rfl) O ?_;refine uh 1 (.agg #[.int .u64 T,.int .i64 r]) rfl (fun W A=>y9 76 (.tmp 3) rfl ⟨w.heap.size,0,none⟩ rfl _ (df W _ _ _ _ _ _ A.n underlying76 rfl LS)) O ?_;refine uh 3 (.agg (u8s (blk T r)).toArray) rfl (fun W A=>y9 92 (.tmp 4) rfl ⟨w.heap.size+1,0,none⟩ rfl _ (df W _ _ _ _ _ _ A.b underlying92 rfl (by rw[QM];simp[yd,gP]))) O ?_;refine yi (i:=2) (by kernel_rfl) (yp rfl (by rfl) 118 #[.agg #[.int .u64 T,.int .i64 r]] (yn _ _ _ rfl _ (by simp[Act.eval]) (TD _ _)) _ (WN T r _) ?_);rintro e w6⟨rfl,Q⟩;have n6:=Q.get (w:=V.drew) n5 (by simp);have b6:=Q.get (w:=V.drew) b5 (by simp);refine⟨_,rfl,⟨n6,b6⟩,?_⟩;simp only[zz];have j:y6 [] w w6:=lR.drew.trans Q;have EW:Vol w6 v a n:=j.get hv (by simp);have EX:=h.k0 j;refine yi (i:=4) (by kernel_rfl) (jO rfl (by rfl) 82 #[.pointer (some ⟨v,0,none⟩),.int .i64 (T%2:Nat),.agg (u8s (blk T r)).toArray] (yn _ _ _ rfl _ (by simp[Act.eval]) (Up _ _)) _ (Ux v a bv n cv D (blk T r) (T%2) w6 EW EX (by omega) hn (gP T r) (by omega) (hT.imp id fun hT=>hT.k j)) ?_);rintro e K⟨L,u,rq,z,zh,⟨M,rfl⟩|⟨Cr,EY⟩⟩
 ·refine Or.inl ⟨_,rfl,⟨z.get n6 (pj _ (ag _)),z.get b6 (pj _ (by omega))⟩,?_⟩;simp only[zz];refine aK (by kernel_rfl) ?_ _;have Ig:Vol K v a n:=z.get EW nva;have uW:y6 (yk a bv cv) w K:=(j.mono (by simp)).trans z;have Ev:=j.size;have KL:qM u\/Tab K:=hT.imp M.good.2 fun hT=>(hT.k j).kept z ((hT.k j).dq EX);have oz:u.q.length<=1000000:=by rw[M.q,ai];simp;omega
  clear O n5 b5 n6 b6 Q lR;go_wp2_with fail;refine(On v a bv n L u K Ig rq hn oz).mono ?_;have l:∀y∈yk a bv L,y∈yk a bv cv\/w.heap.size<=y:=by
   intro y c;rcases an.1 c with rfl|c
   ·exact Or.inl aZ
   rcases ar.1 c with c|c
   ·exact Or.inl (aq _ (aw _ c))
   ·rcases zh y (by simpa using c)with e|e
    ·exact Or.inl (aq _ (az _ (by simpa using e)))
    ·exact Or.inr (by omega)
  have E:∀(m:Value) (X:World),(∀y,m.ownBlock=some y->L.ownBlock=some y\/K.heap.size<=y)->∀y,m.ownBlock=some y->cv.ownBlock=some y\/w.heap.size<=y:=by
   intro m X N y c;have Ih:=uW.size;rcases N y c with e|e
   ·rcases zh y e with e|e
    ·exact Or.inl e
    ·exact Or.inr (by omega)
   ·exact Or.inr (by omega)
  rintro e X⟨m,D8,AO,F,N,⟨sq,rfl⟩|⟨Ii,wK⟩⟩
  ·go_wp2;go_end0;exact⟨m,D8,AO,uW.trans2 F l,E m X N,Or.inl ⟨u,M,sq,rfl⟩⟩
  ·obtain⟨f,o,rfl,hf⟩:=wK.ex;exact⟨rfl,m,D8,AO,uW.trans2 F l,E m X N,Or.inr ⟨wK,Or.inr ⟨u,M,Ii⟩⟩⟩
 ·obtain⟨f,o,rfl,hf⟩:=EY.ex;refine Or.inr ⟨_,rfl,?_⟩;have Ev:=j.size;exact⟨rfl,L,u,rq,(j.mono (by simp)).trans z,fun y c=>(zh y c).imp id (fun h=>by omega),Or.inr ⟨EY,Or.inl Cr⟩⟩
def MV(w:World)(v:Value)(vs:List Value):Prop:=w.ownsRow 0 189 1 v vs.length vs
structure Bxs(w0 w:World)(rc:Array Value)(u:Value):Prop where
 b0:w.heap[w0.heap.size]?=some (.cells rc 151 (0,0))
 b1:w.heap[w0.heap.size+1]?=some (.cells #[u] 189 (0,0))
 b2:w.heap[w0.heap.size+1+1]?=some (.cells (yS 0 (.slice none 0 0) false (.slice none 0 0) false false) 151 (0,0))
 k:y6 [] w0 w
 sz:w0.heap.size+3<=w.heap.size
variable {w0 w:World}{rc:Array Value}{u:Value}
theorem Bxs.step{w':World}{S:List Nat}(h:Bxs w0 w rc u)(k:y6 S w w')(hS:∀x∈S,w0.heap.size+3<=x):Bxs w0 w' rc u:=
 have a:∀y,y<w0.heap.size+3->y∉S:=fun y c b=>by have:=hS y b;omega
 ⟨k.get h.b0 (a _ (by omega)),k.get h.b1 (a _ (by omega)),k.get h.b2 (a _ (by omega)),h.k.trans2 k (fun x b=>Or.inr (by have:=hS x b;omega)),by have:=h.sz;have:=k.size;omega⟩
theorem Bxs.grown{w':World}{v:Value}(h:Bxs w0 w rc u)(g:w.grownBy w' v.ownBlock)(hv:∀x,v.ownBlock=some x->w0.heap.size+3<=x):Bxs w0 w' rc u:=
 h.step (yF g v.ownBlock.toList (by intro x a;rw[a];simp)) (by
  intro x a
  cases hu:v.ownBlock with
  |none=>rw[hu]at a;cases a
  |some y=>rw[hu]at a;simp at a;subst a;exact hv _ hu)
theorem Bxs.alloc{w0 w:World}{rc:Array Value}{u:Value}(h:Bxs w0 w rc u)(o:Obj):Bxs w0 (w.alloc o) rc u:=h.step ((y6.refl [] w).alloc o) (by simp)
theorem Bxs.set(h:Bxs w0 w rc u)(j:Nat)(v:Value):Bxs w0 (w.setCell ⟨w0.heap.size,j,none⟩ v) (rc.setIfInBounds j v) u:=by
 have k:y6 [w0.heap.size] w (w.setCell ⟨w0.heap.size,j,none⟩ v):=(y6.refl _ _).setCell (Or.inl (by simp)) _;exact⟨yf v h.b0,k.get h.b1 (by simp),k.get h.b2 (by simp;omega),h.k.trans2 k (by simp),by simpa[World.setCell]using h.sz⟩
theorem Bxs.init(w:World)(rc:Array Value)(u:Value):Bxs w (((w.alloc (.cells rc 151)).alloc (.cells #[u] 189)).alloc (.cells #[.int .i64 0,.slice none 0 0,.bool false,.slice none 0 0,.bool false,.bool false] 151)) rc u:=by
 have c:=(y6.refl [] w).alloc (.cells rc 151);have b:=(y6.refl [] (w.alloc (.cells rc 151))).alloc (.cells #[u] 189);have a:=(y6.refl [] ((w.alloc (.cells rc 151)).alloc (.cells #[u] 189))).alloc (.cells #[.int .i64 0,.slice none 0 0,.bool false,.slice none 0 0,.bool false,.bool false] 151);refine⟨a.get (b.get (af _ _) (by simp)) (by simp),a.get ?_ (by simp),?_,(c.trans b).trans a,by simp⟩
 ·have:=af (w.alloc (.cells rc 151)) (.cells #[u] 189)
  rwa[ak]at this
 ·have:=af ((w.alloc (.cells rc 151)).alloc (.cells #[u] 189)) (.cells #[.int .i64 0,.slice none 0 0,.bool false,.slice none 0 0,.bool false,.bool false] 151)
  rwa[ak,ak]at this
def Qfv(n:Int)(ms ks:List Value)(u:Value)(e wd b:Bool)(w:World)(ev:Ending)(w':World):Prop:=
 ∃p1 l1 q1 p2 l2 q2,ev=.returned (.agg (yS n (.slice p1 l1 q1) e (.slice p2 l2 q2) wd b))/\MV w' (.slice p1 l1 q1) (ms++ [u])/\MV w' (.slice p2 l2 q2) (ks++ [u])/\y6 [] w w'
theorem Ru(n:Int)(may were:Value)(ms ks:List Value)(pu:Option Addr)(lu qu:Nat)(e wd b:Bool)(w:World)(hm:MV w may ms)(hk:MV w were ks)(om:∀u∈ms,u.oneCell'=true)(ok:∀u∈ks,u.oneCell'=true)(bm:ms.length<=1000000000)(bk:ks.length<=1000000000):
  Calls prog 135 #[.agg (yS n may e were wd b),.agg #[.slice pu lu qu]] w (Qfv n ms ks (.slice pu lu qu) e wd b w):=by
 unfold yS;obtain⟨z,y,d,t,f⟩:=bu imap;have Z:∀x,may.ownBlock=some x->x<w.heap.size:=fun x a=>(World.ownsRow.lt hm x a).2;have Y:∀x,were.ownBlock=some x->x<w.heap.size:=fun x a=>(World.ownsRow.lt hk x a).2;have V:Hid (w.ownsRow 0 189 1 may ms.length ms):=hm;have U:Hid (w.ownsRow 0 189 1 were ks.length ks):=hk;have E:=Bxs.init w #[.int .i64 n,may,.bool e,were,.bool wd,.bool b] (.slice pu lu qu);clear hm hk;go_enter func135,ntmps135;go_wp2_with(first|(at_builtin;refine qK rfl (.tmp 7) (.tmp 9) 149 rfl (w.heap.size+3) 189 z _ 1 24 underlying149 y d t f rfl (by decide) (.slice none 0 0) 0 [] rfl (aM _ _ _ _) may 0 ms.length ms rfl (yb V.out E.k (by simp)) om (by unfold maxLen;omega) (by omega) (by simp) ?_;intro v1 T P Q;have A:=E.grown (v:=.slice none 0 0) Q (by intro x a;cases a);clear Q E;have d1:T.cell? ⟨w.heap.size+1,0,none⟩=some (.slice pu lu qu):=y7 A.b1 rfl)|(at_builtin;refine cK _ rfl (.tmp 11) (.tmp 13) 149 rfl (w.heap.size+3) 189 z _ 1 24 underlying149 y d t f rfl (by decide) v1 (0+ms.length) ([]++ms) rfl (P.alloc _) ⟨T.heap.size,0,none⟩ 1 1 [.slice pu lu qu] rfl rfl (cell_one_new _ _ _) (by simp[Value.oneCell']) (by unfold maxLen;omega) (by omega) (by have:=A.sz;simp;omega) ?_;intro v2 c G R _;obtain⟨h,g,i,rfl⟩:=gJ G;have m:=(A.alloc _).grown R (by intro x a;exact(P.lt x a).1);clear R;have d2:c.cell? ⟨w.heap.size,1,none⟩=some may:=y7 m.b0 rfl;have f2:c.frozen? ⟨w.heap.size,1,none⟩=false:=ax _ _ _ _ _ m.b0;have B:=m.set 1 (.slice h g i);have d3:(c.setCell ⟨w.heap.size,1,none⟩ (.slice h g i)).cell? ⟨w.heap.size,3,none⟩=some were:=y7 B.b0 rfl)|(at_builtin;refine qK rfl (.tmp 16) (.tmp 18) 149 rfl c.heap.size 189 z _ 1 24 underlying149 y d t f rfl (by decide) (.slice none 0 0) 0 [] rfl (aM _ _ _ _) were 0 ks.length ks rfl (yb U.out B.k (by simp)) ok (by unfold maxLen;omega) (by omega) (by simp[World.setCell]) ?_;intro K s I J;have L:=B.grown (v:=.slice none 0 0) J (by intro x a;cases a);have N:=yF J [] (by intro x a;cases a);clear J;have W:c.heap.size<=s.heap.size:=(by have:=N.size;simpa[World.setCell]using this);have d4:s.cell? ⟨w.heap.size+1,0,none⟩=some (.slice pu lu qu):=y7 L.b1 rfl)|(at_builtin;refine cK _ rfl (.tmp 20) (.tmp 22) 149 rfl c.heap.size 189 z _ 1 24 underlying149 y d t f rfl (by decide) K (0+ks.length) ([]++ks) rfl (I.alloc _) ⟨s.heap.size,0,none⟩ 1 1 [.slice pu lu qu] rfl rfl (cell_one_new _ _ _) (by simp[Value.oneCell']) (by unfold maxLen;omega) (by omega) (by have:=W;simp;omega) ?_;intro v5 j O S _;obtain⟨q,p,r,rfl⟩:=gJ O;have C:=(L.alloc _).grown S (by intro x a;have:=(I.lt x a).1;have:=m.sz;omega);have e5:j.cell? ⟨w.heap.size,3,none⟩=some were:=y7 C.b0 rfl;have g5:j.frozen? ⟨w.heap.size,3,none⟩=false:=ax _ _ _ _ _ C.b0;have D:=C.set 3 (.slice q p r);have iC:y6 K.ownBlock.toList s j:=(((y6.refl [] s).alloc (.cells #[.slice pu lu qu] 189)).mono (by simp)).trans (yF S K.ownBlock.toList (by intro x a;rw[a];simp)))|(refine aW rfl 151 (.tmp 2) rfl w.heap.size rfl 151 (yS n (.slice h g i) e (.slice q p r) wd b) (0,0) _ D.b0 underlying151 rfl srd ?_)|(refine ye rfl 151 (.tmp 4) (.tmp 25) rfl (w.heap.size+1+1) (yS n (.slice h g i) e (.slice q p r) wd b) rfl rfl 151 _ D.b2 srd rfl (QV _ _ _ _ _ _ _ _ _ _) ?_;intro w7 r9 F))
 refine aR (aI rfl _ w7 (w.heap.size+1+1) 151 _ (0,0) _ rfl r9 underlying151 rfl srd) rfl ?_;have o:y6 [w.heap.size] j (j.setCell ⟨w.heap.size,3,none⟩ (.slice q p r)):=(y6.refl _ _).setCell (Or.inl (by simp)) _;have H:y6 [w.heap.size] c (c.setCell ⟨w.heap.size,1,none⟩ (.slice h g i)):=(y6.refl _ _).setCell (Or.inl (by simp)) _;have z2:=m.sz;have M:∀x,(Value.slice h g i).ownBlock=some x->w.heap.size+3<=x/\x<c.heap.size:=fun x a=>G.lt x a;have X:j.ownsRow (w.heap.size+3) 189 1 (.slice h g i) (0+ms.length+1) ([]++ms++ [.slice pu lu qu]):=by
  refine yb (yb (yb G H ?_) N (by simp)) iC ?_
  ·intro x a;have:=(M x a).1;simp;omega
  ·intro x a hm;have h4:=(I.lt x (by simpa using hm)).1;have:=(M x a).2;omega
 refine⟨_,_,_,_,_,_,rfl,?_,?_,D.k.trans2 F (by intro x a;simp at a;subst a;exact Or.inr (by omega))⟩
 ·have l:j.ownsRow (w.heap.size+3) 189 1 (.slice h g i) (ms++ [Value.slice pu lu qu]).length (ms++ [Value.slice pu lu qu]):=by simpa using X
  refine yb (yb (gT l (ay _)) o ?_) F ?_
  ·intro x a;have:=(l.lt x a).1;simp;omega
  ·intro x a;have:=(l.lt x a).1;simp;omega
 ·have l:j.ownsRow c.heap.size 189 1 (.slice q p r) (ks++ [Value.slice pu lu qu]).length (ks++ [Value.slice pu lu qu]):=by simpa using O
  refine yb (yb (gT l (ay _)) o ?_) F ?_
  ·intro x a;have:=(l.lt x a).1;simp;omega
  ·intro x a;have:=(l.lt x a).1;simp;omega
def Qfx(n:Int)(ks:List Value)(u:Value)(wd b:Bool)(w:World)(ev:Ending)(w':World):Prop:=
 ∃v1 v2,ev=.returned (.agg (yS n v1 false v2 wd b))/\MV w' v1 [u]/\MV w' v2 (ks++ [u])/\y6 [] w w'
theorem VZ(n:Int)(may were:Value)(ms ks:List Value)(pu:Option Addr)(lu qu:Nat)(e wd b:Bool)(w:World)(hm:MV w may ms)(hk:MV w were ks)(om:∀u∈ms,u.oneCell'=true)(ok:∀u∈ks,u.oneCell'=true)(bm:ms.length<=1000000000)(bk:ks.length<=1000000000):
  Calls prog 134 #[.agg (yS n may e were wd b),.agg #[.slice pu lu qu]] w (Qfx n ks (.slice pu lu qu) wd b w):=by
 have o:=Bxs.init w (yS n may e were wd b) (.slice pu lu qu);have r:=fun W (O:MV W may ms) (P:MV W were ks)=>Ru n may were ms ks pu lu qu e wd b W O P om ok bm bk;unfold yS at o r⊢;go_enter func134,ntmps134;go_wp2_with fail;refine(r _ (yb hm o.k (by simp)) (yb hk o.k (by simp))).mono ?_;rintro e d⟨J,I,K,A,y,B,rfl,_,q,p⟩;have m:=o.step p (by simp);clear o r p;have Y:=y7 (j:=0) m.b1 rfl;go_wp2_with(first|(refine qn rfl 151 rfl (yS 0 (.slice none 0 0) false (.slice none 0 0) false false) (by rfl) ?_;intro w2 s f _;have L:=m.step f (by simp))|(refine ye rfl 151 (.tmp 5) (.tmp 8) rfl d.heap.size (yS n (.slice J I K) e (.slice A y B) wd b) rfl rfl 151 _ s srd rfl (QV _ _ _ _ _ _ _ _ _ _) ?_;intro a F h;have C:=L.step h (by intro x c;simp at c;subst c;exact m.sz);have Z:a.cell? ⟨w.heap.size+1,0,none⟩=some (.slice pu lu qu):=y7 C.b1 rfl;have R:=(y6.refl [] a).alloc (.cells #[.slice pu lu qu] 189);have z:=R.get F (by simp);have a4:(a.alloc (.cells #[.slice pu lu qu] 189)).cell? ⟨d.heap.size,1,none⟩=some (.slice J I K):=y7 z rfl;have f4:(a.alloc (.cells #[.slice pu lu qu] 189)).frozen? ⟨d.heap.size,1,none⟩=false:=ax _ _ _ _ _ z;have l:=yf (i:=1) (.slice (some ⟨a.heap.size,0,none⟩) 1 1) z;have f5:((a.alloc (.cells #[.slice pu lu qu] 189)).setCell ⟨d.heap.size,1,none⟩ (.slice (some ⟨a.heap.size,0,none⟩) 1 1)).frozen? ⟨d.heap.size,2,none⟩=false:=ax _ _ _ _ _ l;have a5:((a.alloc (.cells #[.slice pu lu qu] 189)).setCell ⟨d.heap.size,1,none⟩ (.slice (some ⟨a.heap.size,0,none⟩) 1 1)).cell? ⟨d.heap.size,2,none⟩=some (.bool e):=y7 l rfl;have t:=yf (i:=2) (.bool false) l;have H:y6 [d.heap.size] a (((a.alloc (.cells #[.slice pu lu qu] 189)).setCell ⟨d.heap.size,1,none⟩ (.slice (some ⟨a.heap.size,0,none⟩) 1 1)).setCell ⟨d.heap.size,2,none⟩ (.bool false)):=(((y6.refl _ _).alloc _).setCell (Or.inl (by simp)) _).setCell (Or.inl (by simp)) _;have D:=C.step H (by intro x c;simp at c;subst c;exact m.sz))|(refine aW rfl 151 (.tmp 5) rfl d.heap.size rfl 151 (yS n (.slice (some ⟨a.heap.size,0,none⟩) 1 1) false (.slice A y B) wd b) (0,0) _ t underlying151 rfl srd ?_)|(refine ye rfl 151 (.tmp 4) (.tmp 13) rfl (w.heap.size+1+1) (yS n (.slice (some ⟨a.heap.size,0,none⟩) 1 1) false (.slice A y B) wd b) rfl rfl 151 _ D.b2 srd rfl (QV _ _ _ _ _ _ _ _ _ _) ?_;intro V U G))
 refine aR (aI rfl _ V (w.heap.size+1+1) 151 _ (0,0) _ rfl U underlying151 rfl srd) rfl ?_;have lP:=m.sz;have X:d.heap.size+1<=a.heap.size:=by have:=f.size;have:=h.size;have:=yt F;omega
 have T:y6 [d.heap.size] d a:=(f.mono (by simp)).trans h;have E:=G;refine⟨_,_,rfl,?_,?_,D.k.trans2 G (by intro x c;simp at c;subst c;exact Or.inr (by omega))⟩
 ·refine⟨rfl,Or.inr ⟨a.heap.size,1,#[.slice pu lu qu],rfl,ay _,?_,ag _,by unfold maxLen;omega,rfl,rfl⟩⟩;refine E.get ?_ (by simp;omega);have S:y6 [d.heap.size] (a.alloc (.cells #[.slice pu lu qu] 189)) (((a.alloc (.cells #[.slice pu lu qu] 189)).setCell ⟨d.heap.size,1,none⟩ (.slice (some ⟨a.heap.size,0,none⟩) 1 1)).setCell ⟨d.heap.size,2,none⟩ (.bool false)):=((y6.refl _ _).setCell (Or.inl (by simp)) _).setCell (Or.inl (by simp)) _;exact S.get (af _ _) (by simp;omega)
 ·refine yb (yb (yb q T ?_) H ?_) E ?_
  ·intro x c;have:=(World.ownsRow.lt q x c).2;simp;omega
  ·intro x c;have:=(World.ownsRow.lt q x c).2;simp;omega
  ·intro x c;obtain⟨_,⟨v,_⟩|⟨g,M,N,v,_,Q,_⟩⟩:=q
   ·rw[v]at c;cases c
   ·rw[v]at c;simp only[Value.ownBlock,ba]at c;subst c
    simpa using yP Q m.b2 (by decide)
theorem UT:∀(l:List UInt8) (n:Nat),l.length<n->l<List.replicate n 255
 | [],n+1,_=>by rw[List.replicate_succ];exact List.nil_lt_cons _ _
 |a::l,n+1,h=>by
  rw[List.replicate_succ,List.cons_lt_cons_iff]
  by_cases e:a=255
  ·exact Or.inr ⟨e,UT l n (by simpa using h)⟩
  ·left;have b:a.toNat<256:=a.toNat_lt;have c:a.toNat≠255:=fun h=>e (UInt8.toNat_inj.1 h);show a.toNat<(255:UInt8).toNat;have:(255:UInt8).toNat=255:=rfl;omega
theorem Yb{α:Type}{f:α->Bool}{l:List α}(h:∀x∈l,f x=true):l.filter f=l:=List.filter_eq_self.2 h
end Go.Proofs.YtcklgafpgdhnaaaGreatDoor
namespace Go.Proofs.YtcklgafpgdhnaaaGreatDoor
open Go.Shelf Go.RowKit
def Qhg:Go.Shelf.Ren:=⟨fun|171=>115|243=>149|246=>171|283=>180|284=>181|285=>182|286=>183|129=>194|317=>193|318=>195|319=>196|320=>197|337=>201|338=>202|n=>n,fun|3=>3|9=>9|2=>2|4=>4|171=>242|0=>0|53=>74|37=>60|5=>5|173=>244|212=>267|51=>226|20=>20|213=>268|46=>202|232=>175|233=>273|n=>n,fun|17=>2|18=>3|19=>4|n=>n⟩
theorem Qhh:Go.Proofs.LaysM.n171 prog Qhg:={
 mixed:=by kernel_rfl
 f129:=func194.trans (congrArg some (by kernel_rfl))
 f171:=func115.trans (congrArg some (by kernel_rfl))
 f243:=func149.trans (congrArg some (by kernel_rfl))
 f246:=func171.trans (congrArg some (by kernel_rfl))
 f283:=func180.trans (congrArg some (by kernel_rfl))
 f284:=func181.trans (congrArg some (by kernel_rfl))
 f285:=func182.trans (congrArg some (by kernel_rfl))
 f286:=func183.trans (congrArg some (by kernel_rfl))
 f317:=func193.trans (congrArg some (by kernel_rfl))
 f318:=func195.trans (congrArg some (by kernel_rfl))
 f319:=func196.trans (congrArg some (by kernel_rfl))
 f320:=func197.trans (congrArg some (by kernel_rfl))
 f337:=func201.trans (congrArg some (by kernel_rfl))
 f338:=func202.trans (congrArg some (by kernel_rfl))
 t0:=underlying0
 a0:=Tryz.isAgg0
 z0:=Tryz.sizeOf0
 v0:=Tryz.zeroValue0
 t2:=underlying2
 a2:=Tryz.isAgg2
 z2:=Tryz.sizeOf2
 v2:=Tryz.zeroValue2
 t3:=underlying3
 a3:=Tryz.isAgg3
 z3:=Tryz.sizeOf3
 v3:=Tryz.zeroValue3
 t4:=underlying4
 a4:=Tryz.isAgg4
 z4:=Tryz.sizeOf4
 v4:=Tryz.zeroValue4
 t5:=underlying5
 a5:=Tryz.isAgg5
 z5:=Tryz.sizeOf5
 v5:=Tryz.zeroValue5
 t9:=underlying9
 a9:=Tryz.isAgg9
 z9:=Tryz.sizeOf9
 v9:=Tryz.zeroValue9
 t20:=underlying20
 a20:=Tryz.isAgg20
 z20:=Tryz.sizeOf20
 v20:=Tryz.zeroValue20
 t37:=underlying60
 a37:=Tryz.isAgg60
 z37:=Tryz.sizeOf60
 v37:=Tryz.zeroValue60
 t46:=underlying202
 a46:=Tryz.isAgg202
 z46:=Tryz.sizeOf202
 v46:=Tryz.zeroValue202
 t51:=underlying226
 a51:=Tryz.isAgg226
 z51:=Tryz.sizeOf226
 v51:=Tryz.zeroValue226
 t53:=underlying74
 a53:=Tryz.isAgg74
 z53:=Tryz.sizeOf74
 v53:=Tryz.zeroValue74
 t171:=underlying242
 a171:=Tryz.isAgg242
 z171:=Tryz.sizeOf242
 v171:=Tryz.zeroValue242
 t173:=underlying244
 a173:=Tryz.isAgg244
 z173:=Tryz.sizeOf244
 v173:=Tryz.zeroValue244
 t212:=underlying267
 a212:=Tryz.isAgg267
 z212:=Tryz.sizeOf267
 v212:=Tryz.zeroValue267
 t213:=underlying268
 a213:=Tryz.isAgg268
 z213:=Tryz.sizeOf268
 t232:=underlying175
 a232:=Tryz.isAgg175
 z232:=Tryz.sizeOf175
 v232:=Tryz.zeroValue175
 t233:=underlying273
 a233:=Tryz.isAgg273
 z233:=Tryz.sizeOf273
 v233:=Tryz.zeroValue273
 g17:=by kernel_rfl
 g18:=by kernel_rfl
 g19:=by kernel_rfl
 i0:=by kernel_rfl
 i2:=by kernel_rfl
 i3:=by kernel_rfl
 i4:=by kernel_rfl
 i5:=by kernel_rfl
 i9:=by kernel_rfl
 i20:=by kernel_rfl
 i37:=by kernel_rfl
 i46:=by kernel_rfl
 i51:=by kernel_rfl
 i53:=by kernel_rfl
 i171:=by kernel_rfl
 i173:=by kernel_rfl
 i212:=by kernel_rfl
 i232:=by kernel_rfl
 i233:=by kernel_rfl
 m17:=by kernel_rfl
 m18:=by kernel_rfl
 m19:=by kernel_rfl}
theorem Qhi(n:Int)(h0:-9223372036854775808<=n)(h1:n<=9223372036854775807)(w:World)(Eg:Lib.TabIs prog w "internal/strconv.uint64pow10" .u64 Lib.pow10Tab):
  Calls prog 115 #[.int .i64 n] w fun e w'=>e=.returned (.string ⟨(Lib.itoa n).toArray⟩)/\∃k os,w'=Sort.grow (w.drewN k) os:=Any.strconv_Itoa Qhh n h0 h1 w Eg
theorem y6.grown(w:World)(k:Nat)(os:Array Obj):y6 [] w (Sort.grow (w.drewN k) os):=by
 have h:y6 [] w (w.drewN k):=⟨rfl,rfl,rfl,ag _,fun _ _ _=>rfl⟩
 refine⟨h.os,h.tape,h.output,?_,fun i a b=> ?_⟩
 ·have:=h.size;simp[Sort.grow]
 ·rw[<-h.block i a b];have:i<(w.drewN k).heap.size:=bz a h.size;simp only[Sort.grow];rw[Array.getElem?_append_left this]
theorem gPow:prog.globalNamed "internal/strconv.uint64pow10" =some 2:=by kernel_rfl
theorem MG{W:World}{cs:Array Value}{fr:Nat×Nat}(hr:W.heap[2]?=some (.cells cs 267 fr))(ht:Lib.TabIs prog W "internal/strconv.uint64pow10" .u64 Lib.pow10Tab):Tab W where
 row:=⟨cs,fr,hr⟩
 ito:=by
  intro a b i f;have c:Lib.TabIs prog a "internal/strconv.uint64pow10" .u64 Lib.pow10Tab:=by
   unfold Lib.TabIs World.var? at ht⊢;rw[gPow]at ht⊢;simp only[Option.bind_some]at ht⊢;rw[b];exact ht
  refine(Qhi (i:Int) (by omega) (by omega) a c).mono ?_;rintro e g⟨rfl,k,d,rfl⟩;refine⟨_,rfl,?_,y6.grown a k d⟩;have:=Lib.itoa_length_le (i:Int) (by omega) (by omega);show(Lib.itoa (i:Int)).toArray.size<=1000;simp;omega
theorem My{W:World}(h:W.ShapedOpen prog):∃cs,W.heap[2]?=some (.cells cs 267 (0,0)):=by
 have b:(((begin prog (fun _ _=>0) default).world.heap[2]?).bind Obj.row?).map (·.2)=some 267:=by kernel_rfl
 obtain⟨⟨z,t⟩,b,rfl⟩:=cj.1 b;obtain⟨cs,a,_⟩:=h.1 2 z _ (cf (by kernel_rfl)) b;exact⟨cs,a⟩
end Go.Proofs.YtcklgafpgdhnaaaGreatDoor
