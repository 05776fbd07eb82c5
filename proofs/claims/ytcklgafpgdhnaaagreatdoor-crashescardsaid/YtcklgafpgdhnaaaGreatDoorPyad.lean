import Derived.Test.YtcklgafpgdhnaaaGreatDoorPyab
import Derived.BigRegion
set_option maxRecDepth 100000
set_option maxHeartbeats 4000000
set_option linter.unusedSimpArgs false
set_option linter.unusedVariables false
set_option linter.unusedSectionVars false
open Go.Proofs.Tryz
namespace Go.Proofs.YtcklgafpgdhnaaaGreatDoor
open Go.RowKit
structure Dv where
 L:List UInt8
 q:List (Nat×List UInt8)
 c:Int
 wr:Int
 t:Int
 off:Int
 fr:Int
 toE:Int
def Rh(bs cache:Value)(D:Dv):Array Value:=
 #[bs,cache,.int .i64 D.c,.int .i64 D.wr,.int .i64 D.t,.int .i64 D.off,.int .i64 D.fr,.int .i64 D.toE]
def Dv.bad(D:Dv):Bool:=(decide (0<=D.off)&&decide (D.off<=D.c))||(decide (D.fr<=D.c)&&decide (D.c<D.toE))
def Dv.tick(D:Dv):Dv:={D with c:=wrap64 (D.c+1),t:=if D.bad then wrap64 (D.t+1)else D.t}
def DC(w:World)(a:Nat)(bs cache:Value)(D:Dv):Prop:=w.heap[a]?=some (.cells (Rh bs cache D) 91 (0,0))
def ON(a:Nat)(bs cache:Value)(D:Dv)(w:World)(e:Ending)(w':World):Prop:=
 e=.returned (.bool D.bad)/\DC w' a bs cache D.tick/\y6 [a] w w'/\w'.heap.size=w.heap.size
theorem Xc{a:Nat}{bs cache:Value}{D:Dv}{w:World}(h:DC w a bs cache D)(hb:D.bad=true):
  ON a bs cache D w (.returned (.bool true)) ((w.setCell ⟨a,2,none⟩ (.int .i64 (wrap64 (D.c+1)))).setCell ⟨a,4,none⟩ (.int .i64 (wrap64 (D.t+1)))):=by
 have b:=yf (i:=4) (.int .i64 (wrap64 (D.t+1))) (yf (i:=2) (.int .i64 (wrap64 (D.c+1))) h);refine⟨by rw[hb],?_,((y6.refl [a] w).setCell (Or.inl (by simp)) _).setCell (Or.inl (by simp)) _,by simp⟩;unfold DC Dv.tick;rw[hb];exact b
theorem Q09{a:Nat}{bs cache:Value}{D:Dv}{w:World}(h:DC w a bs cache D)(hb:D.bad=false):
  ON a bs cache D w (.returned (.bool false)) (w.setCell ⟨a,2,none⟩ (.int .i64 (wrap64 (D.c+1)))):=by
 have b:=yf (i:=2) (.int .i64 (wrap64 (D.c+1))) h;refine⟨by rw[hb],?_,(y6.refl [a] w).setCell (Or.inl (by simp)) _,by simp⟩;unfold DC Dv.tick;rw[hb];exact b
theorem OB(a:Nat)(bs cache:Value)(D:Dv)(w:World)(h:DC w a bs cache D):
  Calls prog 224 #[.pointer (some ⟨a,0,none⟩)] w (ON a bs cache D w):=by
 have o:w.cell? ⟨a,2,none⟩=some (.int .i64 D.c):=y7 h rfl;have p:w.cell? ⟨a,4,none⟩=some (.int .i64 D.t):=y7 h rfl;have r:w.cell? ⟨a,5,none⟩=some (.int .i64 D.off):=y7 h rfl;have s:w.cell? ⟨a,6,none⟩=some (.int .i64 D.fr):=y7 h rfl;have u:w.cell? ⟨a,7,none⟩=some (.int .i64 D.toE):=y7 h rfl;have f2:w.frozen? ⟨a,2,none⟩=false:=ax _ _ _ _ _ h;have f4:w.frozen? ⟨a,4,none⟩=false:=ax _ _ _ _ _ h;have Y:Hid (D.bad=true->_):=Xc h;have N:Hid (D.bad=false->_):=Q09 h;clear h;obtain⟨L,q,c,wr,t,j,m,n⟩:=D;simp only at o p r s u
 by_cases k:0<=j
 ·by_cases l:j<=c
  ·have d:=Y.out (by simp[Dv.bad,k,l]);have f:Hid _:=d;clear Y N d;go_enter func224,ntmps224;go_wp2;go_ret;exact f.out
  ·by_cases g:m<=c
   ·by_cases i:c<n
    ·have d:=Y.out (by simp[Dv.bad,g,i]);have f:Hid _:=d;clear Y N d;go_enter func224,ntmps224;go_wp2;go_ret;exact f.out
    ·have b:=N.out (by simp[Dv.bad,l,i]);have e:Hid _:=b;clear Y N b;go_enter func224,ntmps224;go_wp2;go_ret;exact e.out
   ·have b:=N.out (by simp[Dv.bad,l,g]);have e:Hid _:=b;clear Y N b;go_enter func224,ntmps224;go_wp2;go_ret;exact e.out
 ·by_cases g:m<=c
  ·by_cases i:c<n
   ·have d:=Y.out (by simp[Dv.bad,g,i]);have f:Hid _:=d;clear Y N d;go_enter func224,ntmps224;go_wp2;go_ret;exact f.out
   ·have b:=N.out (by simp[Dv.bad,k,i]);have e:Hid _:=b;clear Y N b;go_enter func224,ntmps224;go_wp2;go_ret;exact e.out
  ·have b:=N.out (by simp[Dv.bad,k,g]);have e:Hid _:=b;clear Y N b;go_enter func224,ntmps224;go_wp2;go_ret;exact e.out
theorem Sn(a:Nat)(ao:Option Addr)(n cap:Nat)(cache:Value)(D:Dv)(i:Int)(w:World)
  (h:DC w a (.slice ao n cap) cache D)(h0:0<=i)(h1:i<n):
  Calls prog 225 #[.pointer (some ⟨a,0,none⟩),.int .i64 i] w fun e w'=>e=.returned (.bool false)/\w'=w:=by
 have b:w.cell? ⟨a,0,none⟩=some (.slice ao n cap):=y7 h rfl;have c:¬i<0:=by omega
 clear h;go_enter func225,ntmps225;go_wp2
 all_goals
  go_ret;exact⟨rfl,rfl⟩
theorem Q0c(a:Nat)(ao:Option Addr)(n cap:Nat)(cache:Value)(D:Dv)(w:World)(h:DC w a (.slice ao n cap) cache D):
  Calls prog 220 #[.pointer (some ⟨a,0,none⟩)] w fun e w'=>e=.returned (.int .i64 n)/\w'=w:=by
 have b:w.cell? ⟨a,0,none⟩=some (.slice ao n cap):=y7 h rfl;clear h;go_enter func220,ntmps220;go_wp2;go_ret;exact⟨rfl,rfl⟩
theorem qD(a:Nat)(bs cache:Value)(D:Dv)(w:World)(h:DC w a bs cache D):
  Calls prog 130 #[.pointer (some ⟨a,0,none⟩)] w fun e w'=>e=.returned (.int .i64 D.t)/\w'=w:=by
 have b:w.cell? ⟨a,4,none⟩=some (.int .i64 D.t):=y7 h rfl;clear h;go_enter func130,ntmps130;go_wp2;go_ret;exact⟨rfl,rfl⟩
theorem qO(a:Nat)(bs cache:Value)(D:Dv)(w:World)(h:DC w a bs cache D):
  Calls prog 30 #[.pointer (some ⟨a,0,none⟩)] w fun e w'=>e=.returned (.int .i64 D.wr)/\w'=w:=by
 have b:w.cell? ⟨a,3,none⟩=some (.int .i64 D.wr):=y7 h rfl;clear h;go_enter func30,ntmps30;go_wp2;go_ret;exact⟨rfl,rfl⟩
theorem j4(a:Nat)(bs:Value)(ao:Option Addr)(n cap:Nat)(D:Dv)(w:World)(h:DC w a bs (.slice ao n cap) D):
  Calls prog 31 #[.pointer (some ⟨a,0,none⟩)] w fun e w'=>e=.returned (.int .i64 n)/\w'=w:=by
 have b:w.cell? ⟨a,1,none⟩=some (.slice ao n cap):=y7 h rfl;clear h;go_enter func31,ntmps31;go_wp2;go_ret;exact⟨rfl,rfl⟩
theorem YF(a:Nat)(bs cache:Value)(D:Dv)(x:Int)(w:World)(h:DC w a bs cache D):
  Calls prog 27 #[.pointer (some ⟨a,0,none⟩),.int .i64 x] w fun e w'=>e=.returned (.tuple #[])/\DC w' a bs cache {D with off:=wrap64 (D.c+x)}/\y6 [a] w w':=by
 have b:w.cell? ⟨a,2,none⟩=some (.int .i64 D.c):=y7 h rfl;have d:w.cell? ⟨a,5,none⟩=some (.int .i64 D.off):=y7 h rfl;have f5:w.frozen? ⟨a,5,none⟩=false:=ax _ _ _ _ _ h;have H:Hid (DC (w.setCell ⟨a,5,none⟩ (.int .i64 (wrap64 (D.c+x)))) a bs cache {D with off:=wrap64 (D.c+x)}):=yf (i:=5) _ h;clear h;go_enter func27,ntmps27;go_wp2;go_end0;exact⟨rfl,H.out,(y6.refl [a] w).setCell (Or.inl (by simp)) _⟩
theorem Q0e(a:Nat)(bs cache:Value)(D:Dv)(x y:Int)(w:World)(h:DC w a bs cache D):
  Calls prog 161 #[.pointer (some ⟨a,0,none⟩),.int .i64 x,.int .i64 y] w fun e w'=>e=.returned (.tuple #[])/\DC w' a bs cache {D with fr:=wrap64 (D.c+x),toE:=wrap64 (wrap64 (D.c+x)+y)}/\y6 [a] w w':=by
 have b:w.cell? ⟨a,2,none⟩=some (.int .i64 D.c):=y7 h rfl;have d:w.cell? ⟨a,6,none⟩=some (.int .i64 D.fr):=y7 h rfl;have f:w.cell? ⟨a,7,none⟩=some (.int .i64 D.toE):=y7 h rfl;have f6:w.frozen? ⟨a,6,none⟩=false:=ax _ _ _ _ _ h;have f7:w.frozen? ⟨a,7,none⟩=false:=ax _ _ _ _ _ h;have H:Hid (DC ((w.setCell ⟨a,6,none⟩ (.int .i64 (wrap64 (D.c+x)))).setCell ⟨a,7,none⟩ (.int .i64 (wrap64 (wrap64 (D.c+x)+y)))) a bs cache {D with fr:=wrap64 (D.c+x),toE:=wrap64 (wrap64 (D.c+x)+y)}):=yf (i:=7) _ (yf (i:=6) _ h);clear h;go_enter func161,ntmps161;go_wp2
 go_region
 go_wp2;go_end0;exact⟨rfl,H.out,(((y6.refl [a] w).setCell (Or.inl (by simp)) _).setCell (Or.inl (by simp)) _).drew⟩
end Go.Proofs.YtcklgafpgdhnaaaGreatDoor
