import Derived.Test.YtcklgafpgdhnaaaGreatDoorPyar
set_option maxRecDepth 100000
set_option maxHeartbeats 4000000
set_option linter.unusedSimpArgs false
set_option linter.unusedVariables false
set_option linter.unusedSectionVars false
open Go.Proofs.Tryz
namespace Go.Proofs.YtcklgafpgdhnaaaGreatDoor
open Go.RowKit
def Ends(S:List Nat)(R:World->Prop)(W:World)(e:Ending)(W':World):Prop:=e=.returned (.tuple #[])/\R W'/\y6 S W W'
def jF(x:Int)(S:List Nat)(R:World->Prop)(W:World)(e:Ending)(W':World):Prop:=
 ∃f o,e=.panicked [{v:=.iface 147 (.agg #[.iface 111 (.pointer (some ⟨f,0,none⟩))]),recovered:=false}]/\
  W'.heap[f]?=some (.cells #[o,.iface 100 (.int .i64 x)] 114 (0,0))/\R W'/\y6 S W W'
theorem Q30(b:ByteArray)(fid:FuncId)(caps:Array Value)(he:∀(args:Array Value) (W:World),(callFunc fid args).run prog W=.ok (.enter fid args) W)(S:List Nat)(R:World->Prop)(w:World)(hS:∀x∈S,x<w.heap.size)
  (hR:∀W W' T,R W->y6 T W W'->(∀x∈T,w.heap.size<=x/\x<w.heap.size+2/\∃cs fr,W.heap[x]?=some (.cells cs 35 fr))->R W')
  (hw:∀W,y6 [] w W->W.heap.size=w.heap.size+2->Calls prog fid caps W (Ends S R W)):
  Calls prog 42 #[.string b,.func (.func fid) #[] caps] w fun e w'=>e=.returned .nilIface/\R w'/\y6 S w w':=by
 have y:=j2;have h:=((y6.refl [] w).alloc (.cells #[.string b] 9)).alloc (.cells #[.nilIface] 35);have l:((w.alloc (.cells #[.string b] 9)).alloc (.cells #[.nilIface] 35)).heap[w.heap.size+1]?=some (.cells #[.nilIface] 35 (0,0)):=by
  have:=af (w.alloc (.cells #[.string b] 9)) (.cells #[.nilIface] 35)
  rwa[ak]at this
 have d:=hw _ h (by simp);have p:Hid (Calls _ _ _ _ _):=d;have n:Hid (∀W W' T,R W->y6 T W W'->(∀x∈T,w.heap.size<=x/\x<w.heap.size+2/\∃cs fr,W.heap[x]?=some (.cells cs 35 fr))->R W'):=hR;have o:Hid (∀x∈S,x<w.heap.size):=hS;clear hw d hR hS
 go_enter_defers func42,ntmps42
 go_wp2_with fail;refine p.out.mono ?_;rintro e W⟨rfl,m,k⟩;have t:Hid (R W):=m;have g:=k.get l (fun a=>by have:=o.out _ a;omega);have v:W.cell? ⟨w.heap.size+1,0,none⟩=some .nilIface:=y7 g rfl;have f2:W.frozen? ⟨w.heap.size+1,0,none⟩=false:=ax _ _ _ _ _ g;have j:y6 [w.heap.size+1] W (W.setCell ⟨w.heap.size+1,0,none⟩ .nilIface):=(y6.refl _ _).setCell (Or.inl (by simp)) _;have r:y6 S w (W.setCell ⟨w.heap.size+1,0,none⟩ .nilIface):=((h.mono (by simp)).trans k).trans2 j (by intro x a;simp at a;subst a;exact Or.inr (by omega));have c:R (W.setCell ⟨w.heap.size+1,0,none⟩ .nilIface):=n.out _ _ _ t.out j (by intro x a;simp at a;subst a;exact⟨by omega,by omega,_,_,g⟩);have u:Hid (R (W.setCell ⟨w.heap.size+1,0,none⟩ .nilIface)):=c;have q:(W.setCell ⟨w.heap.size+1,0,none⟩ .nilIface).cell? ⟨w.heap.size+1,0,none⟩=some .nilIface:=y7 (yf (i:=0) .nilIface g) rfl;clear m c l g h;go_wp2;refine leaves_cons (f:=67) (args:=#[.pointer (some ⟨w.heap.size,0,none⟩),.pointer (some ⟨w.heap.size+1,0,none⟩)]) (by simp) (by simp[go_sem]) ?_;refine(OE ⟨w.heap.size,0,none⟩ ⟨w.heap.size+1,0,none⟩ _).mono ?_;rintro e z s⟨rfl,rfl,rfl⟩;simp[Leaves,settle,results,Tryz.results42,go_sem,q];exact⟨u.out,r⟩
def PU(x:Int)(S:List Nat)(R:World->Prop)(w:World)(e:Ending)(w':World):Prop:=∃err,e=.returned err/\gU w' err x/\R w'/\y6 S w w'
theorem Q32(b:ByteArray)(fid:FuncId)(caps:Array Value)(he:∀(args:Array Value) (W:World),(callFunc fid args).run prog W=.ok (.enter fid args) W)(x:Int)(S:List Nat)(R:World->Prop)(w:World)(hS:∀x∈S,x<w.heap.size)
  (hR:∀W W' T,R W->y6 T W W'->(∀x∈T,w.heap.size<=x/\x<w.heap.size+2/\∃cs fr,W.heap[x]?=some (.cells cs 35 fr))->R W')
  (hw:∀W,y6 [] w W->W.heap.size=w.heap.size+2->Calls prog fid caps W (jF x S R W)):
  Calls prog 42 #[.string b,.func (.func fid) #[] caps] w (PU x S R w):=by
 have z:=j2;have m:=((y6.refl [] w).alloc (.cells #[.string b] 9)).alloc (.cells #[.nilIface] 35);have s:((w.alloc (.cells #[.string b] 9)).alloc (.cells #[.nilIface] 35)).heap[w.heap.size+1]?=some (.cells #[.nilIface] 35 (0,0)):=by
  have:=af (w.alloc (.cells #[.string b] 9)) (.cells #[.nilIface] 35)
  rwa[ak]at this
 have u:=((y6.refl [] (w.alloc (.cells #[.string b] 9))).alloc (.cells #[.nilIface] 35)).get (af w (.cells #[.string b] 9)) (by simp);have c:=hw _ m (by simp);have p:Hid (Calls _ _ _ _ _):=c;have n:Hid (∀W W' T,R W->y6 T W W'->(∀x∈T,w.heap.size<=x/\x<w.heap.size+2/\∃cs fr,W.heap[x]?=some (.cells cs 35 fr))->R W'):=hR;have j:Hid (∀x∈S,x<w.heap.size):=hS;clear hw c hR hS
 go_enter_defers func42,ntmps42
 go_wp2_with fail;refine p.out.mono ?_;rintro e W⟨f,o,rfl,r,t,h⟩;have l:=h.get s (fun g=>by have:=j.out _ g;omega);have v:=h.get u (fun g=>by have:=j.out _ g;omega);refine leaves_cons (f:=67) (args:=#[.pointer (some ⟨w.heap.size,0,none⟩),.pointer (some ⟨w.heap.size+1,0,none⟩)]) (by simp) (by simp[go_sem]) ?_;refine(Zk w.heap.size (w.heap.size+1) f o _ _ x W v ⟨b,rfl⟩ l r).mono ?_;rintro e A i⟨rfl,rfl,a,he,hc,k⟩;have q:i.cell? ⟨w.heap.size+1,0,none⟩=some a:=y7 he rfl;simp[Leaves,settle,results,Tryz.results42,go_sem,q];exact⟨a,rfl,hc,n.out _ _ _ t k (by intro y d;simp at d;subst d;exact⟨by omega,by omega,_,_,l⟩),((m.mono (by simp)).trans h).trans2 k (by intro y d;simp at d;subst d;exact Or.inr (by omega))⟩
end Go.Proofs.YtcklgafpgdhnaaaGreatDoor
