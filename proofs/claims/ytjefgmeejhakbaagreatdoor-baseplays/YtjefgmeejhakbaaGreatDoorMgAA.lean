/- LkBase As Back Latest: put together for a claim. -/
import Derived.Test.YtjefgmeejhakbaaGreatDoorProg
import Derived.WalkKit
import Derived.WalkSpells
import Derived.BigQuiet
import Derived.Deep.QuietTactic
import Derived.Deep.AppendLies
import Derived.Deep.RegionHeld3
import Derived.Deep.RegionLaw
import Derived.Laws.AppendOwnNone
import Derived.KernelRfl
import Derived.LaidEql
import Derived.Stop.Asserts
import Derived.RowKitTokens
import Derived.RangeFuncNested
import Derived.RangeFuncBound
import Derived.RangeFuncCalls
import Derived.RangeFuncLeaves
import Derived.Shelf.Abstract
import Derived.Shelf.RegionOpen
import Derived.OwnWalkIn
import Derived.TacticsInMore
import Derived.LoopNIn
import Derived.LoopIn
/- What the walks share: rows of numbers and of pairs; the small functions in and Bare. -/
namespace Go.Proofs.YtjefgmeejhakbaaGreatDoor
open Go.RowKit
theorem hid {p:Prop} (h:p):Hid p:=h
theorem addr_add (g j:Nat):(⟨g,0,none⟩:Addr).add j=⟨g,j,none⟩:=by unfold Addr.add;split<;>simp_all
def vrow:List (Int × Int)→List Value
 | []=>[]
 | (a,v)::r=>.int .i64 a::.int .i64 v::vrow r
theorem vrow_length:∀ l:List (Int × Int),(vrow l).length=l.length*2
 | []=>rfl
 | (_,_)::r=>by simp [vrow,vrow_length r];omega
theorem vrow_append:∀ l m:List (Int × Int),vrow (l++m)=vrow l++vrow m
 | [],_=>rfl
 | (_,_)::r,m=>by simp [vrow,vrow_append r m]
theorem vrow_get:∀ (l:List (Int × Int)) (j:Nat) (a v:Int),l[j]?=some (a,v)→(vrow l)[j*2]?=some (.int .i64 a)∧(vrow l)[j*2+1]?=some (.int .i64 v)
 | [],j,a,v,h=>by simp at h
 | (x,y)::r,0,a,v,h=>by simp at h;obtain⟨rfl,rfl⟩:=h;simp [vrow]
 | (x,y)::r,j+1,a,v,h=>by
  have:=vrow_get r j a v (by simpa using h)
  rw [show (j+1)*2=j*2+1+1 from by omega]
  simpa [vrow] using this
def intsV (l:List Int):List Value:=l.map (Value.int .i64)
theorem intsV_append (l m:List Int):intsV (l++m)=intsV l++intsV m:=by simp [intsV]
theorem intsV_length (l:List Int):(intsV l).length=l.length:=by simp [intsV]
theorem intsV_get {l:List Int} {j:Nat} {x:Int} (h:l[j]?=some x):(intsV l)[j]?=some (.int .i64 x):=by simp [intsV,h]
theorem intsV_one (l:List Int):∀ u∈intsV l,u.oneCell'=true:=by
 intro u hu
 obtain⟨x,_,rfl⟩:=List.mem_map.1 hu
 rfl
theorem owns_same {w w':World} {base:Nat} {e:TypeId} {size:Nat} {v:Value} {n:Nat} {xs:List Value} (h:w.ownsRow base e size v n xs) (hs:∀ g,v.ownBlock=some g→w'.heap[g]?=w.heap[g]?):w'.ownsRow base e size v n xs:=by
 refine⟨h.1,?_⟩
 rcases h.2 with hn | ⟨g,cap,cur,rfl,hb,hg,r⟩
 ·exact .inl hn
 ·exact .inr ⟨g,cap,cur,rfl,hb,(hs g rfl).trans hg,r⟩
theorem owns_base {w:World} {base base':Nat} {e:TypeId} {size:Nat} {v:Value} {n:Nat} {xs:List Value} (h:w.ownsRow base e size v n xs) (hb:base'≤base):w.ownsRow base' e size v n xs:=by
 refine⟨h.1,?_⟩
 rcases h.2 with hn | ⟨g,cap,cur,rfl,hg0,r⟩
 ·exact .inl hn
 ·exact .inr ⟨g,cap,cur,rfl,Nat.le_trans hb hg0,r⟩
theorem row_slice {w:World} {base:Nat} {e:TypeId} {size:Nat} {v:Value} {n:Nat} {xs:List Value} (h:w.ownsRow base e size v n xs) :
  (v=.slice none 0 0∧n=0)∨∃ g cap,v=.slice (some ⟨g,0,none⟩) n cap∧g<w.heap.size∧∀ j u,xs[j]?=some u→w.cell? ⟨g,j,none⟩=some u:=by
 rcases h.2 with ⟨e,e0⟩ | ⟨g,cap,cur,e,hb,hg,_⟩
 ·exact .inl ⟨e,e0⟩
 ·refine .inr ⟨g,cap,e,(Array.getElem?_eq_some_iff.1 hg).1,fun j u hu=>?_⟩
  have:=h.cells (g:=g) (by rw [e];rfl) j u hu
  rwa [addr_add] at this
theorem row_form {w:World} {base:Nat} {e:TypeId} {size:Nat} {v:Value} {n:Nat} {xs:List Value} (h:w.ownsRow base e size v n xs):∃ ad cap,v=.slice ad n cap:=by
 rcases row_slice h with ⟨e1,e2⟩ | ⟨g,cap,e1,_⟩
 ·exact⟨none,0,by rw [e1,e2]⟩
 ·exact⟨_,cap,e1⟩
theorem below_drewN {B:Nat} {a w:World} (h:Below B a w):∀ q,Below B a (w.drewN q)
 | 0=>h
 | q+1=>⟨(below_drewN h q).os,(below_drewN h q).tape,(below_drewN h q).output,(below_drewN h q).size,(below_drewN h q).block⟩
theorem info3:(Tryz.prog.info? 3).map (fun i=>(i.zero,i.size,i.bytes))=some (some (.int .i64 0),1,8):=by kernel_rfl
theorem info78:(Tryz.prog.info? 78).map (fun i=>(i.zero,i.size,i.bytes))=some (some (.agg #[.int .i64 0,.int .i64 0]),2,16):=by kernel_rfl
def inB (n lo hi:Int):Bool:=decide (lo≤n∧n≤hi)
set_option maxHeartbeats 1000000 in
theorem in_any (n lo hi:Int) (w:World):Calls Tryz.prog 54 #[.int .i64 n,.int .i64 lo,.int .i64 hi] w fun e w'=>e=.returned (.bool (inB n lo hi))∧w'=w:=by
 by_cases h1:lo≤n
 ·by_cases h2:n≤hi
  ·have h:inB n lo hi=true:=by simp [inB,h1,h2]
   rw [h]
   go_enter Tryz.func54,Tryz.ntmps54
   go_wp2
   go_ret
   exact⟨rfl,rfl⟩
  ·have h:inB n lo hi=false:=by simp [inB,h2]
   rw [h]
   go_enter Tryz.func54,Tryz.ntmps54
   go_wp2
   go_ret
   exact⟨rfl,rfl⟩
 ·have h:inB n lo hi=false:=by simp [inB,h1]
  rw [h]
  go_enter Tryz.func54,Tryz.ntmps54
  go_wp2
  go_ret
  exact⟨rfl,rfl⟩
set_option maxHeartbeats 1000000 in
theorem bareF_any (c:Int) (w:World):Calls Tryz.prog 58 #[.int .i64 c] w fun e w'=>e=.returned (.agg #[.int .i64 c,.int .i64 (-1)])∧Below w.heap.size w w':=by
 go_enter Tryz.func58,Tryz.ntmps58
 go_wp2
 exact bodyPost_ret (v:=.agg #[.int .i64 c,.int .i64 (-1)]) (by simp [results,Tryz.results58,go_sem]) rfl ⟨rfl,(Below.refl _ _).alloc (Nat.le_refl _) _⟩
end Go.Proofs.YtjefgmeejhakbaaGreatDoor
/- errors.As at a target of api.Errno: its own text, walked: a nil error; an error that is an Errno. -/
namespace Go.Proofs.YtjefgmeejhakbaaGreatDoor
open Go.RowKit Go.Extern.Stop Go.Stop Go.Extern
theorem asValueOf84 (t:Addr) (w:World):(ReflectliteValue.unpack (.iface 247 (.pointer (some t)))).run Tryz.prog w
  = .ok (.agg #[.pointer (some ⟨1,247,none⟩),.pointer (some ⟨w.heap.size,0,none⟩),.int .u64 150]) (w.alloc (.cells #[.pointer (some t)] 247)):=by kernel_rfl
theorem asType84 (a:Addr) (w:World):(ReflectliteValue.methodAny (ReflectliteValue.valueError "reflectlite.Value.Type" 0) (fun t _ _ _=>ReflectliteType.toType t) #[.agg #[.pointer (some ⟨1,247,none⟩),.pointer (some a),.int .u64 150]]).run Tryz.prog w
  = .ok (.iface 263 (.agg #[.pointer (some ⟨1,247,none⟩)])) w:=by kernel_rfl
theorem asMethodKind (h:Value) (w:World):(Go.method 464 263 (.agg #[h]) "Kind").run Tryz.prog w=.ok (263,h) w:=by kernel_rfl
theorem asKind84 (w:World):((ReflectliteType.abiMethod fun t=>(fun a:Nat=>Value.int IntKind.u8 (a:Int)) <$> Rtype.kind t) #[.pointer (some ⟨1,247,none⟩)]).run Tryz.prog w=.ok (.int .u8 22) w:=by kernel_rfl
theorem asKind38 (w:World):((ReflectliteType.abiMethod fun t=>(fun a:Nat=>Value.int IntKind.u8 (a:Int)) <$> Rtype.kind t) #[.pointer (some ⟨1,24,none⟩)]).run Tryz.prog w=.ok (.int .u8 2) w:=by kernel_rfl
theorem asParts84 (a:Addr) (w:World):(ReflectliteValue.parts (.agg #[.pointer (some ⟨1,247,none⟩),.pointer (some a),.int .u64 150])).run Tryz.prog w=.ok (some (247,a,150)) w:=by kernel_rfl
theorem asIsNil84 (a p:Addr) (W:World) (ha:W.cell? a=some (.pointer (some p))) :
  (ReflectliteValue.method (ReflectliteValue.valueError "reflectlite.Value.IsNil" 0) ReflectliteValue.isNil #[.agg #[.pointer (some ⟨1,247,none⟩),.pointer (some a),.int .u64 150]]).run Tryz.prog W=.ok (.bool false) W:=by
 change Sem.run Tryz.prog (Bind.bind (m:=Sem) (ReflectliteValue.parts (.agg #[.pointer (some ⟨1,247,none⟩),.pointer (some a),.int .u64 150])) _) W=_
 simp only [Sem.run_bind,asParts84,Result.andThen]
 simp [ReflectliteValue.isNil,loadVar,isAgg,underlying,Tryz.underlying247,ha,Result.andThen]
theorem asMethodElem (h:Value) (w:World):(Go.method 464 263 (.agg #[h]) "Elem").run Tryz.prog w=.ok (278,.agg #[h]) w:=by kernel_rfl
theorem asMethodImplements (h:Value) (w:World):(Go.method 464 263 (.agg #[h]) "Implements").run Tryz.prog w=.ok (279,.agg #[h]) w:=by kernel_rfl
theorem asMethodAssignableTo (h:Value) (w:World):(Go.method 464 263 (.agg #[h]) "AssignableTo").run Tryz.prog w=.ok (277,.agg #[h]) w:=by kernel_rfl
theorem asElem84 (w:World):(ReflectliteType.method ReflectliteType.elem #[.agg #[.pointer (some ⟨1,247,none⟩)]]).run Tryz.prog w=.ok (.iface 263 (.agg #[.pointer (some ⟨1,24,none⟩)])) w:=by kernel_rfl
theorem asImplements38 (w:World):(ReflectliteType.relation "Implements" ReflectliteType.implements_ #[.agg #[.pointer (some ⟨1,24,none⟩)],.iface 263 (.agg #[.pointer (some ⟨1,33,none⟩)])]).run Tryz.prog w=.ok (.bool true) w:=by kernel_rfl
theorem asTypeOf38 (v:Value) (w:World):(ReflectliteType.typeOf #[.iface 24 v]).run Tryz.prog w=.ok (.iface 263 (.agg #[.pointer (some ⟨1,24,none⟩)])) w:=by kernel_rfl
theorem asAssignable38 (w:World):(ReflectliteType.relation "AssignableTo" ReflectliteType.assignableTo #[.agg #[.pointer (some ⟨1,24,none⟩)],.iface 263 (.agg #[.pointer (some ⟨1,24,none⟩)])]).run Tryz.prog w=.ok (.bool true) w:=by kernel_rfl
theorem asValueOf38 (e:Int) (w:World):(ReflectliteValue.unpack (.iface 24 (.int .i64 e))).run Tryz.prog w
  = .ok (.agg #[.pointer (some ⟨1,24,none⟩),.pointer (some ⟨w.heap.size,0,none⟩),.int .u64 130]) (w.alloc (.cells #[.int .i64 e] 24)):=by kernel_rfl
theorem asElemOf84 (w:World):(Rtype.elem? 247).run Tryz.prog w=.ok (some 24) w:=by kernel_rfl
theorem asMk38 (p:Addr) (w:World):(ReflectliteValue.mk 24 p ReflectliteValue.flagAddr).run Tryz.prog w=.ok (.agg #[.pointer (some ⟨1,24,none⟩),.pointer (some p),.int .u64 386]) w:=by kernel_rfl
theorem asElemV84 (a p:Addr) (W:World) (ha:W.cell? a=some (.pointer (some p))) :
  (ReflectliteValue.method (ReflectliteValue.valueError "reflectlite.Value.Elem" 0) ReflectliteValue.elem #[.agg #[.pointer (some ⟨1,247,none⟩),.pointer (some a),.int .u64 150]]).run Tryz.prog W
   = .ok (.agg #[.pointer (some ⟨1,24,none⟩),.pointer (some p),.int .u64 386]) W:=by
 change Sem.run Tryz.prog (Bind.bind (m:=Sem) (ReflectliteValue.parts (.agg #[.pointer (some ⟨1,247,none⟩),.pointer (some a),.int .u64 150])) _) W=_
 simp only [Sem.run_bind,asParts84,Result.andThen]
 simp [ReflectliteValue.elem,loadVar,isAgg,underlying,Tryz.underlying247,ha,Result.andThen,asElemOf84,asMk38]
theorem asParts38a (a:Addr) (w:World):(ReflectliteValue.parts (.agg #[.pointer (some ⟨1,24,none⟩),.pointer (some a),.int .u64 386])).run Tryz.prog w=.ok (some (24,a,386)) w:=by kernel_rfl
theorem asParts38 (a:Addr) (w:World):(ReflectliteValue.parts (.agg #[.pointer (some ⟨1,24,none⟩),.pointer (some a),.int .u64 130])).run Tryz.prog w=.ok (some (24,a,130)) w:=by kernel_rfl
theorem asDirect38 (w:World):(Rtype.directlyAssignable 24 24).run Tryz.prog w=.ok true w:=by kernel_rfl
theorem asSet38 (ta b:Addr) (e:Int) (old:Value) (W:World) (hb:W.cell? b=some (.int .i64 e)) (ht:W.cell? ta=some old) (hf:W.frozen? ta=false) :
  (ReflectliteValue.set #[.agg #[.pointer (some ⟨1,24,none⟩),.pointer (some ta),.int .u64 386],.agg #[.pointer (some ⟨1,24,none⟩),.pointer (some b),.int .u64 130]]).run Tryz.prog W
   = .ok (.tuple #[]) (W.setCell ta (.int .i64 e)):=by
 change Sem.run Tryz.prog (Bind.bind (m:=Sem) (ReflectliteValue.parts (.agg #[.pointer (some ⟨1,24,none⟩),.pointer (some ta),.int .u64 386])) fun q=>Bind.bind (m:=Sem) (ReflectliteValue.parts (.agg #[.pointer (some ⟨1,24,none⟩),.pointer (some b),.int .u64 130])) _) W=_
 simp only [Sem.run_bind,asParts38a,asParts38,Result.andThen]
 simp [ReflectliteValue.flagAddr,loadVar,isAgg,underlying,Tryz.underlying24,hb,Result.andThen,asDirect38,storeVar,Value.cells,storeCells,Addr.add]
 rw [run_store Tryz.prog W ta _ _ (by rfl)]
 simp [ht,hf]
set_option maxRecDepth 100000 in
set_option maxHeartbeats 4000000 in
theorem as_hit (e:Int) (t:Addr) (old:Value) (w:World) (hg:w.cell? ⟨0,0,none⟩=some (.iface 263 (.agg #[.pointer (some ⟨1,33,none⟩)]))) (ht0:w.cell? t=some old) (hf0:w.frozen? t=false) :
  Calls Tryz.prog 149 #[.iface 24 (.int .i64 e),.iface 247 (.pointer (some t))] w fun ev w'=>ev=.returned (.bool true)∧w'=((((w.alloc (.cells #[.pointer (some t)] 247)).alloc (.cells #[.pointer (some ⟨1,247,none⟩),.pointer (some ⟨w.heap.size,0,none⟩),.int .u64 150] 209)).alloc (.cells #[.pointer (some ⟨1,247,none⟩),.pointer (some ⟨w.heap.size,0,none⟩),.int .u64 150] 209)).alloc (.cells #[.int .i64 e] 24)).setCell t (.int .i64 e):=by
 have h6:=@run_callFunc_extern Tryz.prog 117 _ (fun args=>ReflectliteValue.unpack (args.getD 0 (.tuple #[]))) Tryz.func117 (by kernel_rfl) (by kernel_rfl) (by kernel_rfl) (by kernel_rfl)
 have h7:=@run_callFunc_extern Tryz.prog 200 _ (ReflectliteValue.methodAny (ReflectliteValue.valueError "reflectlite.Value.Type" 0) (fun t _ _ _=>ReflectliteType.toType t)) Tryz.func200 (by kernel_rfl) (by kernel_rfl) (by kernel_rfl) (by kernel_rfl)
 have h8:=@run_callFunc_extern Tryz.prog 201 _ (ReflectliteValue.method (ReflectliteValue.valueError "reflectlite.Value.IsNil" 0) ReflectliteValue.isNil) Tryz.func201 (by kernel_rfl) (by kernel_rfl) (by kernel_rfl) (by kernel_rfl)
 have h27:=@run_callFunc_extern Tryz.prog 263 _ (ReflectliteType.abiMethod fun t=>do pure (.int .u8 (← Rtype.kind t))) Tryz.func263 (by kernel_rfl) (by kernel_rfl) (by kernel_rfl) (by kernel_rfl)
 have h37:=@run_callFunc_extern Tryz.prog 278 _ (ReflectliteType.method ReflectliteType.elem) Tryz.func278 (by kernel_rfl) (by kernel_rfl) (by kernel_rfl) (by kernel_rfl)
 have h38:=@run_callFunc_extern Tryz.prog 279 _ (ReflectliteType.relation "Implements" ReflectliteType.implements_) Tryz.func279 (by kernel_rfl) (by kernel_rfl) (by kernel_rfl) (by kernel_rfl)
 have h10:=@run_callFunc_extern Tryz.prog 233 _ ReflectliteType.typeOf Tryz.func233 (by kernel_rfl) (by kernel_rfl) (by kernel_rfl) (by kernel_rfl)
 have h35:=@run_callFunc_extern Tryz.prog 277 _ (ReflectliteType.relation "AssignableTo" ReflectliteType.assignableTo) Tryz.func277 (by kernel_rfl) (by kernel_rfl) (by kernel_rfl) (by kernel_rfl)
 have h11:=@run_callFunc_extern Tryz.prog 234 _ (ReflectliteValue.method (ReflectliteValue.valueError "reflectlite.Value.Elem" 0) ReflectliteValue.elem) Tryz.func234 (by kernel_rfl) (by kernel_rfl) (by kernel_rfl) (by kernel_rfl)
 have h12:=@run_callFunc_extern Tryz.prog 235 _ ReflectliteValue.set Tryz.func235 (by kernel_rfl) (by kernel_rfl) (by kernel_rfl) (by kernel_rfl)
 have tO:=asTypeOf38
 have mA:=asMethodAssignableTo
 have a25:=asAssignable38
 have v25:=asValueOf38
 have f6:=asValueOf84
 have f7:=asType84
 have mK:=asMethodKind
 have mE:=asMethodElem
 have mI:=asMethodImplements
 have k27:=asKind84
 have k25:=asKind38
 have e27:=asElem84
 have i25:=asImplements38
 have n8:=asIsNil84 ⟨w.heap.size,0,none⟩ t ((w.alloc (.cells #[.pointer (some t)] 247)).alloc (.cells #[.pointer (some ⟨1,247,none⟩),.pointer (some ⟨w.heap.size,0,none⟩),.int .u64 150] 209)) (by simp)
 have hlt:0<w.heap.size:=by
  rcases Nat.eq_zero_or_pos w.heap.size with h0 | h
  ·simp [World.cell?,h0] at hg
  ·exact h
 have hg2:((w.alloc (.cells #[.pointer (some t)] 247)).alloc (.cells #[.pointer (some ⟨1,247,none⟩),.pointer (some ⟨w.heap.size,0,none⟩),.int .u64 150] 209)).cell? ⟨0,0,none⟩=some (.iface 263 (.agg #[.pointer (some ⟨1,33,none⟩)])):=by
  rw [World.cell?_alloc_lt _ _ ⟨0,0,none⟩ (by simp),World.cell?_alloc_lt _ _ ⟨0,0,none⟩ hlt];exact hg
 have htl:t.block<w.heap.size:=by
  rcases Nat.lt_or_ge t.block w.heap.size with h | h
  ·exact h
  ·simp [World.cell?,Array.getElem?_eq_none h] at ht0
 have el:=asElemV84 ⟨w.heap.size,0,none⟩ t (((w.alloc (.cells #[.pointer (some t)] 247)).alloc (.cells #[.pointer (some ⟨1,247,none⟩),.pointer (some ⟨w.heap.size,0,none⟩),.int .u64 150] 209)).alloc (.cells #[.pointer (some ⟨1,247,none⟩),.pointer (some ⟨w.heap.size,0,none⟩),.int .u64 150] 209)) (by rw [World.cell?_alloc_lt _ _ ⟨w.heap.size,0,none⟩ (by simp;omega)];simp)
 have st:=asSet38 t ⟨w.heap.size+1+1+1,0,none⟩ e old ((((w.alloc (.cells #[.pointer (some t)] 247)).alloc (.cells #[.pointer (some ⟨1,247,none⟩),.pointer (some ⟨w.heap.size,0,none⟩),.int .u64 150] 209)).alloc (.cells #[.pointer (some ⟨1,247,none⟩),.pointer (some ⟨w.heap.size,0,none⟩),.int .u64 150] 209)).alloc (.cells #[.int .i64 e] 24))
  (by rw [World.cell?_alloc_at _ _ _ _ (by simp)];rfl)
  (by rw [World.cell?_alloc_lt _ _ t (by simp;omega),World.cell?_alloc_lt _ _ t (by simp;omega),World.cell?_alloc_lt _ _ t (by simp;omega),World.cell?_alloc_lt _ _ t htl];exact ht0)
  (by rw [World.frozen?_alloc_old _ _ t (by simp;omega),World.frozen?_alloc_old _ _ t (by simp;omega),World.frozen?_alloc_old _ _ t (by simp;omega),World.frozen?_alloc_old _ _ t (Nat.ne_of_lt htl)];exact hf0)
 go_enter Tryz.func149,Tryz.ntmps149
 go_wp2
 refine wp_loop_rounds 1 ?_
 rw [rounds_succ]
 go_wp2
 go_ret
 exact⟨rfl,rfl⟩
end Go.Proofs.YtjefgmeejhakbaaGreatDoor
/- The iterator over a list of versions from behind: slices.Backward at []api.Version. -/
namespace Go.Proofs.YtjefgmeejhakbaaGreatDoor
open Go.RowKit Go.Shelf
attribute [local go_sem] Oper.semAt_some
def Row (W:World) (g:Nat) (l:List (Int × Int)):Prop :=
 ∀ j a v,l[j]?=some (a,v)→W.cell? ⟨g,j*2,none⟩=some (.int .i64 a)∧W.cell? ⟨g,j*2+1,none⟩=some (.int .i64 v)
theorem Row.below {n₀:Nat} {A B:World} (h:Below n₀ A B) {g:Nat} (hg:g<n₀) {l:List (Int × Int)} (hr:Row A g l):Row B g l :=
 fun j a v e=>⟨(h.cell (p:=⟨g,j*2,none⟩) hg).trans (hr j a v e).1,(h.cell (p:=⟨g,j*2+1,none⟩) hg).trans (hr j a v e).2⟩
def came (l:List (Int × Int)) (m:Nat):List (Nat × (Int × Int)):=(((List.range l.length).map fun j=>(j,l[j]?.getD (0,0))).drop m).reverse
theorem came_all (l:List (Int × Int)):came l l.length=[]:=by simp [came]
theorem came_length (l:List (Int × Int)) (m:Nat):(came l m).length=l.length-m:=by simp [came]
theorem came_step (l:List (Int × Int)) (m:Nat) (a v:Int) (h:l[m]?=some (a,v)):came l m=came l (m+1)++[(m,(a,v))]:=by
 have hm:m<l.length:=(List.getElem?_eq_some_iff.1 h).1
 unfold came
 rw [List.drop_eq_getElem_cons (i:=m) (by simpa using hm)]
 simp [h]
def encV (x:Nat × (Int × Int)):Array Value:=#[.int .i64 (x.1:Int),.agg #[.int .i64 x.2.1,.int .i64 x.2.2]]
set_option maxRecDepth 100000 in
set_option maxHeartbeats 2000000 in
theorem back1_in (F:Fence) (n:Nat) (h7:F.fn 237) (hro:F.round=none) (hn:1≤n) (l Bs n₀ b cap:Nat) (zs:List (Int × Int)) (hreach:zs.length≤1000000) (hb:b<n₀) (J Jx:List (Nat × (Int × Int))→World→Prop)
    (hY:∀ pre x W,J pre W→pre.length<zs.length→YieldAt F (n-1) Tryz.prog l (encV x) W fun e W' =>
      (e=.returned (.bool true)∧J (pre++[x]) W'∧Below n₀ W W')∨(e=.returned (.bool false)∧Jx (pre++[x]) W'))
    (W:World) (hBs0:Bs<n₀) (hBs:W.cell? ⟨Bs,0,none⟩=some (.slice (some ⟨b,0,none⟩) zs.length cap)) (hc:Row W b zs) (h0:J [] W) :
    CallsIn F n Tryz.prog 237 #[.func (.yield l) #[] #[],.pointer (some ⟨Bs,0,none⟩)] W fun e W'=>(∃ v,e=.returned v) ∧
      ((∃ ys,ys=came zs 0∧J ys W')∨(∃ pre,(∃ m,m<zs.length∧pre=came zs m)∧Jx pre W')):=by
  refine callsIn_of_wp Tryz.func237 rfl h7 ?_ hro
  simp only [Tryz.ntmps237,List.size_toArray,List.length_cons,List.length_nil,Nat.reduceAdd,Nat.reduceSub,Array.replicate_succ,Array.replicate_zero,List.push_toArray,List.append_toArray,List.nil_append,List.cons_append]
  gi_wp2
  gi_loopw [3] (fun i wr=>∃ m:Nat,m≤zs.length∧i=.int .i64 ((m:Int)-1)∧J (came zs m) wr∧Below n₀ W wr)
    (fun i _=>(intOf i+1).toNat)
  case atStart=>exact⟨zs.length,Nat.le_refl _,by simp,by rw [came_all];exact h0,Below.refl _ _⟩
  case round =>
    obtain⟨m,hm,rfl,hJs,hnx⟩:=hrel
    have hBs':wr.cell? ⟨Bs,0,none⟩=some (.slice (some ⟨b,0,none⟩) zs.length cap):=(hnx.cell (p:=⟨Bs,0,none⟩) hBs0).trans hBs
    cases m with
    | zero =>
      gi_wp2
      go_end0
      exact⟨⟨_,rfl⟩,.inl ⟨_,rfl,hJs⟩⟩
    | succ m =>
      obtain⟨⟨a,v⟩,hav⟩:∃ p,zs[m]?=some p:=⟨zs[m],List.getElem?_eq_getElem (by omega)⟩
      obtain⟨hc1,hc2⟩:=(hc.below hnx hb) m a v hav
      obtain⟨fn,tmps,assign,body,hy,hR⟩:=hY _ (m,(a,v)) wr hJs (by rw [came_length];omega)
      have hst:Hid (came zs m=came zs (m+1)++[(m,(a,v))]):=came_step zs m a v hav
      rw [show (((m+1:Nat):Int)-1)=(m:Int) from by omega]
      simp only [encV] at hy
      clear hav
      have hml:(m:Int)<(zs.length:Int):=by omega
      gi_wp2
      refine hR.mono ?_
      rintro e W3 (⟨rfl,hJ3,hk3⟩ | ⟨rfl,hJx3⟩)
      · gi_wp2
        go_roundw
        case rel=>exact⟨m,by omega,by simp,by rw [hst.out];exact hJ3,hnx.trans hk3⟩
        case measure=>simp [intOf]
      · gi_wp2
        refine bodyPost_ret (results_none rfl _ _ _) rfl ?_
        exact⟨⟨_,rfl⟩,.inr ⟨_,⟨m,by omega,rfl⟩,by rw [hst.out];exact hJx3⟩⟩
set_option maxRecDepth 100000 in
set_option maxHeartbeats 1000000 in
theorem back1_nil_in (F:Fence) (n:Nat) (h7:F.fn 237) (hro:F.round=none) (l Bs:Nat) (J:List (Nat × (Int × Int))→World→Prop) (W:World) (hBs:W.cell? ⟨Bs,0,none⟩=some (.slice none 0 0)) (h0:J [] W) :
  CallsIn F n Tryz.prog 237 #[.func (.yield l) #[] #[],.pointer (some ⟨Bs,0,none⟩)] W fun e W'=>(∃ v,e=.returned v)∧J [] W':=by
 refine callsIn_of_wp Tryz.func237 rfl h7 ?_ hro
 simp only [Tryz.ntmps237,List.size_toArray,List.length_cons,List.length_nil,Nat.reduceAdd,Nat.reduceSub,Array.replicate_succ,Array.replicate_zero,List.push_toArray,List.append_toArray,List.nil_append,List.cons_append]
 gi_wp2
 gi_loopw [3] (fun i wr=>i=.int .i64 (-1)∧J [] wr) (fun _ _=>0)
 case atStart=>exact⟨rfl,h0⟩
 case round =>
  obtain⟨rfl,hJs⟩:=hrel
  gi_wp2
  go_end0
  exact⟨⟨_,rfl⟩,hJs⟩
set_option maxHeartbeats 1000000 in
theorem back_in (F:Fence) (n:Nat) (h5:F.fn 206) (hro:F.round=none) (a:Option Addr) (len cap:Nat) (w:World) :
  CallsIn F n Tryz.prog 206 #[.slice a len cap] w fun e w'=>e=.returned (.func (.func 237) #[] #[.pointer (some ⟨w.heap.size,0,none⟩)])∧w'=w.alloc (.cells #[.slice a len cap] 153):=by
 refine callsIn_of_wp Tryz.func206 rfl h5 ?_ hro
 simp only [Tryz.ntmps206,List.size_toArray,List.length_cons,List.length_nil,Nat.reduceAdd,Nat.reduceSub,Array.replicate_succ,Array.replicate_zero,List.push_toArray,List.append_toArray,List.nil_append,List.cons_append]
 gi_wp2
 go_ret
 exact⟨rfl,rfl⟩
def Vers (n₀:Nat) (W:World) (sv:Value) (zs:List (Int × Int)):Prop :=
 (sv=.slice none 0 0∧zs=[])∨∃ b cap,sv=.slice (some ⟨b,0,none⟩) zs.length cap∧b<n₀∧Row W b zs
theorem Vers.below {n₀:Nat} {A B:World} (h:Below n₀ A B) {sv:Value} {zs:List (Int × Int)}:Vers n₀ A sv zs→Vers n₀ B sv zs
 | .inl e=>.inl e
 | .inr ⟨b,cap,e,hb,hc⟩=>.inr ⟨b,cap,e,hb,hc.below h hb⟩
theorem back_stops (F:Fence) (n:Nat) (h7:F.fn 237) (hro:F.round=none) (hn:1≤n) (Bs n₀:Nat) (sv:Value) (zs:List (Int × Int)) (hreach:zs.length≤1000000) (w:World) (hBs:Bs<n₀) (hn₀:n₀≤w.heap.size)
  (hc:w.cell? ⟨Bs,0,none⟩=some sv) (hI:Vers n₀ w sv zs) :
  SeqStopsK F n Tryz.prog 237 #[.pointer (some ⟨Bs,0,none⟩)] encV (Below n₀) (fun ys=>ys=came zs 0)
   (fun pre=>∃ m,m<zs.length∧pre=came zs m) zs.length w:=fun l J Jx W hW _ _ hY h0=>by
 have hc':=(hW.cell (p:=⟨Bs,0,none⟩) (Nat.lt_of_lt_of_le hBs hn₀)).trans hc
 rcases hI.below (hW.mono hn₀) with ⟨rfl,rfl⟩ | ⟨b,cap,rfl,hb,hcs⟩
 ·exact (back1_nil_in F n h7 hro l Bs J W hc' h0).mono fun e W' ⟨he,hj⟩=>⟨he,.inl ⟨_,rfl,hj⟩⟩
 ·exact back1_in F n h7 hro hn l Bs n₀ b cap zs hreach hb J Jx hY W hBs hc' hcs h0
end Go.Proofs.YtjefgmeejhakbaaGreatDoor
/- store.latest: where the latest version that is not later than a time stands; -1: there is none. -/
namespace Go.Proofs.YtjefgmeejhakbaaGreatDoor
open Go.RowKit Go.Shelf
attribute [local go_sem] Oper.semAt_some
def latN (l:List (Int × Int)) (t:Int):Nat→Int
 | 0=>-1
 | m+1=>if (l[m]?.getD (0,0)).1≤t then (m:Int) else latN l t m
def lat (l:List (Int × Int)) (t:Int):Int:=latN l t l.length
def NoneYet (t:Int) (pre:List (Nat × (Int × Int))):Prop:=∀ p∈pre,t<p.2.1
theorem NoneYet.snoc {t:Int} {pre:List (Nat × (Int × Int))} (h:NoneYet t pre) {i:Nat} {x1 x2:Int} (hx:t<x1):NoneYet t (pre++[(i,x1,x2)]):=by
 intro p hp
 rcases List.mem_append.1 hp with hp | hp
 ·exact h p hp
 ·simp at hp;subst hp;exact hx
theorem lat_came (l:List (Int × Int)) (t:Int) (m:Nat) (hm:m≤l.length) (h:NoneYet t (came l m)):lat l t=latN l t m:=by
 unfold lat
 obtain⟨d,hd⟩:∃ d,l.length=m+d:=⟨l.length-m,by omega⟩
 have key:∀ d,m+d≤l.length→latN l t (m+d)=latN l t m:=by
  intro d
  induction d with
  | zero=>intro _;rfl
  | succ d ih =>
   intro hle
   rw [show m+(d+1)=(m+d)+1 from by omega,latN,if_neg,ih (by omega)]
   have:=h (m+d,l[m+d]?.getD (0,0)) (by
    simp only [came,List.mem_reverse,List.mem_drop_iff_getElem]
    exact⟨d,by simp;omega,by simp⟩)
   simp only at this
   omega
 rw [hd]
 exact key d (by omega)
set_option maxRecDepth 100000 in
set_option maxHeartbeats 2000000 in
theorem latest_in (F:Fence) (n:Nat) (h29:F.fn 152) (h34:F.fn 206) (h40:F.fn 237) (hro:F.round=none) (hn:3≤n) (a:Option Addr) (len cap:Nat) (t:Int) (zs:List (Int × Int)) (hreach:zs.length≤1000000) (w:World) (hI:Vers w.heap.size w (.slice a len cap) zs) :
  CallsIn F n Tryz.prog 152 #[.slice a len cap,.int .i64 t] w fun e W'=>e=.returned (.int .i64 (lat zs t))∧Below w.heap.size w W':=by
 have h1:1≤n:=by omega
 refine callsIn_of_wp_marks Tryz.func152 rfl h29 ?_ hro
 simp only [Tryz.ntmps152,List.size_toArray,List.length_cons,List.length_nil,Nat.reduceAdd,Nat.reduceSub,Array.replicate_succ,Array.replicate_zero,List.push_toArray,List.append_toArray,List.nil_append,List.cons_append]
 gi_wp2_with (gi_at_call 206;refine (back_in F (n-1) h34 hro _ _ _ _).mono ?_;rintro e w' ⟨rfl,rfl⟩)
 have bT:=((Boxed.new w 3 (.int .i64 t)).alloc (.cells #[.int .i64 0] 3)).alloc (.cells #[.slice a len cap] 153)
 have bR:=(Boxed.new (w.alloc (.cells #[.int .i64 t] 3)) 3 (.int .i64 0)).alloc (.cells #[.slice a len cap] 153)
 have bS:=Boxed.new ((w.alloc (.cells #[.int .i64 t] 3)).alloc (.cells #[.int .i64 0] 3)) 153 (.slice a len cap)
 simp only [World.size_alloc] at bR bS
 have hB0:Below w.heap.size w (((w.alloc (.cells #[.int .i64 t] 3)).alloc (.cells #[.int .i64 0] 3)).alloc (.cells #[.slice a len cap] 153)):=(((Below.refl _ w).alloc (Nat.le_refl _) _).alloc (by simp) _).alloc (by simp;omega) _
 have hsz:(((w.alloc (.cells #[.int .i64 t] 3)).alloc (.cells #[.int .i64 0] 3)).alloc (.cells #[.slice a len cap] 153)).heap.size=w.heap.size+3:=by simp
 obtain⟨W0,hW0⟩:∃ W0,((w.alloc (.cells #[.int .i64 t] 3)).alloc (.cells #[.int .i64 0] 3)).alloc (.cells #[.slice a len cap] 153)=W0:=⟨_,rfl⟩
 rw [hW0] at bT bR bS hB0 hsz ⊢
 clear hW0
 have hsz1:w.heap.size+3≤W0.heap.size:=by omega
 have hsz2:W0.heap.size≤w.heap.size+3:=by omega
 clear hsz
 have hI0:Vers W0.heap.size W0 (.slice a len cap) zs:=by
  rcases hI.below hB0 with h | ⟨b,cp,e,hb,hc⟩
  ·exact .inl h
  ·exact .inr ⟨b,cp,e,by omega,hc⟩
 refine wpIn_rangeFunc_ownH hro h1 (gf:=237) (lb:=#[.pointer (some ⟨w.heap.size+1+1,0,none⟩)]) rfl h40 (enters_of Tryz.func237 (by kernel_rfl) rfl)
  (back_stops F (n-1) h40 hro (by omega) (w.heap.size+1+1) W0.heap.size _ zs hreach W0 (by omega) (Nat.le_refl _) bS.cell hI0) belowK_t (belowK_b (Nat.le_refl _)) (Below.refl _ _) (fun _=>rfl)
  (fun pre W=>(NoneYet t pre∧Boxed W w.heap.size 3 (.int .i64 t)∧Boxed W (w.heap.size+1) 3 (.int .i64 0))∧Below w.heap.size w W∧Below W0.heap.size W0 W)
  (fun c pre W=>(c=.ret∧∃ ini last,pre=ini++[last]∧NoneYet t ini∧last.2.1≤t∧Boxed W (w.heap.size+1) 3 (.int .i64 (last.1:Int)))∧Below w.heap.size w W)
  (OwnFrom.and (OwnFrom.and (ownFrom_pure _ _) (OwnFrom.and (Own.from (boxed_own _ _ _) _) (Own.from (boxed_own _ _ _) _))) (OwnFrom.and (ownFrom_below (Nat.le_refl _) (by omega)) (ownFrom_below (Nat.le_refl _) (Nat.le_refl _))))
  (fun c=>OwnFrom.and (fun s X Y row hs hg hr=>by obtain⟨hc,ini,last,e1,e2,e3,e4⟩:=hs;exact⟨hc,ini,last,e1,e2,e3,boxed_own (w.heap.size+1) 3 (fun (_:Unit)=>Value.int .i64 (last.1:Int)) () X Y row e4 hg (fun r e=>(hr r e).2)⟩) (ownFrom_below (Nat.le_refl _) (by omega)))
  ⟨⟨by simp [NoneYet],bT,bR⟩,hB0,Below.refl _ _⟩
  (fun x a' W=>∃ Bx,w.heap.size+2<Bx∧W.cell? ⟨Bx,0,none⟩=some (.int .i64 x.2.1)∧a'={ tmps:=#[.slice a len cap,.int .i64 t,undef,.pointer (some ⟨w.heap.size,0,none⟩),.pointer (some ⟨w.heap.size+1,0,none⟩),.int .i64 (x.1:Int),.pointer (some ⟨Bx,0,none⟩),.slice a len cap,.func (.func 237) #[] #[.pointer (some ⟨w.heap.size+1+1,0,none⟩)],.int .i64 (x.1:Int),.agg #[.int .i64 x.2.1,.int .i64 x.2.2],undef,undef,undef,undef,undef],defers:=[] })
  (fun x a' _ X Y row hs hg hr=>by obtain⟨Bx,h1,h2,h3⟩:=hs;exact⟨Bx,h1,cell_kept h2 hg (fun r e=>(hr r e).2),h3⟩)
  ?assign ?body ?done ?stop
 case assign =>
  rintro l pre ⟨i,x1,x2⟩ W K ⟨⟨hp,bT1,bR1⟩,hB1,hB2⟩ hK
  simp only [encV] at *
  gi_wp2
  have hs2:=hB2.size
  exact hK _ _ ((KeepsOthers.alloc _ _).from _) ((Below.refl _ W).alloc hs2 _) ⟨⟨hp,bT1.alloc _,bR1.alloc _⟩,hB1.alloc hB1.size _,hB2.alloc hs2 _⟩
   ⟨W.heap.size,by omega,(cell_of_row _ W.heap.size 0 _ 199 (0,0) (World.alloc_heap_new W _)).trans rfl,rfl⟩
 case body =>
  rintro l pre ⟨i,x1,x2⟩ a' W hl ⟨r,hr⟩ ⟨⟨hp,bT1,bR1⟩,hB1,hB2⟩ ⟨Bx,hBx,cX,rfl⟩ hlt
  have cT:=bT1.cell
  have cR:=bR1.cell
  have fR:=bR1.frozen
  simp only at cX
  by_cases hx:x1≤t
  ·gi_wp2
   exact⟨(KeepsOthers.setCell _ _ _).from _,⟨rfl,pre,(i,x1,x2),rfl,hp,hx,bR1.set _⟩,hB1.setCell (p:=⟨w.heap.size+1,0,none⟩) (by simp) _⟩
  ·gi_wp2
   exact⟨KeepsFrom.refl _ _,Below.refl _ _,⟨hp.snoc hx,bT1,bR1⟩,hB1,hB2⟩
 case done =>
  rintro D ys W hD rfl ⟨⟨hne,bT1,bR1⟩,hB1,hB2⟩ hK
  have cR:=bR1.cell
  have fR:=bR1.frozen
  gi_wp2
  have hK':=(KeepsOthers.setCell W ⟨w.heap.size+1,0,none⟩ (.int .i64 (-1))).same D _ hK rfl
  refine⟨by simp,.inl ⟨_,_,rfl,run_takeDeferred hK',?_⟩⟩
  have hc5:=cell_kept (bR1.set (.int .i64 (-1))).cell (grownBy_putObj' _ D (.deferred none)) (fun r e=>by cases e;exact⟨_,hK',rfl⟩)
  refine⟨.int .i64 (-1),?_,?_,(hB1.setCell (p:=⟨w.heap.size+1,0,none⟩) (by simp) _).trans (belowK_b (w:=w) (Nat.le_refl _) _ D _ _ (by omega) hK' rfl rfl)⟩
  ·simp [results,Tryz.f152,go_sem,hc5]
  ·rw [lat_came zs t 0 (Nat.zero_le _) hne];rfl
 case stop =>
  rintro D c pre W hD ⟨m,hm,rfl⟩ ⟨⟨rfl,ini,last,e1,e2,e3,bR1⟩,hB⟩ hK
  gi_wp2
  refine⟨by simp,.inl ⟨_,_,rfl,run_takeDeferred hK,?_⟩⟩
  have hc5:=cell_kept bR1.cell (grownBy_putObj' _ D (.deferred none)) (fun r e=>by cases e;exact⟨_,hK,rfl⟩)
  obtain⟨⟨x,y⟩,hxy⟩:∃ p,zs[m]?=some p:=⟨zs[m],List.getElem?_eq_getElem hm⟩
  rw [came_step zs m x y hxy] at e1
  obtain⟨rfl,e5⟩:=List.append_inj' e1 rfl
  obtain rfl:(m,(x,y))=last:=by simpa using e5
  refine⟨.int .i64 (m:Int),?_,?_,hB.trans (belowK_b (w:=w) (Nat.le_refl _) W D _ _ (by omega) hK rfl rfl)⟩
  ·simp [results,Tryz.f152,go_sem,hc5]
  ·rw [lat_came zs t (m+1) hm e2,latN,if_pos (by rw [hxy];exact e3)]
theorem latest_any (a:Option Addr) (len cap:Nat) (t:Int) (zs:List (Int × Int)) (hreach:zs.length≤1000000) (w:World) (hI:Vers w.heap.size w (.slice a len cap) zs) :
  Calls Tryz.prog 152 #[.slice a len cap,.int .i64 t] w fun e W'=>e=.returned (.int .i64 (lat zs t))∧Below w.heap.size w W' :=
 (callsIn_wide (n:=3)).1 (latest_in Fence.wide 3 trivial trivial trivial rfl (Nat.le_refl _) a len cap t zs hreach w hI)
end Go.Proofs.YtjefgmeejhakbaaGreatDoor
