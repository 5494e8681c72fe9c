/- As AsAt: put together for a claim. -/
import Derived.Test.YtjefgmeejhakbabGreatDoorMgAA
import Derived.WalkKit
import Derived.LaidEql
import Derived.Stop.Asserts
import Derived.RowKitTokens
namespace Go.Proofs.YtjefgmeejhakbabGreatDoor
open Go.RowKit Go.Extern.Stop Go.Stop Go.Extern
theorem asValueOf84 (t:Addr) (w:World):(ReflectliteValue.unpack (.iface 161 (.pointer (some t)))).run Tryz.prog w
  = .ok (.agg #[.pointer (some ⟨9,161,none⟩),.pointer (some ⟨w.heap.size,0,none⟩),.int .u64 150]) (w.alloc (.cells #[.pointer (some t)] 161)):=by kernel_rfl
theorem asType84 (a:Addr) (w:World):(ReflectliteValue.methodAny (ReflectliteValue.valueError "reflectlite.Value.Type" 0) (fun t _ _ _=>ReflectliteType.toType t) #[.agg #[.pointer (some ⟨9,161,none⟩),.pointer (some a),.int .u64 150]]).run Tryz.prog w
  = .ok (.iface 310 (.agg #[.pointer (some ⟨9,161,none⟩)])) w:=by kernel_rfl
theorem asMethodKind (h:Value) (w:World):(Go.method 570 310 (.agg #[h]) "Kind").run Tryz.prog w=.ok (396,h) w:=by kernel_rfl
theorem asKind84 (w:World):((ReflectliteType.abiMethod fun t=>(fun a:Nat=>Value.int IntKind.u8 (a:Int)) <$> Rtype.kind t) #[.pointer (some ⟨9,161,none⟩)]).run Tryz.prog w=.ok (.int .u8 22) w:=by kernel_rfl
theorem asKind38 (w:World):((ReflectliteType.abiMethod fun t=>(fun a:Nat=>Value.int IntKind.u8 (a:Int)) <$> Rtype.kind t) #[.pointer (some ⟨9,33,none⟩)]).run Tryz.prog w=.ok (.int .u8 2) w:=by kernel_rfl
theorem asParts84 (a:Addr) (w:World):(ReflectliteValue.parts (.agg #[.pointer (some ⟨9,161,none⟩),.pointer (some a),.int .u64 150])).run Tryz.prog w=.ok (some (161,a,150)) w:=by kernel_rfl
theorem asIsNil84 (a p:Addr) (W:World) (ha:W.cell? a=some (.pointer (some p))) :
  (ReflectliteValue.method (ReflectliteValue.valueError "reflectlite.Value.IsNil" 0) ReflectliteValue.isNil #[.agg #[.pointer (some ⟨9,161,none⟩),.pointer (some a),.int .u64 150]]).run Tryz.prog W=.ok (.bool false) W:=by
 change Sem.run Tryz.prog (Bind.bind (m:=Sem) (ReflectliteValue.parts (.agg #[.pointer (some ⟨9,161,none⟩),.pointer (some a),.int .u64 150])) _) W=_
 simp only [Sem.run_bind,asParts84,Result.andThen]
 simp [ReflectliteValue.isNil,loadVar,isAgg,underlying,Tryz.underlying161,ha,Result.andThen]
theorem asMethodElem (h:Value) (w:World):(Go.method 570 310 (.agg #[h]) "Elem").run Tryz.prog w=.ok (421,.agg #[h]) w:=by kernel_rfl
theorem asMethodImplements (h:Value) (w:World):(Go.method 570 310 (.agg #[h]) "Implements").run Tryz.prog w=.ok (422,.agg #[h]) w:=by kernel_rfl
theorem asMethodAssignableTo (h:Value) (w:World):(Go.method 570 310 (.agg #[h]) "AssignableTo").run Tryz.prog w=.ok (419,.agg #[h]) w:=by kernel_rfl
theorem asElem84 (w:World):(ReflectliteType.method ReflectliteType.elem #[.agg #[.pointer (some ⟨9,161,none⟩)]]).run Tryz.prog w=.ok (.iface 310 (.agg #[.pointer (some ⟨9,33,none⟩)])) w:=by kernel_rfl
theorem asImplements38 (w:World):(ReflectliteType.relation "Implements" ReflectliteType.implements_ #[.agg #[.pointer (some ⟨9,33,none⟩)],.iface 310 (.agg #[.pointer (some ⟨9,27,none⟩)])]).run Tryz.prog w=.ok (.bool true) w:=by kernel_rfl
theorem asTypeOf38 (v:Value) (w:World):(ReflectliteType.typeOf #[.iface 33 v]).run Tryz.prog w=.ok (.iface 310 (.agg #[.pointer (some ⟨9,33,none⟩)])) w:=by kernel_rfl
theorem asAssignable38 (w:World):(ReflectliteType.relation "AssignableTo" ReflectliteType.assignableTo #[.agg #[.pointer (some ⟨9,33,none⟩)],.iface 310 (.agg #[.pointer (some ⟨9,33,none⟩)])]).run Tryz.prog w=.ok (.bool true) w:=by kernel_rfl
theorem asValueOf38 (e:Int) (w:World):(ReflectliteValue.unpack (.iface 33 (.int .i64 e))).run Tryz.prog w
  = .ok (.agg #[.pointer (some ⟨9,33,none⟩),.pointer (some ⟨w.heap.size,0,none⟩),.int .u64 130]) (w.alloc (.cells #[.int .i64 e] 33)):=by kernel_rfl
theorem asElemOf84 (w:World):(Rtype.elem? 161).run Tryz.prog w=.ok (some 33) w:=by kernel_rfl
theorem asMk38 (p:Addr) (w:World):(ReflectliteValue.mk 33 p ReflectliteValue.flagAddr).run Tryz.prog w=.ok (.agg #[.pointer (some ⟨9,33,none⟩),.pointer (some p),.int .u64 386]) w:=by kernel_rfl
theorem asElemV84 (a p:Addr) (W:World) (ha:W.cell? a=some (.pointer (some p))) :
  (ReflectliteValue.method (ReflectliteValue.valueError "reflectlite.Value.Elem" 0) ReflectliteValue.elem #[.agg #[.pointer (some ⟨9,161,none⟩),.pointer (some a),.int .u64 150]]).run Tryz.prog W
   = .ok (.agg #[.pointer (some ⟨9,33,none⟩),.pointer (some p),.int .u64 386]) W:=by
 change Sem.run Tryz.prog (Bind.bind (m:=Sem) (ReflectliteValue.parts (.agg #[.pointer (some ⟨9,161,none⟩),.pointer (some a),.int .u64 150])) _) W=_
 simp only [Sem.run_bind,asParts84,Result.andThen]
 simp [ReflectliteValue.elem,loadVar,isAgg,underlying,Tryz.underlying161,ha,Result.andThen,asElemOf84,asMk38]
theorem asParts38a (a:Addr) (w:World):(ReflectliteValue.parts (.agg #[.pointer (some ⟨9,33,none⟩),.pointer (some a),.int .u64 386])).run Tryz.prog w=.ok (some (33,a,386)) w:=by kernel_rfl
theorem asParts38 (a:Addr) (w:World):(ReflectliteValue.parts (.agg #[.pointer (some ⟨9,33,none⟩),.pointer (some a),.int .u64 130])).run Tryz.prog w=.ok (some (33,a,130)) w:=by kernel_rfl
theorem asDirect38 (w:World):(Rtype.directlyAssignable 33 33).run Tryz.prog w=.ok true w:=by kernel_rfl
theorem asSet38 (ta b:Addr) (e:Int) (old:Value) (W:World) (hb:W.cell? b=some (.int .i64 e)) (ht:W.cell? ta=some old) (hf:W.frozen? ta=false) :
  (ReflectliteValue.set #[.agg #[.pointer (some ⟨9,33,none⟩),.pointer (some ta),.int .u64 386],.agg #[.pointer (some ⟨9,33,none⟩),.pointer (some b),.int .u64 130]]).run Tryz.prog W
   = .ok (.tuple #[]) (W.setCell ta (.int .i64 e)):=by
 change Sem.run Tryz.prog (Bind.bind (m:=Sem) (ReflectliteValue.parts (.agg #[.pointer (some ⟨9,33,none⟩),.pointer (some ta),.int .u64 386])) fun q=>Bind.bind (m:=Sem) (ReflectliteValue.parts (.agg #[.pointer (some ⟨9,33,none⟩),.pointer (some b),.int .u64 130])) _) W=_
 simp only [Sem.run_bind,asParts38a,asParts38,Result.andThen]
 simp [ReflectliteValue.flagAddr,loadVar,isAgg,underlying,Tryz.underlying33,hb,Result.andThen,asDirect38,storeVar,Value.cells,storeCells,Addr.add]
 rw [run_store Tryz.prog W ta _ _ (by rfl)]
 simp [ht,hf]
set_option maxRecDepth 100000 in
set_option maxHeartbeats 4000000 in
theorem as_hit (e:Int) (t:Addr) (old:Value) (w:World) (hg:w.cell? ⟨0,0,none⟩=some (.iface 310 (.agg #[.pointer (some ⟨9,27,none⟩)]))) (ht0:w.cell? t=some old) (hf0:w.frozen? t=false) :
  Calls Tryz.prog 93 #[.iface 33 (.int .i64 e),.iface 161 (.pointer (some t))] w fun ev w'=>ev=.returned (.bool true)∧w'=((((w.alloc (.cells #[.pointer (some t)] 161)).alloc (.cells #[.pointer (some ⟨9,161,none⟩),.pointer (some ⟨w.heap.size,0,none⟩),.int .u64 150] 230)).alloc (.cells #[.pointer (some ⟨9,161,none⟩),.pointer (some ⟨w.heap.size,0,none⟩),.int .u64 150] 230)).alloc (.cells #[.int .i64 e] 33)).setCell t (.int .i64 e):=by
 have h6:=@run_callFunc_extern Tryz.prog 164 _ (fun args=>ReflectliteValue.unpack (args.getD 0 (.tuple #[]))) Tryz.func164 (by kernel_rfl) (by kernel_rfl) (by kernel_rfl) (by kernel_rfl)
 have h7:=@run_callFunc_extern Tryz.prog 165 _ (ReflectliteValue.methodAny (ReflectliteValue.valueError "reflectlite.Value.Type" 0) (fun t _ _ _=>ReflectliteType.toType t)) Tryz.func165 (by kernel_rfl) (by kernel_rfl) (by kernel_rfl) (by kernel_rfl)
 have h8:=@run_callFunc_extern Tryz.prog 166 _ (ReflectliteValue.method (ReflectliteValue.valueError "reflectlite.Value.IsNil" 0) ReflectliteValue.isNil) Tryz.func166 (by kernel_rfl) (by kernel_rfl) (by kernel_rfl) (by kernel_rfl)
 have h27:=@run_callFunc_extern Tryz.prog 396 _ (ReflectliteType.abiMethod fun t=>do pure (.int .u8 (← Rtype.kind t))) Tryz.func396 (by kernel_rfl) (by kernel_rfl) (by kernel_rfl) (by kernel_rfl)
 have h37:=@run_callFunc_extern Tryz.prog 421 _ (ReflectliteType.method ReflectliteType.elem) Tryz.func421 (by kernel_rfl) (by kernel_rfl) (by kernel_rfl) (by kernel_rfl)
 have h38:=@run_callFunc_extern Tryz.prog 422 _ (ReflectliteType.relation "Implements" ReflectliteType.implements_) Tryz.func422 (by kernel_rfl) (by kernel_rfl) (by kernel_rfl) (by kernel_rfl)
 have h10:=@run_callFunc_extern Tryz.prog 225 _ ReflectliteType.typeOf Tryz.func225 (by kernel_rfl) (by kernel_rfl) (by kernel_rfl) (by kernel_rfl)
 have h35:=@run_callFunc_extern Tryz.prog 419 _ (ReflectliteType.relation "AssignableTo" ReflectliteType.assignableTo) Tryz.func419 (by kernel_rfl) (by kernel_rfl) (by kernel_rfl) (by kernel_rfl)
 have h11:=@run_callFunc_extern Tryz.prog 226 _ (ReflectliteValue.method (ReflectliteValue.valueError "reflectlite.Value.Elem" 0) ReflectliteValue.elem) Tryz.func226 (by kernel_rfl) (by kernel_rfl) (by kernel_rfl) (by kernel_rfl)
 have h12:=@run_callFunc_extern Tryz.prog 227 _ ReflectliteValue.set Tryz.func227 (by kernel_rfl) (by kernel_rfl) (by kernel_rfl) (by kernel_rfl)
 have tO:=asTypeOf38
 have mA:=asMethodAssignableTo
 have a25:=asAssignable38
 have v25:=asValueOf38
 have f6:=asValueOf84
 have f7:=asType84
 have mK:=asMethodKind
 have mE:=asMethodElem
 have mI:=asMethodImplements
 have k27:=asKind84
 have k25:=asKind38
 have e27:=asElem84
 have i25:=asImplements38
 have n8:=asIsNil84 ⟨w.heap.size,0,none⟩ t ((w.alloc (.cells #[.pointer (some t)] 161)).alloc (.cells #[.pointer (some ⟨9,161,none⟩),.pointer (some ⟨w.heap.size,0,none⟩),.int .u64 150] 230)) (by simp)
 have hlt:0<w.heap.size:=by
  rcases Nat.eq_zero_or_pos w.heap.size with h0 | h
  ·simp [World.cell?,h0] at hg
  ·exact h
 have hg2:((w.alloc (.cells #[.pointer (some t)] 161)).alloc (.cells #[.pointer (some ⟨9,161,none⟩),.pointer (some ⟨w.heap.size,0,none⟩),.int .u64 150] 230)).cell? ⟨0,0,none⟩=some (.iface 310 (.agg #[.pointer (some ⟨9,27,none⟩)])):=by
  rw [World.cell?_alloc_lt _ _ ⟨0,0,none⟩ (by simp),World.cell?_alloc_lt _ _ ⟨0,0,none⟩ hlt];exact hg
 have htl:t.block<w.heap.size:=by
  rcases Nat.lt_or_ge t.block w.heap.size with h | h
  ·exact h
  ·simp [World.cell?,Array.getElem?_eq_none h] at ht0
 have el:=asElemV84 ⟨w.heap.size,0,none⟩ t (((w.alloc (.cells #[.pointer (some t)] 161)).alloc (.cells #[.pointer (some ⟨9,161,none⟩),.pointer (some ⟨w.heap.size,0,none⟩),.int .u64 150] 230)).alloc (.cells #[.pointer (some ⟨9,161,none⟩),.pointer (some ⟨w.heap.size,0,none⟩),.int .u64 150] 230)) (by rw [World.cell?_alloc_lt _ _ ⟨w.heap.size,0,none⟩ (by simp;omega)];simp)
 have st:=asSet38 t ⟨w.heap.size+1+1+1,0,none⟩ e old ((((w.alloc (.cells #[.pointer (some t)] 161)).alloc (.cells #[.pointer (some ⟨9,161,none⟩),.pointer (some ⟨w.heap.size,0,none⟩),.int .u64 150] 230)).alloc (.cells #[.pointer (some ⟨9,161,none⟩),.pointer (some ⟨w.heap.size,0,none⟩),.int .u64 150] 230)).alloc (.cells #[.int .i64 e] 33))
  (by rw [World.cell?_alloc_at _ _ _ _ (by simp)];rfl)
  (by rw [World.cell?_alloc_lt _ _ t (by simp;omega),World.cell?_alloc_lt _ _ t (by simp;omega),World.cell?_alloc_lt _ _ t (by simp;omega),World.cell?_alloc_lt _ _ t htl];exact ht0)
  (by rw [World.frozen?_alloc_old _ _ t (by simp;omega),World.frozen?_alloc_old _ _ t (by simp;omega),World.frozen?_alloc_old _ _ t (by simp;omega),World.frozen?_alloc_old _ _ t (Nat.ne_of_lt htl)];exact hf0)
 go_enter Tryz.func93,Tryz.ntmps93
 go_wp2
 refine wp_loop_rounds 1 ?_
 rw [rounds_succ]
 go_wp2
 go_ret
 exact⟨rfl,rfl⟩
end Go.Proofs.YtjefgmeejhakbabGreatDoor
namespace Go.Proofs.YtjefgmeejhakbabGreatDoor
open Go.RowKit Go.Extern.Stop Go.Stop Go.Extern
theorem asTypeOf71 (v:Value) (w:World):(ReflectliteType.typeOf #[.iface 222 v]).run Tryz.prog w=.ok (.iface 310 (.agg #[.pointer (some ⟨9,222,none⟩)])) w:=by kernel_rfl
theorem asAssignable71 (w:World):(ReflectliteType.relation "AssignableTo" ReflectliteType.assignableTo #[.agg #[.pointer (some ⟨9,222,none⟩)],.iface 310 (.agg #[.pointer (some ⟨9,33,none⟩)])]).run Tryz.prog w=.ok (.bool false) w:=by kernel_rfl
theorem asNoAs71 (v:Value) (xT:TypeId) (w:World):(Instr.typeAssert (.iface 222 v) xT 315 true).run Tryz.prog w=.ok (.tuple #[.nilIface,.bool false]) w:=run_typeAssert_lacksB Tryz.underlying315 (by kernel_rfl) (by kernel_rfl) v xT w
theorem asHasUnwrap71 (v:Value) (xT:TypeId) (w:World):(Instr.typeAssert (.iface 222 v) xT 225 true).run Tryz.prog w=.ok (.tuple #[.iface 222 v,.bool true]) w:=run_typeAssert_hasB Tryz.underlying225 (by kernel_rfl) v xT w
theorem asMethodUnwrap (h:Value) (w:World):(Go.method 570 222 h "Unwrap").run Tryz.prog w=.ok (406,h) w:=by kernel_rfl
set_option maxRecDepth 100000 in
set_option maxHeartbeats 4000000 in
theorem as_at (e:Int) (pb:Nat) (t:Addr) (old:Value) (w:World) (hp:w.cell? ⟨pb,0,none⟩=some (.int .i64 e)) (hg:w.cell? ⟨0,0,none⟩=some (.iface 310 (.agg #[.pointer (some ⟨9,27,none⟩)]))) (ht0:w.cell? t=some old) (hf0:w.frozen? t=false) :
  Calls Tryz.prog 93 #[.iface 222 (.pointer (some ⟨pb,0,none⟩)),.iface 161 (.pointer (some t))] w fun ev w'=>ev=.returned (.bool true)∧w'=((((w.alloc (.cells #[.pointer (some t)] 161)).alloc (.cells #[.pointer (some ⟨9,161,none⟩),.pointer (some ⟨w.heap.size,0,none⟩),.int .u64 150] 230)).alloc (.cells #[.pointer (some ⟨9,161,none⟩),.pointer (some ⟨w.heap.size,0,none⟩),.int .u64 150] 230)).alloc (.cells #[.int .i64 e] 33)).setCell t (.int .i64 e):=by
 have h6:=@run_callFunc_extern Tryz.prog 164 _ (fun args=>ReflectliteValue.unpack (args.getD 0 (.tuple #[]))) Tryz.func164 (by kernel_rfl) (by kernel_rfl) (by kernel_rfl) (by kernel_rfl)
 have h7:=@run_callFunc_extern Tryz.prog 165 _ (ReflectliteValue.methodAny (ReflectliteValue.valueError "reflectlite.Value.Type" 0) (fun t _ _ _=>ReflectliteType.toType t)) Tryz.func165 (by kernel_rfl) (by kernel_rfl) (by kernel_rfl) (by kernel_rfl)
 have h8:=@run_callFunc_extern Tryz.prog 166 _ (ReflectliteValue.method (ReflectliteValue.valueError "reflectlite.Value.IsNil" 0) ReflectliteValue.isNil) Tryz.func166 (by kernel_rfl) (by kernel_rfl) (by kernel_rfl) (by kernel_rfl)
 have h27:=@run_callFunc_extern Tryz.prog 396 _ (ReflectliteType.abiMethod fun t=>do pure (.int .u8 (← Rtype.kind t))) Tryz.func396 (by kernel_rfl) (by kernel_rfl) (by kernel_rfl) (by kernel_rfl)
 have h37:=@run_callFunc_extern Tryz.prog 421 _ (ReflectliteType.method ReflectliteType.elem) Tryz.func421 (by kernel_rfl) (by kernel_rfl) (by kernel_rfl) (by kernel_rfl)
 have h38:=@run_callFunc_extern Tryz.prog 422 _ (ReflectliteType.relation "Implements" ReflectliteType.implements_) Tryz.func422 (by kernel_rfl) (by kernel_rfl) (by kernel_rfl) (by kernel_rfl)
 have h10:=@run_callFunc_extern Tryz.prog 225 _ ReflectliteType.typeOf Tryz.func225 (by kernel_rfl) (by kernel_rfl) (by kernel_rfl) (by kernel_rfl)
 have h35:=@run_callFunc_extern Tryz.prog 419 _ (ReflectliteType.relation "AssignableTo" ReflectliteType.assignableTo) Tryz.func419 (by kernel_rfl) (by kernel_rfl) (by kernel_rfl) (by kernel_rfl)
 have h11:=@run_callFunc_extern Tryz.prog 226 _ (ReflectliteValue.method (ReflectliteValue.valueError "reflectlite.Value.Elem" 0) ReflectliteValue.elem) Tryz.func226 (by kernel_rfl) (by kernel_rfl) (by kernel_rfl) (by kernel_rfl)
 have h12:=@run_callFunc_extern Tryz.prog 227 _ ReflectliteValue.set Tryz.func227 (by kernel_rfl) (by kernel_rfl) (by kernel_rfl) (by kernel_rfl)
 have tO:=asTypeOf38
 have mA:=asMethodAssignableTo
 have a25:=asAssignable38
 have v25:=asValueOf38
 have f6:=asValueOf84
 have f7:=asType84
 have mK:=asMethodKind
 have mE:=asMethodElem
 have mI:=asMethodImplements
 have k27:=asKind84
 have k25:=asKind38
 have e27:=asElem84
 have i25:=asImplements38
 have n8:=asIsNil84 ⟨w.heap.size,0,none⟩ t ((w.alloc (.cells #[.pointer (some t)] 161)).alloc (.cells #[.pointer (some ⟨9,161,none⟩),.pointer (some ⟨w.heap.size,0,none⟩),.int .u64 150] 230)) (by simp)
 have hlt:0<w.heap.size:=by
  rcases Nat.eq_zero_or_pos w.heap.size with h0 | h
  ·simp [World.cell?,h0] at hg
  ·exact h
 have hg2:((w.alloc (.cells #[.pointer (some t)] 161)).alloc (.cells #[.pointer (some ⟨9,161,none⟩),.pointer (some ⟨w.heap.size,0,none⟩),.int .u64 150] 230)).cell? ⟨0,0,none⟩=some (.iface 310 (.agg #[.pointer (some ⟨9,27,none⟩)])):=by
  rw [World.cell?_alloc_lt _ _ ⟨0,0,none⟩ (by simp),World.cell?_alloc_lt _ _ ⟨0,0,none⟩ hlt];exact hg
 have htl:t.block<w.heap.size:=by
  rcases Nat.lt_or_ge t.block w.heap.size with h | h
  ·exact h
  ·simp [World.cell?,Array.getElem?_eq_none h] at ht0
 have el:=asElemV84 ⟨w.heap.size,0,none⟩ t (((w.alloc (.cells #[.pointer (some t)] 161)).alloc (.cells #[.pointer (some ⟨9,161,none⟩),.pointer (some ⟨w.heap.size,0,none⟩),.int .u64 150] 230)).alloc (.cells #[.pointer (some ⟨9,161,none⟩),.pointer (some ⟨w.heap.size,0,none⟩),.int .u64 150] 230)) (by rw [World.cell?_alloc_lt _ _ ⟨w.heap.size,0,none⟩ (by simp;omega)];simp)
 have st:=asSet38 t ⟨w.heap.size+1+1+1,0,none⟩ e old ((((w.alloc (.cells #[.pointer (some t)] 161)).alloc (.cells #[.pointer (some ⟨9,161,none⟩),.pointer (some ⟨w.heap.size,0,none⟩),.int .u64 150] 230)).alloc (.cells #[.pointer (some ⟨9,161,none⟩),.pointer (some ⟨w.heap.size,0,none⟩),.int .u64 150] 230)).alloc (.cells #[.int .i64 e] 33))
  (by rw [World.cell?_alloc_at _ _ _ _ (by simp)];rfl)
  (by rw [World.cell?_alloc_lt _ _ t (by simp;omega),World.cell?_alloc_lt _ _ t (by simp;omega),World.cell?_alloc_lt _ _ t (by simp;omega),World.cell?_alloc_lt _ _ t htl];exact ht0)
  (by rw [World.frozen?_alloc_old _ _ t (by simp;omega),World.frozen?_alloc_old _ _ t (by simp;omega),World.frozen?_alloc_old _ _ t (by simp;omega),World.frozen?_alloc_old _ _ t (Nat.ne_of_lt htl)];exact hf0)
 have tO71:=asTypeOf71
 have a71:=asAssignable71
 have s1:=asNoAs71
 have s2:=asHasUnwrap71
 have mU:=asMethodUnwrap
 have hpl:pb<w.heap.size:=World.block_lt_of_cell? w _ hp
 have hp3:(((w.alloc (.cells #[.pointer (some t)] 161)).alloc (.cells #[.pointer (some ⟨9,161,none⟩),.pointer (some ⟨w.heap.size,0,none⟩),.int .u64 150] 230)).alloc (.cells #[.pointer (some ⟨9,161,none⟩),.pointer (some ⟨w.heap.size,0,none⟩),.int .u64 150] 230)).cell? ⟨pb,0,none⟩=some (.int .i64 e):=by
  rw [World.cell?_alloc_lt _ _ ⟨pb,0,none⟩ (by simp;omega),World.cell?_alloc_lt _ _ ⟨pb,0,none⟩ (by simp;omega),World.cell?_alloc_lt _ _ ⟨pb,0,none⟩ hpl];exact hp
 go_enter Tryz.func93,Tryz.ntmps93
 go_wp2
 refine wp_loop_rounds 2 ?_
 rw [rounds_succ]
 go_wp2
 rw [rounds_succ]
 go_wp2
 go_ret
 exact⟨rfl,rfl⟩
end Go.Proofs.YtjefgmeejhakbabGreatDoor
