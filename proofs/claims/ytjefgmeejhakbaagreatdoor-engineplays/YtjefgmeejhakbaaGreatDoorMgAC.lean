/- Tell Small AsAt Place: put together for a claim. -/
import Derived.Test.YtjefgmeejhakbaaGreatDoorMgAA
import Derived.WalkSpells
import Derived.WalkKit
import Derived.BigQuiet
import Derived.Deep.QuietTactic
/- api.Tell. -/
namespace Go.Proofs.YtjefgmeejhakbaaGreatDoor
open Go.RowKit
def Handle (w : World) : Prop := w.cell? ⟨0, 0, none⟩ = some (.iface 263 (.agg #[.pointer (some ⟨1, 33, none⟩)]))
theorem Handle.pos {w : World} (h : Handle w) : 0 < w.heap.size := by
  rcases Nat.eq_zero_or_pos w.heap.size with h0 | h1
  · simp [Handle, World.cell?, h0] at h
  · exact h1
theorem Handle.below {w w' : World} {B : Nat} (h : Handle w) (hB : Below B w w') (hp : 0 < B) : Handle w' := (hB.cell (p := ⟨0, 0, none⟩) hp).trans h
set_option maxHeartbeats 1000000 in
theorem tell_nil (w : World) : Calls Tryz.prog 93 #[.nilIface] w fun e w' => e = .returned (.int .i64 0) ∧ w' = w := by
  go_enter Tryz.func93, Tryz.ntmps93
  go_wp2
  go_ret
  exact ⟨rfl, rfl⟩
set_option maxHeartbeats 1000000 in
theorem tell_errno (n : Int) (w : World) (hg : Handle w) : Calls Tryz.prog 93 #[.iface 24 (.int .i64 n)] w fun e w' => e = .returned (.int .i64 n) ∧ Below w.heap.size w w' := by
  have hp := hg.pos
  have hg1 : (w.alloc (.cells #[.int .i64 0] 24)).cell? ⟨0, 0, none⟩ = some (.iface 263 (.agg #[.pointer (some ⟨1, 33, none⟩)])) := (World.cell?_alloc_lt _ _ ⟨0, 0, none⟩ hp).trans hg
  have HG : Hid _ := hg1
  clear hg hg1
  go_enter Tryz.func93, Tryz.ntmps93
  go_wp2_with (go_at_call 149; refine (as_hit n ⟨w.heap.size, 0, none⟩ (.int .i64 0) _ HG.out (cell_one_new w _ _ 0 _ rfl) (by simp)).mono ?_; rintro e w' ⟨rfl, rfl⟩)
  go_ret
  refine ⟨rfl, ?_⟩
  exact (((((Below.refl _ w).alloc (Nat.le_refl _) _).alloc (by simp) _).alloc (by simp; omega) _).alloc (by simp; omega) _).alloc (by simp; omega) _
end Go.Proofs.YtjefgmeejhakbaaGreatDoor

/- The contracts of the small functions: pick, isKey, wrong. -/
namespace Go.Proofs.YtjefgmeejhakbaaGreatDoor
open Go.RowKit
def keyB (k : Int) : Bool := decide (0 ≤ k ∧ k < 10)
set_option maxHeartbeats 400000 in
theorem isKey_any (k : Int) (w : World) :
    Calls Tryz.prog 159 #[.int .i64 k] w fun e w' => e = .returned (.bool (keyB k)) ∧ w' = w := by
  by_cases h1 : 0 ≤ k
  · by_cases h2 : k < 10
    · have h : keyB k = true := by simp [keyB, h1, h2]
      rw [h]
      go_enter Tryz.func159, Tryz.ntmps159
      go_wp2
      go_ret
      exact ⟨rfl, rfl⟩
    · have h : keyB k = false := by simp [keyB, h2]
      rw [h]
      go_enter Tryz.func159, Tryz.ntmps159
      go_wp2
      go_ret
      exact ⟨rfl, rfl⟩
  · have h : keyB k = false := by simp [keyB, h1]
    rw [h]
    go_enter Tryz.func159, Tryz.ntmps159
    go_wp2
    go_ret
    exact ⟨rfl, rfl⟩
set_option maxHeartbeats 400000 in
theorem wrong_good (k v : Int) (w : World) (h1 : keyB k = true) (h2 : -1099511627776 ≤ v) (h3 : v ≤ 1099511627776) :
    Calls Tryz.prog 131 #[.agg #[.int .i64 k, .int .i64 v]] w fun e w' => e = .returned (.int .i64 0) ∧ Below w.heap.size w w' := by
  go_enter Tryz.func131, Tryz.ntmps131
  go_wp2_with (go_at_call 159; refine (isKey_any _ _).mono ?_; rintro e w' ⟨rfl, rfl⟩)
  go_ret
  exact ⟨rfl, (Below.refl _ _).alloc (Nat.le_refl _) _⟩
end Go.Proofs.YtjefgmeejhakbaaGreatDoor

/- errors.As at a target of api.Errno: an error that is an *api.At. -/
namespace Go.Proofs.YtjefgmeejhakbaaGreatDoor
open Go.RowKit Go.Extern.Stop Go.Stop Go.Extern
theorem asTypeOf71 (v : Value) (w : World) : (ReflectliteType.typeOf #[.iface 216 v]).run Tryz.prog w = .ok (.iface 263 (.agg #[.pointer (some ⟨1, 216, none⟩)])) w := by kernel_rfl
theorem asAssignable71 (w : World) : (ReflectliteType.relation "AssignableTo" ReflectliteType.assignableTo #[.agg #[.pointer (some ⟨1, 216, none⟩)], .iface 263 (.agg #[.pointer (some ⟨1, 24, none⟩)])]).run Tryz.prog w = .ok (.bool false) w := by kernel_rfl
theorem asNoAs71 (v : Value) (xT : TypeId) (w : World) : (Instr.typeAssert (.iface 216 v) xT 318 true).run Tryz.prog w = .ok (.tuple #[.nilIface, .bool false]) w := run_typeAssert_lacksB Tryz.underlying318 (by kernel_rfl) (by kernel_rfl) v xT w
theorem asHasUnwrap71 (v : Value) (xT : TypeId) (w : World) : (Instr.typeAssert (.iface 216 v) xT 230 true).run Tryz.prog w = .ok (.tuple #[.iface 216 v, .bool true]) w := run_typeAssert_hasB Tryz.underlying230 (by kernel_rfl) v xT w
theorem asMethodUnwrap (h : Value) (w : World) : (Go.method 464 216 h "Unwrap").run Tryz.prog w = .ok (276, h) w := by kernel_rfl
set_option maxRecDepth 100000 in
set_option maxHeartbeats 4000000 in
theorem as_at (e : Int) (pb : Nat) (t : Addr) (old : Value) (w : World) (hp : w.cell? ⟨pb, 0, none⟩ = some (.int .i64 e)) (hg : w.cell? ⟨0, 0, none⟩ = some (.iface 263 (.agg #[.pointer (some ⟨1, 33, none⟩)]))) (ht0 : w.cell? t = some old) (hf0 : w.frozen? t = false) :
    Calls Tryz.prog 149 #[.iface 216 (.pointer (some ⟨pb, 0, none⟩)), .iface 247 (.pointer (some t))] w fun ev w' => ev = .returned (.bool true) ∧ w' = ((((w.alloc (.cells #[.pointer (some t)] 247)).alloc (.cells #[.pointer (some ⟨1, 247, none⟩), .pointer (some ⟨w.heap.size, 0, none⟩), .int .u64 150] 209)).alloc (.cells #[.pointer (some ⟨1, 247, none⟩), .pointer (some ⟨w.heap.size, 0, none⟩), .int .u64 150] 209)).alloc (.cells #[.int .i64 e] 24)).setCell t (.int .i64 e) := by
  have h6 := @run_callFunc_extern Tryz.prog 117 _ (fun args => ReflectliteValue.unpack (args.getD 0 (.tuple #[]))) Tryz.func117 (by kernel_rfl) (by kernel_rfl) (by kernel_rfl) (by kernel_rfl)
  have h7 := @run_callFunc_extern Tryz.prog 200 _ (ReflectliteValue.methodAny (ReflectliteValue.valueError "reflectlite.Value.Type" 0) (fun t _ _ _ => ReflectliteType.toType t)) Tryz.func200 (by kernel_rfl) (by kernel_rfl) (by kernel_rfl) (by kernel_rfl)
  have h8 := @run_callFunc_extern Tryz.prog 201 _ (ReflectliteValue.method (ReflectliteValue.valueError "reflectlite.Value.IsNil" 0) ReflectliteValue.isNil) Tryz.func201 (by kernel_rfl) (by kernel_rfl) (by kernel_rfl) (by kernel_rfl)
  have h27 := @run_callFunc_extern Tryz.prog 263 _ (ReflectliteType.abiMethod fun t => do pure (.int .u8 (← Rtype.kind t))) Tryz.func263 (by kernel_rfl) (by kernel_rfl) (by kernel_rfl) (by kernel_rfl)
  have h37 := @run_callFunc_extern Tryz.prog 278 _ (ReflectliteType.method ReflectliteType.elem) Tryz.func278 (by kernel_rfl) (by kernel_rfl) (by kernel_rfl) (by kernel_rfl)
  have h38 := @run_callFunc_extern Tryz.prog 279 _ (ReflectliteType.relation "Implements" ReflectliteType.implements_) Tryz.func279 (by kernel_rfl) (by kernel_rfl) (by kernel_rfl) (by kernel_rfl)
  have h10 := @run_callFunc_extern Tryz.prog 233 _ ReflectliteType.typeOf Tryz.func233 (by kernel_rfl) (by kernel_rfl) (by kernel_rfl) (by kernel_rfl)
  have h35 := @run_callFunc_extern Tryz.prog 277 _ (ReflectliteType.relation "AssignableTo" ReflectliteType.assignableTo) Tryz.func277 (by kernel_rfl) (by kernel_rfl) (by kernel_rfl) (by kernel_rfl)
  have h11 := @run_callFunc_extern Tryz.prog 234 _ (ReflectliteValue.method (ReflectliteValue.valueError "reflectlite.Value.Elem" 0) ReflectliteValue.elem) Tryz.func234 (by kernel_rfl) (by kernel_rfl) (by kernel_rfl) (by kernel_rfl)
  have h12 := @run_callFunc_extern Tryz.prog 235 _ ReflectliteValue.set Tryz.func235 (by kernel_rfl) (by kernel_rfl) (by kernel_rfl) (by kernel_rfl)
  have tO := asTypeOf38
  have mA := asMethodAssignableTo
  have a25 := asAssignable38
  have v25 := asValueOf38
  have f6 := asValueOf84
  have f7 := asType84
  have mK := asMethodKind
  have mE := asMethodElem
  have mI := asMethodImplements
  have k27 := asKind84
  have k25 := asKind38
  have e27 := asElem84
  have i25 := asImplements38
  have n8 := asIsNil84 ⟨w.heap.size, 0, none⟩ t ((w.alloc (.cells #[.pointer (some t)] 247)).alloc (.cells #[.pointer (some ⟨1, 247, none⟩), .pointer (some ⟨w.heap.size, 0, none⟩), .int .u64 150] 209)) (by simp)
  have hlt : 0 < w.heap.size := by
    rcases Nat.eq_zero_or_pos w.heap.size with h0 | h
    · simp [World.cell?, h0] at hg
    · exact h
  have hg2 : ((w.alloc (.cells #[.pointer (some t)] 247)).alloc (.cells #[.pointer (some ⟨1, 247, none⟩), .pointer (some ⟨w.heap.size, 0, none⟩), .int .u64 150] 209)).cell? ⟨0, 0, none⟩ = some (.iface 263 (.agg #[.pointer (some ⟨1, 33, none⟩)])) := by
    rw [World.cell?_alloc_lt _ _ ⟨0, 0, none⟩ (by simp), World.cell?_alloc_lt _ _ ⟨0, 0, none⟩ hlt]; exact hg
  have htl : t.block < w.heap.size := by
    rcases Nat.lt_or_ge t.block w.heap.size with h | h
    · exact h
    · simp [World.cell?, Array.getElem?_eq_none h] at ht0
  have el := asElemV84 ⟨w.heap.size, 0, none⟩ t (((w.alloc (.cells #[.pointer (some t)] 247)).alloc (.cells #[.pointer (some ⟨1, 247, none⟩), .pointer (some ⟨w.heap.size, 0, none⟩), .int .u64 150] 209)).alloc (.cells #[.pointer (some ⟨1, 247, none⟩), .pointer (some ⟨w.heap.size, 0, none⟩), .int .u64 150] 209)) (by rw [World.cell?_alloc_lt _ _ ⟨w.heap.size, 0, none⟩ (by simp; omega)]; simp)
  have st := asSet38 t ⟨w.heap.size + 1 + 1 + 1, 0, none⟩ e old ((((w.alloc (.cells #[.pointer (some t)] 247)).alloc (.cells #[.pointer (some ⟨1, 247, none⟩), .pointer (some ⟨w.heap.size, 0, none⟩), .int .u64 150] 209)).alloc (.cells #[.pointer (some ⟨1, 247, none⟩), .pointer (some ⟨w.heap.size, 0, none⟩), .int .u64 150] 209)).alloc (.cells #[.int .i64 e] 24))
    (by rw [World.cell?_alloc_at _ _ _ _ (by simp)]; rfl)
    (by rw [World.cell?_alloc_lt _ _ t (by simp; omega), World.cell?_alloc_lt _ _ t (by simp; omega), World.cell?_alloc_lt _ _ t (by simp; omega), World.cell?_alloc_lt _ _ t htl]; exact ht0)
    (by rw [World.frozen?_alloc_old _ _ t (by simp; omega), World.frozen?_alloc_old _ _ t (by simp; omega), World.frozen?_alloc_old _ _ t (by simp; omega), World.frozen?_alloc_old _ _ t (Nat.ne_of_lt htl)]; exact hf0)
  have tO71 := asTypeOf71
  have a71 := asAssignable71
  have s1 := asNoAs71
  have s2 := asHasUnwrap71
  have mU := asMethodUnwrap
  have hpl : pb < w.heap.size := World.block_lt_of_cell? w _ hp
  have hp3 : (((w.alloc (.cells #[.pointer (some t)] 247)).alloc (.cells #[.pointer (some ⟨1, 247, none⟩), .pointer (some ⟨w.heap.size, 0, none⟩), .int .u64 150] 209)).alloc (.cells #[.pointer (some ⟨1, 247, none⟩), .pointer (some ⟨w.heap.size, 0, none⟩), .int .u64 150] 209)).cell? ⟨pb, 0, none⟩ = some (.int .i64 e) := by
    rw [World.cell?_alloc_lt _ _ ⟨pb, 0, none⟩ (by simp; omega), World.cell?_alloc_lt _ _ ⟨pb, 0, none⟩ (by simp; omega), World.cell?_alloc_lt _ _ ⟨pb, 0, none⟩ hpl]; exact hp
  go_enter Tryz.func149, Tryz.ntmps149
  go_wp2
  refine wp_loop_rounds 2 ?_
  rw [rounds_succ]
  go_wp2
  rw [rounds_succ]
  go_wp2
  go_ret
  exact ⟨rfl, rfl⟩
end Go.Proofs.YtjefgmeejhakbaaGreatDoor

/- plain.Place, law.is and law.bare. -/
namespace Go.Proofs.YtjefgmeejhakbaaGreatDoor
open Go.RowKit Go.Extern.Stop Go.Stop Go.Extern
def ErrIs (w : World) (ev : Value) (c p : Int) : Prop :=
  (ev = .nilIface ∧ c = 0 ∧ p = -1) ∨ (ev = .iface 24 (.int .i64 c) ∧ p = -1) ∨
  ∃ pb, ev = .iface 216 (.pointer (some ⟨pb, 0, none⟩)) ∧ w.cell? ⟨pb, 0, none⟩ = some (.int .i64 c) ∧ w.cell? ⟨pb, 1, none⟩ = some (.int .i64 p)
theorem ErrIs.below {w w' : World} {ev : Value} {c p : Int} (h : ErrIs w ev c p) (hB : Below w.heap.size w w') : ErrIs w' ev c p := by
  rcases h with h | h | ⟨pb, h1, h2, h3⟩
  · exact .inl h
  · exact .inr (.inl h)
  · have hl := World.block_lt_of_cell? w _ h2
    exact .inr (.inr ⟨pb, h1, (hB.cell (p := ⟨pb, 0, none⟩) hl).trans h2, (hB.cell (p := ⟨pb, 1, none⟩) hl).trans h3⟩)
set_option maxHeartbeats 1000000 in
theorem tell_at (n : Int) (pb : Nat) (w : World) (hg : Handle w) (hp : w.cell? ⟨pb, 0, none⟩ = some (.int .i64 n)) : Calls Tryz.prog 93 #[.iface 216 (.pointer (some ⟨pb, 0, none⟩))] w fun e w' => e = .returned (.int .i64 n) ∧ Below w.heap.size w w' := by
  have hpos := hg.pos
  have hpl := World.block_lt_of_cell? w _ hp
  have hg1 : (w.alloc (.cells #[.int .i64 0] 24)).cell? ⟨0, 0, none⟩ = some (.iface 263 (.agg #[.pointer (some ⟨1, 33, none⟩)])) := (World.cell?_alloc_lt _ _ ⟨0, 0, none⟩ hpos).trans hg
  have hp1 : (w.alloc (.cells #[.int .i64 0] 24)).cell? ⟨pb, 0, none⟩ = some (.int .i64 n) := (World.cell?_alloc_lt _ _ ⟨pb, 0, none⟩ hpl).trans hp
  have HG := hid hg1
  have HP := hid hp1
  clear hg hg1 hp hp1
  go_enter Tryz.func93, Tryz.ntmps93
  go_wp2_with (go_at_call 149; refine (as_at n pb ⟨w.heap.size, 0, none⟩ (.int .i64 0) _ HP.out HG.out (cell_one_new w _ _ 0 _ rfl) (by simp)).mono ?_; rintro e w' ⟨rfl, rfl⟩)
  go_ret
  refine ⟨rfl, ?_⟩
  exact (((((Below.refl _ w).alloc (Nat.le_refl _) _).alloc (by simp) _).alloc (by simp; omega) _).alloc (by simp; omega) _).alloc (by simp; omega) _
theorem plAt71 (v : Value) (xT : TypeId) (w : World) : (Instr.typeAssert (.iface 216 v) xT 216 true).run Tryz.prog w = .ok (.tuple #[v, .bool true]) w := by kernel_rfl
theorem plAt38 (v : Value) (xT : TypeId) (w : World) : (Instr.typeAssert (.iface 24 v) xT 216 true).run Tryz.prog w = .ok (.tuple #[.pointer none, .bool false]) w := by kernel_rfl
theorem plNoUnwrap38 (v : Value) (xT : TypeId) (w : World) : (Instr.typeAssert (.iface 24 v) xT 230 true).run Tryz.prog w = .ok (.tuple #[.nilIface, .bool false]) w := run_typeAssert_lacksB Tryz.underlying230 (by kernel_rfl) (by kernel_rfl) v xT w
set_option maxRecDepth 100000 in
set_option maxHeartbeats 1000000 in
theorem place_nil (w : World) : Calls Tryz.prog 73 #[.nilIface] w fun e w' => e = .returned (.tuple #[.int .i64 0, .int .i64 (-1)]) ∧ Below w.heap.size w w' := by
  go_enter Tryz.func73, Tryz.ntmps73
  go_wp2_with (go_at_call 93; refine (tell_nil _).mono ?_; rintro e w' ⟨rfl, rfl⟩)
  refine wp_loop_rounds 1 ?_
  rw [rounds_succ]
  go_wp2
  go_ret2
  exact ⟨rfl, Below.refl _ _⟩
set_option maxRecDepth 100000 in
set_option maxHeartbeats 1000000 in
theorem place_errno (c : Int) (w : World) (hg : Handle w) : Calls Tryz.prog 73 #[.iface 24 (.int .i64 c)] w fun e w' => e = .returned (.tuple #[.int .i64 c, .int .i64 (-1)]) ∧ Below w.heap.size w w' := by
  have s1 := plNoUnwrap38
  have s2 := plAt38
  have HG := hid hg
  clear hg
  go_enter Tryz.func73, Tryz.ntmps73
  go_wp2_with (go_at_call 93; refine (tell_errno _ _ HG.out).mono ?_; rintro e w' ⟨rfl, hB⟩)
  refine wp_loop_rounds 1 ?_
  rw [rounds_succ]
  go_wp2
  go_ret2
  exact ⟨rfl, hB⟩
set_option maxRecDepth 100000 in
set_option maxHeartbeats 1000000 in
theorem place_at (c p : Int) (pb : Nat) (w : World) (hg : Handle w) (h0 : w.cell? ⟨pb, 0, none⟩ = some (.int .i64 c)) (h1 : w.cell? ⟨pb, 1, none⟩ = some (.int .i64 p)) : Calls Tryz.prog 73 #[.iface 216 (.pointer (some ⟨pb, 0, none⟩))] w fun e w' => e = .returned (.tuple #[.int .i64 c, .int .i64 p]) ∧ Below w.heap.size w w' := by
  have s2 := plAt71
  have HG := hid hg
  have hpl := World.block_lt_of_cell? w _ h0
  have H0 := hid h0
  clear hg h0
  go_enter Tryz.func73, Tryz.ntmps73
  go_wp2_with (go_at_call 93; refine (tell_at _ _ _ HG.out H0.out).mono ?_; rintro e w' ⟨rfl, hB⟩)
  have h1' := (hB.cell (p := ⟨pb, 1, none⟩) hpl).trans h1
  clear h1
  refine wp_loop_rounds 1 ?_
  rw [rounds_succ]
  go_wp2
  go_quiet (fail)
  go_wp2
  go_ret2
  exact ⟨rfl, below_drewN hB _⟩
theorem place_any {w : World} {ev : Value} {c p : Int} (h : ErrIs w ev c p) (hg : Handle w) : Calls Tryz.prog 73 #[ev] w fun e w' => e = .returned (.tuple #[.int .i64 c, .int .i64 p]) ∧ Below w.heap.size w w' := by
  rcases h with ⟨rfl, rfl, rfl⟩ | ⟨rfl, rfl⟩ | ⟨pb, rfl, h0, h1⟩
  · exact place_nil w
  · exact place_errno c w hg
  · exact place_at c p pb w hg h0 h1
set_option maxHeartbeats 1000000 in
theorem is_true (c p : Int) (ev : Value) (w : World) (h : ErrIs w ev c p) (hg : Handle w) : Calls Tryz.prog 14 #[ev, .agg #[.int .i64 c, .int .i64 p]] w fun e w' => e = .returned (.bool true) ∧ Below w.heap.size w w' := by
  have hal : Below w.heap.size w (w.alloc (.cells #[.int .i64 c, .int .i64 p] 26)) := (Below.refl _ _).alloc (Nat.le_refl _) _
  have H := hid (h.below hal)
  have HG := hid (hg.below hal hg.pos)
  have HA := hid hal
  clear h hg hal
  go_enter Tryz.func14, Tryz.ntmps14
  go_wp2_with fail
  refine (place_any H.out HG.out).mono ?_
  rintro e w1 ⟨rfl, hB⟩
  have hx := (hB.block w.heap.size (by simp)).trans (heap_alloc_new w (.cells #[.int .i64 c, .int .i64 p] 26))
  have c0 : w1.cell? ⟨w.heap.size, 0, none⟩ = some (.int .i64 c) := (cell_of_row _ _ 0 _ 26 (0, 0) hx).trans rfl
  have c1 : w1.cell? ⟨w.heap.size, 1, none⟩ = some (.int .i64 p) := (cell_of_row _ _ 1 _ 26 (0, 0) hx).trans rfl
  have HB := hid (HA.out.trans (hB.mono (by simp)))
  clear hx hB HA H HG
  go_wp2
  go_ret
  exact ⟨rfl, HB.out⟩
end Go.Proofs.YtjefgmeejhakbaaGreatDoor
