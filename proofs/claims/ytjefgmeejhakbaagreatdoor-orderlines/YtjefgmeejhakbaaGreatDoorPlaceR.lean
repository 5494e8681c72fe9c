/- plain.Place, law.is and law.bare. -/
import Derived.Test.YtjefgmeejhakbaaGreatDoorAsAtR
import Derived.Test.YtjefgmeejhakbaaGreatDoorTellR
import Derived.BigQuiet
import Derived.Deep.QuietTactic
namespace Go.Proofs.YtjefgmeejhakbaaGreatDoor
open Go.RowKit Go.Extern.Stop Go.Stop Go.Extern
def ErrIs (w : World) (ev : Value) (c p : Int) : Prop :=
  (ev = .nilIface ∧ c = 0 ∧ p = -1) ∨ (ev = .iface 24 (.int .i64 c) ∧ p = -1) ∨
  ∃ pb, ev = .iface 216 (.pointer (some ⟨pb, 0, none⟩)) ∧ w.cell? ⟨pb, 0, none⟩ = some (.int .i64 c) ∧ w.cell? ⟨pb, 1, none⟩ = some (.int .i64 p)
theorem ErrIs.below {w w' : World} {ev : Value} {c p : Int} (h : ErrIs w ev c p) (hB : Below w.heap.size w w') : ErrIs w' ev c p := by
  rcases h with h | h | ⟨pb, h1, h2, h3⟩
  · exact .inl h
  · exact .inr (.inl h)
  · have hl := World.block_lt_of_cell? w _ h2
    exact .inr (.inr ⟨pb, h1, (hB.cell (p := ⟨pb, 0, none⟩) hl).trans h2, (hB.cell (p := ⟨pb, 1, none⟩) hl).trans h3⟩)
set_option maxHeartbeats 1000000 in
theorem tell_at (n : Int) (pb : Nat) (w : World) (hg : Handle w) (hp : w.cell? ⟨pb, 0, none⟩ = some (.int .i64 n)) : Calls Tryz.prog 93 #[.iface 216 (.pointer (some ⟨pb, 0, none⟩))] w fun e w' => e = .returned (.int .i64 n) ∧ Below w.heap.size w w' := by
  have hpos := hg.pos
  have hpl := World.block_lt_of_cell? w _ hp
  have hg1 : (w.alloc (.cells #[.int .i64 0] 24)).cell? ⟨0, 0, none⟩ = some (.iface 263 (.agg #[.pointer (some ⟨1, 33, none⟩)])) := (World.cell?_alloc_lt _ _ ⟨0, 0, none⟩ hpos).trans hg
  have hp1 : (w.alloc (.cells #[.int .i64 0] 24)).cell? ⟨pb, 0, none⟩ = some (.int .i64 n) := (World.cell?_alloc_lt _ _ ⟨pb, 0, none⟩ hpl).trans hp
  have HG := hid hg1
  have HP := hid hp1
  clear hg hg1 hp hp1
  go_enter Tryz.func93, Tryz.ntmps93
  go_wp2_with (go_at_call 149; refine (as_at n pb ⟨w.heap.size, 0, none⟩ (.int .i64 0) _ HP.out HG.out (cell_one_new w _ _ 0 _ rfl) (by simp)).mono ?_; rintro e w' ⟨rfl, rfl⟩)
  go_ret
  refine ⟨rfl, ?_⟩
  exact (((((Below.refl _ w).alloc (Nat.le_refl _) _).alloc (by simp) _).alloc (by simp; omega) _).alloc (by simp; omega) _).alloc (by simp; omega) _
theorem plAt71 (v : Value) (xT : TypeId) (w : World) : (Instr.typeAssert (.iface 216 v) xT 216 true).run Tryz.prog w = .ok (.tuple #[v, .bool true]) w := by kernel_rfl
theorem plAt38 (v : Value) (xT : TypeId) (w : World) : (Instr.typeAssert (.iface 24 v) xT 216 true).run Tryz.prog w = .ok (.tuple #[.pointer none, .bool false]) w := by kernel_rfl
theorem plNoUnwrap38 (v : Value) (xT : TypeId) (w : World) : (Instr.typeAssert (.iface 24 v) xT 230 true).run Tryz.prog w = .ok (.tuple #[.nilIface, .bool false]) w := run_typeAssert_lacksB Tryz.underlying230 (by kernel_rfl) (by kernel_rfl) v xT w
set_option maxRecDepth 100000 in
set_option maxHeartbeats 1000000 in
theorem place_nil (w : World) : Calls Tryz.prog 73 #[.nilIface] w fun e w' => e = .returned (.tuple #[.int .i64 0, .int .i64 (-1)]) ∧ Below w.heap.size w w' := by
  go_enter Tryz.func73, Tryz.ntmps73
  go_wp2_with (go_at_call 93; refine (tell_nil _).mono ?_; rintro e w' ⟨rfl, rfl⟩)
  refine wp_loop_rounds 1 ?_
  rw [rounds_succ]
  go_wp2
  go_ret2
  exact ⟨rfl, Below.refl _ _⟩
set_option maxRecDepth 100000 in
set_option maxHeartbeats 1000000 in
theorem place_errno (c : Int) (w : World) (hg : Handle w) : Calls Tryz.prog 73 #[.iface 24 (.int .i64 c)] w fun e w' => e = .returned (.tuple #[.int .i64 c, .int .i64 (-1)]) ∧ Below w.heap.size w w' := by
  have s1 := plNoUnwrap38
  have s2 := plAt38
  have HG := hid hg
  clear hg
  go_enter Tryz.func73, Tryz.ntmps73
  go_wp2_with (go_at_call 93; refine (tell_errno _ _ HG.out).mono ?_; rintro e w' ⟨rfl, hB⟩)
  refine wp_loop_rounds 1 ?_
  rw [rounds_succ]
  go_wp2
  go_ret2
  exact ⟨rfl, hB⟩
set_option maxRecDepth 100000 in
set_option maxHeartbeats 1000000 in
theorem place_at (c p : Int) (pb : Nat) (w : World) (hg : Handle w) (h0 : w.cell? ⟨pb, 0, none⟩ = some (.int .i64 c)) (h1 : w.cell? ⟨pb, 1, none⟩ = some (.int .i64 p)) : Calls Tryz.prog 73 #[.iface 216 (.pointer (some ⟨pb, 0, none⟩))] w fun e w' => e = .returned (.tuple #[.int .i64 c, .int .i64 p]) ∧ Below w.heap.size w w' := by
  have s2 := plAt71
  have HG := hid hg
  have hpl := World.block_lt_of_cell? w _ h0
  have H0 := hid h0
  clear hg h0
  go_enter Tryz.func73, Tryz.ntmps73
  go_wp2_with (go_at_call 93; refine (tell_at _ _ _ HG.out H0.out).mono ?_; rintro e w' ⟨rfl, hB⟩)
  have h1' := (hB.cell (p := ⟨pb, 1, none⟩) hpl).trans h1
  clear h1
  refine wp_loop_rounds 1 ?_
  rw [rounds_succ]
  go_wp2
  go_quiet (fail)
  go_wp2
  go_ret2
  exact ⟨rfl, below_drewN hB _⟩
theorem place_any {w : World} {ev : Value} {c p : Int} (h : ErrIs w ev c p) (hg : Handle w) : Calls Tryz.prog 73 #[ev] w fun e w' => e = .returned (.tuple #[.int .i64 c, .int .i64 p]) ∧ Below w.heap.size w w' := by
  rcases h with ⟨rfl, rfl, rfl⟩ | ⟨rfl, rfl⟩ | ⟨pb, rfl, h0, h1⟩
  · exact place_nil w
  · exact place_errno c w hg
  · exact place_at c p pb w hg h0 h1
set_option maxHeartbeats 1000000 in
theorem is_true (c p : Int) (ev : Value) (w : World) (h : ErrIs w ev c p) (hg : Handle w) : Calls Tryz.prog 14 #[ev, .agg #[.int .i64 c, .int .i64 p]] w fun e w' => e = .returned (.bool true) ∧ Below w.heap.size w w' := by
  have hal : Below w.heap.size w (w.alloc (.cells #[.int .i64 c, .int .i64 p] 26)) := (Below.refl _ _).alloc (Nat.le_refl _) _
  have H := hid (h.below hal)
  have HG := hid (hg.below hal hg.pos)
  have HA := hid hal
  clear h hg hal
  go_enter Tryz.func14, Tryz.ntmps14
  go_wp2_with fail
  refine (place_any H.out HG.out).mono ?_
  rintro e w1 ⟨rfl, hB⟩
  have hx := (hB.block w.heap.size (by simp)).trans (heap_alloc_new w (.cells #[.int .i64 c, .int .i64 p] 26))
  have c0 : w1.cell? ⟨w.heap.size, 0, none⟩ = some (.int .i64 c) := (cell_of_row _ _ 0 _ 26 (0, 0) hx).trans rfl
  have c1 : w1.cell? ⟨w.heap.size, 1, none⟩ = some (.int .i64 p) := (cell_of_row _ _ 1 _ 26 (0, 0) hx).trans rfl
  have HB := hid (HA.out.trans (hB.mono (by simp)))
  clear hx hB HA H HG
  go_wp2
  go_ret
  exact ⟨rfl, HB.out⟩
end Go.Proofs.YtjefgmeejhakbaaGreatDoor
