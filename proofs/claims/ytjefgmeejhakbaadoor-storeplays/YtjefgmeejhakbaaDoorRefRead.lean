/- The document's Read at whatever its list is; Sweep; All. -/
import Derived.Test.YtjefgmeejhakbaaDoorRefMem
namespace Go.Proofs.YtjefgmeejhakbaaDoor
open Go.RowKit

set_option maxRecDepth 100000 in
set_option maxHeartbeats 2000000 in
theorem refRead_nil (base R : Nat) (k t last : Int) (w : World) (hk : inB k 0 9 = true) (h : Ref w base R last (.slice none 0 0) []) :
    Calls Tryd.prog 13 #[.pointer (some ⟨R, 0, none⟩), .int .i64 k, .int .i64 t] w fun e w' =>
      e = .returned (.tuple #[.agg #[.int .i64 0, .int .i64 0], .int .i64 8]) ∧ Below w.heap.size w w' := by
  have hc := h.c0
  have hR := h.lt
  go_enter Tryd.func13, Tryd.ntmps13
  go_wp2_with (go_at_call 48; refine (in_any _ _ _ _).mono ?_; rintro e w' ⟨rfl, rfl⟩)
  go_loopw [9, 22] (fun sv i wr => i = .int .i64 0 ∧ sv = .bool false ∧ wr.heap[w.heap.size]? = some (.cells #[.int .i64 0, .int .i64 0] 44 (0, 0)) ∧ Below w.heap.size w wr) (fun _ _ _ => 0)
  case atStart => exact ⟨rfl, rfl, (Below.heap_alloc _ _ _ (by simp)).trans (World.alloc_heap_new w _), ((Below.refl _ w).alloc (Nat.le_refl _) _).alloc (by simp) _⟩
  case round =>
    obtain ⟨rfl, rfl, hx, hB⟩ := hrel
    have g0 : wr.cell? ⟨w.heap.size, 0, none⟩ = some (.int .i64 0) := (cell_of_row _ _ 0 _ 44 (0, 0) hx).trans rfl
    have g1 : wr.cell? ⟨w.heap.size, 1, none⟩ = some (.int .i64 0) := (cell_of_row _ _ 1 _ 44 (0, 0) hx).trans rfl
    have f0 := frozen_of_row wr w.heap.size 0 _ 44 hx
    have f1 := frozen_of_row wr w.heap.size 1 _ 44 hx
    clear hx
    go_wp2
    refine bodyPost_ret (v := .tuple #[.agg #[.int .i64 0, .int .i64 0], .int .i64 8]) (by simp [results, Tryd.results13, go_sem, g0, g1]) rfl ⟨rfl, ?_⟩
    exact (hB.setCell (p := ⟨w.heap.size, 0, none⟩) (by simp) _).setCell (p := ⟨w.heap.size, 1, none⟩) (by simp) _

/-- The document's Read at a key. -/
theorem refRead_any (base R : Nat) (k t last : Int) (lv : Value) (L : List (Int × Int × Int)) (w : World) (hk : inB k 0 9 = true) (hlen : L.length ≤ 100000) (h : Ref w base R last lv L) :
    Calls Tryd.prog 13 #[.pointer (some ⟨R, 0, none⟩), .int .i64 k, .int .i64 t] w fun e w' =>
      e = .returned (.tuple #[.agg #[.int .i64 ((best k t L).getD (0, 0)).1, .int .i64 ((best k t L).getD (0, 0)).2], .int .i64 (errOf (best k t L))]) ∧ Below w.heap.size w w' := by
  rcases h.slice with ⟨rfl, rfl⟩ | ⟨g, cap, rfl, _⟩
  · exact refRead_nil base R k t last w hk h
  · exact refRead_walk base R g cap k t last L w hk hlen h

set_option maxHeartbeats 1000000 in
theorem refRead_range (R : Nat) (k t : Int) (w : World) (hk : inB k 0 9 = false) :
    Calls Tryd.prog 13 #[.pointer (some ⟨R, 0, none⟩), .int .i64 k, .int .i64 t] w fun e w' =>
      e = .returned (.tuple #[.agg #[.int .i64 0, .int .i64 0], .int .i64 2]) ∧ Below w.heap.size w w' := by
  go_enter Tryd.func13, Tryd.ntmps13
  go_wp2_with (go_at_call 48; refine (in_any _ _ _ _).mono ?_; rintro e w' ⟨rfl, rfl⟩)
  exact bodyPost_ret (v := .tuple #[.agg #[.int .i64 0, .int .i64 0], .int .i64 2]) (by simp [results, Tryd.results13, go_sem]) rfl ⟨rfl, (Below.refl _ _).alloc (Nat.le_refl _) _⟩

end Go.Proofs.YtjefgmeejhakbaaDoor
