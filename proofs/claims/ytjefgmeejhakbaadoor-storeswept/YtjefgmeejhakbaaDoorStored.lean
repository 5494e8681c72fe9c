/- keep.stored: a fact: a key as it was. -/
import Derived.Test.YtjefgmeejhakbaaDoorNewer
namespace Go.Proofs.YtjefgmeejhakbaaDoor
open Go.RowKit

/-- No versions at all. -/
def noneV : List Value := List.replicate 10 (.slice none 0 0)
def noneK : List (List (Int × Int)) := List.replicate 10 []

/-- A store's zero value. -/
theorem Sto.zero (w : World) (base : Nat) (hb : w.heap.size < base) : Sto (w.alloc (.cells #[.int .i64 0, .slice none 0 0, .slice none 0 0, .slice none 0 0, .slice none 0 0, .slice none 0 0, .slice none 0 0, .slice none 0 0, .slice none 0 0, .slice none 0 0, .slice none 0 0] 26)) base w.heap.size 0 noneV noneK := by
  refine ⟨World.alloc_heap_new w _, rfl, rfl, ?_, ?_, hb⟩
  · intro k v l hv hl
    have hk : k < 10 := (List.getElem?_eq_some_iff.1 hv).1
    simp only [noneV, noneK, List.getElem?_replicate, hk, if_true] at hv hl
    cases hv; cases hl
    exact World.ownsRow_nil _ _ _ _
  · intro i j v u g hv hu hg
    have hk : i < 10 := (List.getElem?_eq_some_iff.1 hv).1
    simp only [noneV, List.getElem?_replicate, hk, if_true] at hv
    cases hv
    simp [Value.ownBlock] at hg
theorem not_in_none (b : Nat) : ¬ InRows noneV b := by
  rintro ⟨v, hv, hg⟩
  rw [noneV, List.mem_replicate] at hv
  rw [hv.2] at hg
  simp [Value.ownBlock] at hg

/-- One write in a block of its own. -/
theorem wrow_one (w : World) (a v : Int) (t : TypeId) : WRow (w.alloc (.cells #[.int .i64 a, .int .i64 v] t)) w.heap.size 0 [(a, v)] := by
  intro j x y hj
  have hb := World.alloc_heap_new w (.cells #[.int .i64 a, .int .i64 v] t)
  match j, hj with
  | 0, hj =>
    simp at hj
    obtain ⟨rfl, rfl⟩ := hj
    exact ⟨(cell_of_row _ _ 0 _ t (0, 0) hb).trans rfl, (cell_of_row _ _ 1 _ t (0, 0) hb).trans rfl⟩
  | j + 1, hj => simp at hj

set_option maxRecDepth 100000 in
set_option maxHeartbeats 2000000 in
theorem stored_any (w : World) : Calls Tryd.prog 24 #[] w fun e w' => e = .returned (.bool true) ∧ Below w.heap.size w w' := by
  go_enter Tryd.func24, Tryd.ntmps24
  go_wp2_with fail
  have h0 := Sto.zero w (w.heap.size + 1) (by omega)
  obtain ⟨W0, hW0⟩ : ∃ W0, w.alloc (.cells #[.int .i64 0, .slice none 0 0, .slice none 0 0, .slice none 0 0, .slice none 0 0, .slice none 0 0, .slice none 0 0, .slice none 0 0, .slice none 0 0, .slice none 0 0, .slice none 0 0] 26) = W0 := ⟨_, rfl⟩
  have hB0 : Below w.heap.size w W0 := by rw [← hW0]; exact (Below.refl _ w).alloc (Nat.le_refl _) _
  have hs0 : W0.heap.size = w.heap.size + 1 := by rw [← hW0]; simp
  rw [hW0] at h0 ⊢
  clear hW0
  have ha1 : Below W0.heap.size W0 (W0.alloc (.cells #[.int .i64 3, .int .i64 7] 64)) := (Below.refl _ _).alloc (Nat.le_refl _) _
  have hr1 := wrow_one W0 3 7 64
  rw [hs0] at hr1
  refine (install_good (w.heap.size + 1) w.heap.size (w.heap.size + 1) 0 1 0 1 noneV noneK [(3, 7)] _ (h0.below ha1) (by simp; omega) hr1 (not_in_none _) (by omega) (by simp; omega) (by intro p hp; cases List.mem_singleton.1 hp; simp [Fine, keyB]) (by omega) (by omega) (by simp) (by intro l hl; rw [noneK, List.mem_replicate] at hl; rw [hl.2]; simp)).mono ?_
  rintro e w1 ⟨rfl, vs1, hS1, hK1⟩
  have e1 : instP 1 [(3, 7)] noneK = [[], [], [], [(1, 7)], [], [], [], [], [], []] := by rfl
  rw [e1] at hS1
  have hB1 : Below w.heap.size w w1 := hB0.trans (((ha1.mono (by omega)).trans (hK1.below (by simp; omega) (Nat.le_refl _) (fun g hg => (not_in_none g hg).elim))))
  clear e1 hr1 ha1 h0 hK1 hB0 hs0
  have hl1 := hS1.lt
  go_wp2_with fail
  have ha2 : Below w1.heap.size w1 (w1.alloc (.cells #[.int .i64 3, .int .i64 8] 64)) := (Below.refl _ _).alloc (Nat.le_refl _) _
  have hr2 := wrow_one w1 3 8 64
  refine (install_good (w.heap.size + 1) w.heap.size w1.heap.size 0 1 1 4 vs1 _ [(3, 8)] _ (hS1.below ha2) (by simp; omega) hr2 (fun hg => by have := (hS1.row hg).2; omega) (by omega) (by simp) (by intro p hp; cases List.mem_singleton.1 hp; simp [Fine, keyB]) (by omega) (by omega) (by simp) (by decide)).mono ?_
  rintro e w2 ⟨rfl, vs2, hS2, hK2⟩
  have e2 : instP 4 [(3, 8)] [[], [], [], [(1, 7)], [], [], [], [], [], []] = [[], [], [], [(1, 7), (4, 8)], [], [], [], [], [], []] := by rfl
  rw [e2] at hS2
  have hB2 : Below w.heap.size w w2 := hB1.trans (((ha2.mono (by omega)).trans (hK2.below (by simp; omega) (Nat.le_refl _) (fun g hg => by have := (hS1.row hg).1; omega))))
  clear e2 hr2 ha2 hK2 hB1 hS1 hl1
  go_wp2_with fail
  refine (read_some (w.heap.size + 1) w.heap.size 3 4 3 vs2 _ [(1, 7), (4, 8)] w2 hS2 rfl (by simp) 0 rfl 1 7 rfl).mono ?_
  rintro e w3 ⟨rfl, hB3⟩
  have hS3 := hS2.below hB3
  have hsz2 := hB2.size
  have hB3' := hB2.trans (hB3.mono hsz2)
  clear hB3 hB2 hS2 hsz2
  have ha4 : Below w3.heap.size w3 (w3.alloc (.cells #[.int .i64 1, .int .i64 7] 44)) := (Below.refl _ _).alloc (Nat.le_refl _) _
  have hx4 : (w3.alloc (.cells #[.int .i64 1, .int .i64 7] 44)).heap[w3.heap.size]? = some (.cells #[.int .i64 1, .int .i64 7] 44 (0, 0)) := World.alloc_heap_new w3 _
  have hsz3 := hB3'.size
  go_wp2_with fail
  refine (read_some (w.heap.size + 1) w.heap.size 3 4 9 vs2 _ [(1, 7), (4, 8)] _ (hS3.below ha4) rfl (by simp) 1 rfl 4 8 rfl).mono ?_
  rintro e w4 ⟨rfl, hB4⟩
  have hS4 := (hS3.below ha4).below hB4
  have hx5 := (hB4.block w3.heap.size (by simp)).trans hx4
  have hB5 : Below w.heap.size w w4 := (hB3'.alloc hsz3 _).trans (hB4.mono (by simp; omega))
  have hlt4 : w3.heap.size < w4.heap.size := by have := hB4.size; simp at this; omega
  clear ha4 hx4 hB4 hB3' hS3
  have ha6 : Below w4.heap.size w4 (w4.alloc (.cells #[.int .i64 4, .int .i64 8] 44)) := (Below.refl _ _).alloc (Nat.le_refl _) _
  have hS6 := hS4.below ha6
  have cL := hS6.cellLast
  have c5 : w4.cell? ⟨w3.heap.size, 0, none⟩ = some (.int .i64 1) := (cell_of_row _ _ 0 _ 44 (0, 0) hx5).trans rfl
  have c6 : w4.cell? ⟨w3.heap.size, 1, none⟩ = some (.int .i64 7) := (cell_of_row _ _ 1 _ 44 (0, 0) hx5).trans rfl
  have HS : Hid _ := hS6
  have HB : Hid _ := hB5
  clear hS6 hS4 hB5 ha6 hx5 hsz3
  go_wp2_with (go_at_call 19; refine (last_any _ _ _ _ _ _ HS.out).mono ?_; rintro e w' ⟨rfl, rfl⟩)
  go_ret
  exact ⟨rfl, HB.out.alloc HB.out.size _⟩

end Go.Proofs.YtjefgmeejhakbaaDoor
