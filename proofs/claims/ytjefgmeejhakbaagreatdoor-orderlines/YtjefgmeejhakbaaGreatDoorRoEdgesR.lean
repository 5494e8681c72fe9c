/- The reference's Edges. -/
import Derived.Test.YtjefgmeejhakbaaGreatDoorRoSortR
import Derived.Test.YtjefgmeejhakbaaGreatDoorRoSetR
import Derived.Test.YtjefgmeejhakbaaGreatDoorRoWritersR
namespace Go.Proofs.YtjefgmeejhakbaaGreatDoor
open Go.RowKit
def reW (w : World) (lv : Value) : World := (w.alloc (.cells #[lv] 22)).alloc (.cells #[.int .i64 0, .int .i64 0] 26)
theorem reW_size (w : World) (lv : Value) : (reW w lv).heap.size = w.heap.size + 2 := by simp [reW]
theorem reW_below (w : World) (lv : Value) : Below w.heap.size w (reW w lv) := ((Below.refl _ _).alloc (Nat.le_refl _) _).alloc (by simp) _
theorem reW_box (w : World) (lv : Value) : (reW w lv).heap[w.heap.size]? = some (.cells #[lv] 22 (0, 0)) := (Below.heap_alloc _ _ _ (by simp)).trans (heap_alloc_new w _)
theorem reW_fault (w : World) (lv : Value) : (reW w lv).heap[w.heap.size + 1]? = some (.cells #[.int .i64 0, .int .i64 0] 26 (0, 0)) := heap_alloc2_new w _ _
theorem fault_put {w : World} {R : Nat} (h : w.heap[R]? = some (.cells #[.int .i64 0, .int .i64 0] 26 (0, 0))) (c p : Int) (ob : Obj) :
    (((w.setCell ⟨R, 0, none⟩ (.int .i64 c)).setCell ⟨R, 1, none⟩ (.int .i64 p)).alloc ob).cell? ⟨R, 0, none⟩ = some (.int .i64 c) ∧ (((w.setCell ⟨R, 0, none⟩ (.int .i64 c)).setCell ⟨R, 1, none⟩ (.int .i64 p)).alloc ob).cell? ⟨R, 1, none⟩ = some (.int .i64 p) := by
  have hR : R < w.heap.size := (Array.getElem?_eq_some_iff.1 h).1
  have h1 := heap_setCell_same _ R 1 _ 26 (.int .i64 p) (heap_setCell_same w R 0 _ 26 (.int .i64 c) h)
  have h2 := (Below.heap_alloc _ ob R (by simpa using hR)).trans h1
  exact ⟨(cell_of_row _ _ 0 _ _ (0, 0) h2).trans rfl, (cell_of_row _ _ 1 _ _ (0, 0) h2).trans rfl⟩
set_option maxRecDepth 100000 in
set_option maxHeartbeats 1000000 in
theorem refEdges_beyond (ad : Option Addr) (cap : Nat) (l : List Opp) (m : Nat) (w : World) (hn : l.length ≤ 1000) (hO : OpsAt w ad l) (hm : FineTo opBad l m) (hl : m < l.length) :
    Calls Tryz.prog 10 #[.slice ad l.length cap] w fun e w' => e = .returned (.tuple #[.slice none 0 0, .agg #[.int .i64 2, .int .i64 m]]) ∧ Below w.heap.size w w' := by
  have HO := hid (hO.below (reW_below w (.slice ad l.length cap)))
  have HM := hid hm
  have HB0 := hid (reW_below w (.slice ad l.length cap))
  have HF := hid (reW_fault w (.slice ad l.length cap))
  have hsz := reW_size w (.slice ad l.length cap)
  clear hO hm
  go_enter Tryz.func10, Tryz.ntmps10
  go_wp2
  go_loopw [17] (fun i wr => ∃ j : Nat, j ≤ m ∧ i = .int .i64 j ∧ Below (w.heap.size + 2) (reW w (.slice ad l.length cap)) wr) (fun i _ => l.length - (intOf i).toNat)
  case atStart => exact ⟨0, Nat.zero_le _, rfl, Below.refl _ _⟩
  case round =>
    obtain ⟨j, hj, rfl, hB⟩ := hrel
    have hBs := hB.size
    have hml := HM.out.le
    obtain ⟨o, ho⟩ : ∃ o, l[j]? = some o := ⟨l[j]'(by omega), List.getElem?_eq_getElem _⟩
    obtain ⟨g, off, rfl, hg, ⟨c0, c1, c2, c3⟩, _⟩ := (HO.out.below (by rw [hsz]; exact hB)) j o ho
    have hj0 : (0 : Int) ≤ (j : Int) := by omega
    have hj1 : (j : Int) < (l.length : Int) := by omega
    rw [hsz] at hBs
    by_cases hjm : j < m
    · obtain ⟨b1, b2, b3, b4⟩ := opBad_false (HM.out.fine j o hjm ho)
      have hin : inB o.2.1 0 9 = true := by simp [inB]; omega
      have HI := hid hin
      have hA := hid (hB.alloc hBs (.cells #[.int .i64 o.1, .int .i64 o.2.1, .bool o.2.2.1, .int .i64 o.2.2.2] 90))
      clear hB ho hin
      go_wp2_with (go_at_call 54; refine (in_any _ _ _ _).mono ?_; rw [HI.out]; rintro e w' ⟨rfl, rfl⟩)
      go_roundw
      case rel => exact ⟨j + 1, by omega, by go_num, hA.out⟩
      case measure => simp [intOf]; omega
    · obtain rfl : j = m := by omega
      obtain ⟨o', ho', hb⟩ := HM.out.bad hl
      obtain rfl : o = o' := by rw [ho] at ho'; exact Option.some.inj ho'
      have hf := (hB.block (w.heap.size + 1) (by omega)).trans HF.out
      have hfl : w.heap.size + 1 < wr.heap.size := by omega
      have f0 : wr.cell? ⟨w.heap.size + 1, 0, none⟩ = some (.int .i64 0) := (cell_of_row _ _ 0 _ _ (0, 0) hf).trans rfl
      have f1 : wr.cell? ⟨w.heap.size + 1, 1, none⟩ = some (.int .i64 0) := (cell_of_row _ _ 1 _ _ (0, 0) hf).trans rfl
      have z0 : wr.frozen? ⟨w.heap.size + 1, 0, none⟩ = false := by simp [World.frozen?, hf]
      have z1 : wr.frozen? ⟨w.heap.size + 1, 1, none⟩ = false := by simp [World.frozen?, hf]
      have HA := hid (HB0.out.trans (hB.mono (by omega)))
      have HG := hid (fun ob => fault_put hf 2 (j : Int) ob)
      clear hB ho ho' hf
      rcases opBad_true hb with h1 | ⟨h1, h2⟩ | ⟨h1, h2, h3⟩ | ⟨h1, h2, h3, h4⟩
      · clear hb
        go_wp2
        exact bodyPost_ret (v := .tuple #[.slice none 0 0, .agg #[.int .i64 2, .int .i64 (j : Int)]]) (by simp [results, Tryz.results10, go_sem, (HG.out _).1, (HG.out _).2]) rfl ⟨rfl, ((HA.out.setCell (p := ⟨w.heap.size + 1, 0, none⟩) (by simp) _).setCell (p := ⟨w.heap.size + 1, 1, none⟩) (by simp) _).alloc (by simp; omega) _⟩
      · clear hb
        go_wp2
        exact bodyPost_ret (v := .tuple #[.slice none 0 0, .agg #[.int .i64 2, .int .i64 (j : Int)]]) (by simp [results, Tryz.results10, go_sem, (HG.out _).1, (HG.out _).2]) rfl ⟨rfl, ((HA.out.setCell (p := ⟨w.heap.size + 1, 0, none⟩) (by simp) _).setCell (p := ⟨w.heap.size + 1, 1, none⟩) (by simp) _).alloc (by simp; omega) _⟩
      · have HI := hid (show inB o.2.1 0 9 = false by simp [inB]; omega)
        clear hb
        go_wp2_with (go_at_call 54; refine (in_any _ _ _ _).mono ?_; rw [HI.out]; rintro e w' ⟨rfl, rfl⟩)
        exact bodyPost_ret (v := .tuple #[.slice none 0 0, .agg #[.int .i64 2, .int .i64 (j : Int)]]) (by simp [results, Tryz.results10, go_sem, (HG.out _).1, (HG.out _).2]) rfl ⟨rfl, ((HA.out.setCell (p := ⟨w.heap.size + 1, 0, none⟩) (by simp) _).setCell (p := ⟨w.heap.size + 1, 1, none⟩) (by simp) _).alloc (by simp; omega) _⟩
      · have HI := hid (show inB o.2.1 0 9 = false by simp [inB]; omega)
        clear hb
        go_wp2_with (go_at_call 54; refine (in_any _ _ _ _).mono ?_; rw [HI.out]; rintro e w' ⟨rfl, rfl⟩)
        exact bodyPost_ret (v := .tuple #[.slice none 0 0, .agg #[.int .i64 2, .int .i64 (j : Int)]]) (by simp [results, Tryz.results10, go_sem, (HG.out _).1, (HG.out _).2]) rfl ⟨rfl, ((HA.out.setCell (p := ⟨w.heap.size + 1, 0, none⟩) (by simp) _).setCell (p := ⟨w.heap.size + 1, 1, none⟩) (by simp) _).alloc (by simp; omega) _⟩
end Go.Proofs.YtjefgmeejhakbaaGreatDoor
