/- The document's Install where something is wrong, or there is nothing to install. -/
import Derived.Test.YtjefgmeejhakbaaDoorInstErr
namespace Go.Proofs.YtjefgmeejhakbaaDoor
open Go.RowKit

theorem fine_inB {p : Int × Int} (h : Fine p) : inB p.1 0 9 = true ∧ inB p.2 (-1099511627776) 1099511627776 = true := by
  obtain ⟨h1, h2, h3⟩ := h
  simp [keyB] at h1
  exact ⟨by simp [inB]; omega, by simp [inB]; omega⟩

section
variable {w w3 : World} {X : Nat}
/-- The result's block, two cells of it written. -/
theorem res_cells (hx : w3.heap[X]? = some (.cells #[.int .i64 0, .int .i64 0] 40 (0, 0))) (c p : Int) :
    ((w3.setCell ⟨X, 0, none⟩ (.int .i64 c)).setCell ⟨X, 1, none⟩ (.int .i64 p)).cell? ⟨X, 0, none⟩ = some (.int .i64 c) ∧
    ((w3.setCell ⟨X, 0, none⟩ (.int .i64 c)).setCell ⟨X, 1, none⟩ (.int .i64 p)).cell? ⟨X, 1, none⟩ = some (.int .i64 p) :=
  ⟨(cell_of_row _ _ 0 _ 40 (0, 0) (two_set hx c p)).trans rfl, (cell_of_row _ _ 1 _ 40 (0, 0) (two_set hx c p)).trans rfl⟩
end

set_option maxRecDepth 100000 in
set_option maxHeartbeats 2000000 in
theorem refInst_order (base R : Nat) (last t : Int) (lv u : Value) (L : List (Int × Int × Int)) (w : World) (h : Ref w base R last lv L) (ho : t ≤ last ∨ 1099511627776 < t) :
    Calls Tryd.prog 10 #[.pointer (some ⟨R, 0, none⟩), .int .i64 t, u] w fun e w' => e = .returned (.agg #[.int .i64 10, .int .i64 (-1)]) ∧ Below w.heap.size w w' := by
  have hc0 := h.c1
  have hRl := h.lt
  have key : ∀ w3 : World, Below (w.alloc (.cells #[.int .i64 0, .int .i64 0] 40)).heap.size (w.alloc (.cells #[.int .i64 0, .int .i64 0] 40)) w3 → w3.heap[w.heap.size]? = some (.cells #[.int .i64 0, .int .i64 0] 40 (0, 0)) :=
    fun w3 hB => (hB.block w.heap.size (by simp)).trans (World.alloc_heap_new w _)
  have HK := hid key
  clear key h
  by_cases h1 : t ≤ last
  · go_enter Tryd.func10, Tryd.ntmps10
    go_wp2_with fail
    refine (bareF_any 10 _).mono ?_
    rintro e w3 ⟨rfl, hB3⟩
    have hx3 := HK.out w3 hB3
    have f0 := frozen_of_row w3 w.heap.size 0 _ 40 hx3
    have f1 := frozen_of_row w3 w.heap.size 1 _ 40 hx3
    have c0 : w3.cell? ⟨w.heap.size, 0, none⟩ = some (.int .i64 0) := (cell_of_row _ _ 0 _ 40 (0, 0) hx3).trans rfl
    have c1 : w3.cell? ⟨w.heap.size, 1, none⟩ = some (.int .i64 0) := (cell_of_row _ _ 1 _ 40 (0, 0) hx3).trans rfl
    have G := hid (res_cells hx3 10 (-1))
    have HB := hid (((Below.refl w.heap.size w).alloc (Nat.le_refl _) (.cells #[.int .i64 0, .int .i64 0] 40)).trans (hB3.mono (by simp)))
    clear hx3 hB3
    go_wp2
    exact bodyPost_ret (v := .agg #[.int .i64 10, .int .i64 (-1)]) (by simp [results, Tryd.results10, go_sem, G.out.1, G.out.2]) rfl ⟨rfl, (HB.out.setCell (p := ⟨w.heap.size, 0, none⟩) (Nat.le_refl _) _).setCell (p := ⟨w.heap.size, 1, none⟩) (Nat.le_refl _) _⟩
  · have h2 : 1099511627776 < t := by omega
    go_enter Tryd.func10, Tryd.ntmps10
    go_wp2_with fail
    refine (bareF_any 10 _).mono ?_
    rintro e w3 ⟨rfl, hB3⟩
    have hx3 := HK.out w3 hB3
    have f0 := frozen_of_row w3 w.heap.size 0 _ 40 hx3
    have f1 := frozen_of_row w3 w.heap.size 1 _ 40 hx3
    have c0 : w3.cell? ⟨w.heap.size, 0, none⟩ = some (.int .i64 0) := (cell_of_row _ _ 0 _ 40 (0, 0) hx3).trans rfl
    have c1 : w3.cell? ⟨w.heap.size, 1, none⟩ = some (.int .i64 0) := (cell_of_row _ _ 1 _ 40 (0, 0) hx3).trans rfl
    have G := hid (res_cells hx3 10 (-1))
    have HB := hid (((Below.refl w.heap.size w).alloc (Nat.le_refl _) (.cells #[.int .i64 0, .int .i64 0] 40)).trans (hB3.mono (by simp)))
    clear hx3 hB3
    go_wp2
    exact bodyPost_ret (v := .agg #[.int .i64 10, .int .i64 (-1)]) (by simp [results, Tryd.results10, go_sem, G.out.1, G.out.2]) rfl ⟨rfl, (HB.out.setCell (p := ⟨w.heap.size, 0, none⟩) (Nat.le_refl _) _).setCell (p := ⟨w.heap.size, 1, none⟩) (Nat.le_refl _) _⟩

set_option maxRecDepth 100000 in
set_option maxHeartbeats 4000000 in
theorem refInst_bad (base R b off cap i : Nat) (last t c : Int) (lv : Value) (L : List (Int × Int × Int)) (ws : List (Int × Int)) (p : Int × Int) (w : World) (h : Ref w base R last lv L)
    (hws : WRow w b off ws) (hbl : b < w.heap.size) (hfine : ∀ p ∈ ws.take i, Fine p) (hi : ws[i]? = some p) (hbad : Bad p c) (h1 : last < t) (h2 : t ≤ 1099511627776) (hn : ws.length ≤ 1000) :
    Calls Tryd.prog 10 #[.pointer (some ⟨R, 0, none⟩), .int .i64 t, .slice (some ⟨b, off, none⟩) ws.length cap] w fun e w' => e = .returned (.agg #[.int .i64 c, .int .i64 (i : Int)]) ∧ Below w.heap.size w w' := by
  have hc0 := h.c1
  have hRl := h.lt
  have d1 : decide (t ≤ last) = false := by simp; omega
  have d2 : decide (1099511627776 < t) = false := by simp; omega
  have hil := (List.getElem?_eq_some_iff.1 hi).1
  clear h
  go_enter Tryd.func10, Tryd.ntmps10
  go_wp2
  go_loopw [26] (fun v wr => ∃ k : Nat, k ≤ i ∧ v = .int .i64 k ∧ wr.heap[w.heap.size]? = some (.cells #[.int .i64 0, .int .i64 0] 40 (0, 0)) ∧ Below w.heap.size w wr) (fun v _ => ws.length - (intOf v).toNat)
  case atStart => exact ⟨0, Nat.zero_le _, rfl, World.alloc_heap_new w _, (Below.refl _ _).alloc (Nat.le_refl _) _⟩
  case round =>
    obtain ⟨k, hk, rfl, hx, hB⟩ := hrel
    have hxl := (Array.getElem?_eq_some_iff.1 hx).1
    have hk0 : (0 : Int) ≤ (k : Int) := by omega
    have hk1 : (k : Int) < (ws.length : Int) := by omega
    by_cases hlt : k < i
    · obtain ⟨⟨a, v⟩, hav⟩ : ∃ p, ws[k]? = some p := ⟨ws[k], List.getElem?_eq_getElem (by omega)⟩
      obtain ⟨hf1, hf2⟩ := fine_inB (hfine (a, v) (List.mem_of_getElem? (show (ws.take i)[k]? = some (a, v) by rw [List.getElem?_take, if_pos hlt]; exact hav)))
      obtain ⟨ca, cv⟩ := (hws.same (hB.block b hbl)) k a v hav
      simp only at hf1 hf2
      have HX := hid hx
      clear hav hx hi
      go_wp2_with (go_at_call 48; refine (in_any _ _ _ _).mono ?_; rintro e w' ⟨rfl, rfl⟩)
      go_roundw
      case rel => exact ⟨k + 1, by omega, by go_num, (Below.heap_alloc _ _ _ hxl).trans HX.out, hB.alloc (by omega) _⟩
      case measure => simp [intOf]; omega
    · have hki : k = i := by omega
      subst hki
      obtain ⟨a, v⟩ := p
      obtain ⟨ca, cv⟩ := (hws.same (hB.block b hbl)) k a v hi
      have f0 := frozen_of_row wr w.heap.size 0 _ 40 hx
      have f1 := frozen_of_row wr w.heap.size 1 _ 40 hx
      have c0 : wr.cell? ⟨w.heap.size, 0, none⟩ = some (.int .i64 0) := (cell_of_row _ _ 0 _ 40 (0, 0) hx).trans rfl
      have c1 : wr.cell? ⟨w.heap.size, 1, none⟩ = some (.int .i64 0) := (cell_of_row _ _ 1 _ 40 (0, 0) hx).trans rfl
      have G0 := hid (fun o => (World.cell?_alloc_lt ((wr.setCell ⟨w.heap.size, 0, none⟩ (.int .i64 c)).setCell ⟨w.heap.size, 1, none⟩ (.int .i64 (k : Int))) o ⟨w.heap.size, 0, none⟩ (by simpa using hxl)).trans (res_cells hx c (k : Int)).1)
      have G1 := hid (fun o => (World.cell?_alloc_lt ((wr.setCell ⟨w.heap.size, 0, none⟩ (.int .i64 c)).setCell ⟨w.heap.size, 1, none⟩ (.int .i64 (k : Int))) o ⟨w.heap.size, 1, none⟩ (by simpa using hxl)).trans (res_cells hx c (k : Int)).2)
      have HB := hid hB
      clear hi hx hB
      rcases hbad with ⟨hb1, rfl⟩ | ⟨hb1, hb2, rfl⟩
      · have hn1 : inB a 0 9 = false := by
          simp [keyB] at hb1; simp [inB]; omega
        clear hb1
        go_wp2_with (go_at_call 48; refine (in_any _ _ _ _).mono ?_; rintro e w' ⟨rfl, rfl⟩)
        exact bodyPost_ret (v := .agg #[.int .i64 2, .int .i64 (k : Int)]) (by simp [results, Tryd.results10, go_sem, G0.out, G1.out]) rfl ⟨rfl, ((HB.out.setCell (p := ⟨w.heap.size, 0, none⟩) (Nat.le_refl _) _).setCell (p := ⟨w.heap.size, 1, none⟩) (Nat.le_refl _) _).alloc (by simp; omega) _⟩
      · have hn1 : inB a 0 9 = true := by
          simp [keyB] at hb1; simp [inB]; omega
        have hn2 : inB v (-1099511627776) 1099511627776 = false := by
          simp [inB]; simp only at hb2; omega
        clear hb1 hb2
        go_wp2_with (go_at_call 48; refine (in_any _ _ _ _).mono ?_; rintro e w' ⟨rfl, rfl⟩)
        exact bodyPost_ret (v := .agg #[.int .i64 1, .int .i64 (k : Int)]) (by simp [results, Tryd.results10, go_sem, G0.out, G1.out]) rfl ⟨rfl, ((HB.out.setCell (p := ⟨w.heap.size, 0, none⟩) (Nat.le_refl _) _).setCell (p := ⟨w.heap.size, 1, none⟩) (Nat.le_refl _) _).alloc (by simp; omega) _⟩

set_option maxRecDepth 100000 in
set_option maxHeartbeats 4000000 in
theorem refInst_empty (base R cap : Nat) (ad : Option Addr) (last t : Int) (lv : Value) (L : List (Int × Int × Int)) (w : World) (h : Ref w base R last lv L) (h1 : last < t) (h2 : t ≤ 1099511627776) :
    Calls Tryd.prog 10 #[.pointer (some ⟨R, 0, none⟩), .int .i64 t, .slice ad 0 cap] w fun e w' => e = .returned (.agg #[.int .i64 0, .int .i64 (-1)]) ∧
      Ref w' base R t lv L ∧ KeptS R w w' := by
  have hc0 := h.c1
  have hRl := h.lt
  have d1 : decide (t ≤ last) = false := by simp; omega
  have d2 : decide (1099511627776 < t) = false := by simp; omega
  have HR := hid h
  clear h
  go_enter Tryd.func10, Tryd.ntmps10
  go_wp2
  go_loopw [26] (fun i wr => i = .int .i64 0 ∧ wr = w.alloc (.cells #[.int .i64 0, .int .i64 0] 40)) (fun _ _ => 0)
  case atStart => exact ⟨rfl, rfl⟩
  case round =>
    obtain ⟨rfl, rfl⟩ := hrel
    go_wp2
    go_loopw [44] (fun i wz => ∃ j : Nat, j ≤ 10 ∧ i = .int .i64 j ∧ wz = w.alloc (.cells #[.int .i64 0, .int .i64 0] 40)) (fun i _ => 10 - (intOf i).toNat)
    case atStart => exact ⟨0, by omega, rfl, rfl⟩
    case round =>
      obtain ⟨j, hj, rfl, rfl⟩ := hrel
      by_cases hjl : j < 10
      · have hj0 : (0 : Int) ≤ (j : Int) := by omega
        have hj1 : (j : Int) < 10 := by omega
        go_wp2
        go_loopw [10, 49] (fun lt i wz => i = .int .i64 0 ∧ lt = .int .i64 (-1) ∧ wz = w.alloc (.cells #[.int .i64 0, .int .i64 0] 40)) (fun _ _ _ => 0)
        case atStart => exact ⟨rfl, rfl, rfl⟩
        case round =>
          obtain ⟨rfl, rfl, rfl⟩ := hrel
          go_wp2
          go_roundw
          case rel => exact ⟨j + 1, by omega, by go_num, trivial⟩
          case measure => simp [intOf]; omega
      · have hj10 : j = 10 := by omega
        subst hj10
        have hRz := hid (HR.out.below ((Below.refl w.heap.size w).alloc (Nat.le_refl _) (.cells #[.int .i64 0, .int .i64 0] 40)))
        obtain ⟨wa, hwa⟩ : ∃ wa, w.alloc (.cells #[.int .i64 0, .int .i64 0] 40) = wa := ⟨_, rfl⟩
        have hsa : wa.heap.size = w.heap.size + 1 := by rw [← hwa]; simp
        have hxa : wa.heap[w.heap.size]? = some (.cells #[.int .i64 0, .int .i64 0] 40 (0, 0)) := by rw [← hwa]; exact World.alloc_heap_new w _
        have hKa : KeptS R w wa := by rw [← hwa]; exact KeptS.of_below ((Below.refl w.heap.size w).alloc (Nat.le_refl _) _)
        rw [hwa] at hRz ⊢
        have cL := hRz.out.c1
        have fL := frozen_of_row wa R 1 _ 30 hRz.out.blk
        have hRlt := hRz.out.lt
        have hxne : w.heap.size ≠ R := by omega
        have HX := hid hxa
        clear hxa hwa
        go_wp2_with fail
        refine (bareF_any 0 _).mono ?_
        rintro e w3 ⟨rfl, hB3⟩
        have hs3 := hB3.size
        simp only [World.size_setCell] at hs3
        have hx3 : w3.heap[w.heap.size]? = some (.cells #[.int .i64 0, .int .i64 0] 40 (0, 0)) := (hB3.block w.heap.size (by simp; omega)).trans ((heap_setCell_other _ _ _ _ hxne).trans HX.out)
        have f0 := frozen_of_row w3 w.heap.size 0 _ 40 hx3
        have f1 := frozen_of_row w3 w.heap.size 1 _ 40 hx3
        have c0 : w3.cell? ⟨w.heap.size, 0, none⟩ = some (.int .i64 0) := (cell_of_row _ _ 0 _ 40 (0, 0) hx3).trans rfl
        have c1 : w3.cell? ⟨w.heap.size, 1, none⟩ = some (.int .i64 0) := (cell_of_row _ _ 1 _ 40 (0, 0) hx3).trans rfl
        have G := hid (res_cells hx3 0 (-1))
        clear hx3
        go_wp2
        refine bodyPost_ret (v := .agg #[.int .i64 0, .int .i64 (-1)]) (by simp [results, Tryd.results10, go_sem, G.out.1, G.out.2]) rfl ⟨rfl, ?_, ?_⟩
        · have hRn : R ≠ w.heap.size := fun e => hxne e.symm
          refine ⟨(heap_setCell_other _ _ _ _ hRn).trans ((heap_setCell_other _ _ _ _ hRn).trans ((hB3.block R (by simpa using hRlt)).trans ((heap_setCell_same wa R 1 _ 30 _ hRz.out.blk).trans rfl))), owns_same hRz.out.own (fun g e => ?_), hRz.out.nl, hRz.out.rb⟩
          have hgl := hRz.out.own.lt g e
          have hgw := HR.out.own.lt g e
          have hgR : g ≠ R := by have := hRz.out.rb; omega
          have hgn : g ≠ w.heap.size := by omega
          exact (heap_setCell_other _ _ _ _ hgn).trans ((heap_setCell_other _ _ _ _ hgn).trans ((hB3.block g (by simpa using hgl.2)).trans (heap_setCell_other _ _ _ _ hgR)))
        · refine ⟨hB3.os.trans hKa.os, hB3.tape.trans hKa.tape, hB3.output.trans hKa.output, by simp; omega, fun b' hb' hne => ?_⟩
          have hbn : b' ≠ w.heap.size := by omega
          exact (heap_setCell_other _ _ _ _ hbn).trans ((heap_setCell_other _ _ _ _ hbn).trans ((hB3.block b' (by simp; omega)).trans ((heap_setCell_other _ _ _ _ hne).trans (hKa.block b' hb' hne))))

end Go.Proofs.YtjefgmeejhakbaaDoor
