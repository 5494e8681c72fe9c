/- slices.DeleteFunc with leave's closure. -/
import Derived.Test.YtjefgmeejhakbaaDoorLkShelf
import Derived.Test.YtjefgmeejhakbaaDoorLkWait
namespace Go.Proofs.YtjefgmeejhakbaaDoor
open Go.Shelf Go.RowKit Go.Lib Go.Sort

/-- leave's closure, in whatever world holds tx in its cell. -/
theorem gives_leave (tx x : Int) (B : Nat) (W : World) (hc : W.cell? ⟨B, 0, none⟩ = some (.int .i64 tx)) :
    FnGives Tryd.prog 80 #[.pointer (some ⟨B, 0, none⟩)] #[.int .i64 x] (.bool (x == tx)) W := by
  show Calls Tryd.prog 80 #[.int .i64 x, .pointer (some ⟨B, 0, none⟩)] W _
  go_enter Tryd.func80, Tryd.ntmps80
  go_wp2
  all_goals (go_ret; exact ⟨rfl, 0, rfl⟩)

theorem pred_leave (tx : Int) (B : Nat) (w : World) (hB : B < w.heap.size) (hcell : w.cell? ⟨B, 0, none⟩ = some (.int .i64 tx)) :
    PredAt Tryd.prog 80 #[.pointer (some ⟨B, 0, none⟩)] (Value.int .i64) (fun x => x == tx) w :=
  fun W x hb => gives_leave tx x B W ((hb.cell (p := ⟨B, 0, none⟩) hB).trans hcell)

theorem over_leave (tx : Int) (B blk off size : Nat) (w : World) (hB : B < w.heap.size) (hne : B ≠ blk) (hcell : w.cell? ⟨B, 0, none⟩ = some (.int .i64 tx)) :
    PredOver Tryd.prog 80 #[.pointer (some ⟨B, 0, none⟩)] (Value.int .i64) (fun x => x == tx) blk off size w :=
  fun n os dk x _ => gives_leave tx x B _ (by
    unfold sortWorld
    rw [cell?_grow _ _ _ (by show B < (putRow _ _ _ _ _).heap.size; rw [size_putRow]; exact hB), cell?_putRow_other _ _ blk off _ _ (Or.inl hne)]
    exact hcell)

theorem putCells_take (l : List Int) (z : Nat) (cur : Array Value) (h : l.length + z ≤ cur.size) : (putCells (Value.int .i64) 0 (l ++ List.replicate z 0).toArray cur).toList.take l.length = intsV l := by
  apply List.ext_getElem?
  intro j
  rw [List.getElem?_take]
  by_cases hj : j < l.length
  · rw [if_pos hj]
    have hjc : j < cur.size := by omega
    simp only [putCells, Array.toList_mapIdx, List.getElem?_mapIdx, Array.getElem?_toList, Array.getElem?_eq_getElem hjc, Option.map_some]
    rw [if_pos ⟨Nat.zero_le _, by simp; omega⟩]
    have e : (l ++ List.replicate z 0).toArray[j - 0]! = l[j] := by
      rw [Nat.sub_zero, getElem!_pos _ j (by simp; omega)]
      simp [List.getElem_append_left hj]
    rw [e, intsV_get (List.getElem?_eq_getElem hj)]
  · rw [if_neg hj, List.getElem?_eq_none (by rw [intsV_length]; omega)]

theorem heap_putRow (w : World) (g q : Nat) (d : Array Int) (cur : Array Value) (t : TypeId) (fr : Nat × Nat) (h : w.heap[g]? = some (.cells cur t fr)) :
    (putRow (Value.int .i64) (Sort.ahead w q) g 0 d).heap[g]? = some (.cells (putCells (Value.int .i64) 0 d cur) t fr) := by
  show ((Sort.ahead w q).heap.modify g _)[g]? = _
  rw [Array.getElem?_modify, if_pos rfl]
  show (w.heap[g]?).map _ = _
  rw [h]
  rfl
theorem heap_putRow_other (w : World) (g q k : Nat) (d : Array Int) (h : k ≠ g) :
    (putRow (Value.int .i64) (Sort.ahead w q) g 0 d).heap[k]? = w.heap[k]? := by
  show ((Sort.ahead w q).heap.modify g _)[k]? = _
  rw [Array.getElem?_modify, if_neg (fun e => h e.symm)]
  rfl

theorem del_any (g cap B : Nat) (l : List Int) (tx : Int) (w : World) (ho : w.ownsRow 0 3 1 (.slice (some ⟨g, 0, none⟩) l.length cap) l.length (intsV l)) (hc : w.cell? ⟨B, 0, none⟩ = some (.int .i64 tx)) (hBg : B ≠ g) (hlen : l.length ≤ 1000000) :
    Calls Tryd.prog 79 #[.slice (some ⟨g, 0, none⟩) l.length cap, .func (.func 80) #[] #[.pointer (some ⟨B, 0, none⟩)]] w fun e w' =>
      e = .returned (.slice (some ⟨g, 0, none⟩) (l.filter (fun x => x != tx)).length cap) ∧ w'.ownsRow 0 3 1 (.slice (some ⟨g, 0, none⟩) (l.filter (fun x => x != tx)).length cap) (l.filter (fun x => x != tx)).length (intsV (l.filter (fun x => x != tx))) ∧ w.grownBy w' (some g) := by
  have hB := World.block_lt_of_cell? w _ hc
  rcases ho.2 with ⟨e, _⟩ | ⟨g', cap', cur, e, hb0, hg, hnc, hcm, hcs, htake⟩
  · cases e
  · cases e
    have hcells := ho.cells (g := g) rfl
    have eg : ∀ args w, (callFunc 80 args).run Tryd.prog w = .ok (.enter 80 args) w := enters_of Tryd.func80 (by kernel_rfl) rfl
    have hH : Holds (Value.int .i64) w g 0 l.toArray := by
      intro j hj
      have hj' : j < l.length := by simpa using hj
      refine ⟨?_, frozen_of_row w g _ _ _ hg⟩
      have := hcells j _ (intsV_get (List.getElem?_eq_getElem hj'))
      rw [addr_add] at this
      rw [Nat.zero_add, this, getElem!_pos _ j hj]
      simp
    have hcon := AnyE.slices_DeleteFunc Tryd.l10 (Value.int .i64) (fun _ => rfl) (fun x => x == tx) 80 #[.pointer (some ⟨B, 0, none⟩)] eg 0 Tryd.zeroValue3 g 0 cap l.toArray w
      (pred_leave tx B w hB hc) (over_leave tx B g 0 l.toArray.size w hB hBg hc) hH (by simp; omega) (by simpa using hnc)
    have hcon2 : Calls Tryd.prog 79 #[.slice (some ⟨g, 0, none⟩) l.length cap, .func (.func 80) #[] #[.pointer (some ⟨B, 0, none⟩)]] w _ := hcon
    refine hcon2.mono ?_
    rintro e w' ⟨rfl, q, rfl⟩
    have hfl : (l.filter (fun x => x != tx)).length ≤ l.length := List.length_filter_le _ _
    refine ⟨rfl, ⟨by rw [intsV_length]; omega, .inr ⟨g, cap, _, rfl, Nat.zero_le _, heap_putRow w g q _ cur _ _ hg, by omega, hcm, ?_, ?_⟩⟩, ⟨rfl, rfl, rfl, ?_, fun k _ hk => heap_putRow_other w g q k _ (fun e => hk (by rw [e]))⟩⟩
    · simpa [putCells] using hcs
    · rw [Nat.mul_one]
      have e2 : (l.filter (fun x => x != tx)).length = (l.filter (fun x => !x == tx)).length := rfl
      exact putCells_take _ _ cur (by simp; omega)
    · show w.heap.size ≤ ((Sort.ahead w q).heap.modify g _).size
      rw [Array.size_modify]
      exact Nat.le_refl _

end Go.Proofs.YtjefgmeejhakbaaDoor
