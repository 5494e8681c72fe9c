/- From rows of one's own to the sort's words, and back. -/
import Derived.Test.YtjefgmeejhakbaaGreatDoorOrShelf
import Derived.Test.YtjefgmeejhakbaaGreatDoorKeptR
namespace Go.Proofs.YtjefgmeejhakbaaGreatDoor
open Go.RowKit Go.Shelf Go.Lib Go.Sort
theorem putCells_id_size (F c : Array Value) : (putCells id 0 F c).size = c.size := by simp [putCells]
theorem putCells_take {F c : Array Value} (h : F.size ≤ c.size) : (putCells id 0 F c).toList.take F.size = F.toList := by
  apply List.ext_getElem?
  intro i
  rw [List.getElem?_take]
  by_cases hi : i < F.size
  · rw [if_pos hi]
    simp [putCells, hi, show i < c.size by omega]
  · rw [if_neg hi]
    simp [show F.size ≤ i by omega]
theorem heap_putRow_same {w : World} {g : Nat} {cur F : Array Value} {e : TypeId} (h : w.heap[g]? = some (.cells cur e (0, 0))) : (putRow id w g 0 F).heap[g]? = some (.cells (putCells id 0 F cur) e (0, 0)) := by
  simp [putRow, mapBlock, Array.getElem?_modify, h, onCells]
theorem heap_putRow_other {w : World} {g b : Nat} {F : Array Value} (h : b ≠ g) : (putRow id w g 0 F).heap[b]? = w.heap[b]? := by
  simp only [putRow, mapBlock, Array.getElem?_modify]
  rw [if_neg (fun e => h e.symm)]
theorem put_owns {w : World} {N : Nat} {e : TypeId} {size g n cap : Nat} {xs : List Value} (h : w.ownsRow N e size (.slice (some ⟨g, 0, none⟩) n cap) n xs) {F : Array Value} (hF : F.size = n * size) (q : Nat) (os : Array Obj) :
    (grow (putRow id (Sort.ahead w q) g 0 F) os).ownsRow N e size (.slice (some ⟨g, 0, none⟩) n cap) n F.toList ∧ w.grownBy (grow (putRow id (Sort.ahead w q) g 0 F) os) (some g) := by
  rcases h.2 with ⟨e1, _⟩ | ⟨g', cap', cur, e1, hb, hg, h1, h2, h3, h4⟩
  · cases e1
  · cases e1
    have hgl : g < w.heap.size := (Array.getElem?_eq_some_iff.1 hg).1
    have hg2 : (Sort.ahead w q).heap[g]? = some (.cells cur e (0, 0)) := hg
    refine ⟨⟨by simpa using hF, .inr ⟨g, cap, _, rfl, hb, (heap_grow_old _ os (by simpa using hgl)).trans (heap_putRow_same hg2), h1, h2, (putCells_id_size F cur).trans h3, ?_⟩⟩, ⟨rfl, rfl, rfl, by simp [Sort.ahead], fun b hbl hne => ?_⟩⟩
    · rw [← hF]
      exact putCells_take (by rw [hF, h3]; exact Nat.mul_le_mul_right size h1)
    · exact (heap_grow_old _ os (by simpa [Sort.ahead] using hbl)).trans (heap_putRow_other (fun e => hne (by rw [e])))
theorem holds_of_owns {w : World} {N : Nat} {e : TypeId} {size g n cap : Nat} {F : Array Value} (h : w.ownsRow N e size (.slice (some ⟨g, 0, none⟩) n cap) n F.toList) : Holds id w g 0 F := by
  intro j hj
  have hc := h.cells (g := g) rfl j F[j]! (by simp [hj])
  rw [addr_add] at hc
  rw [Nat.zero_add]
  refine ⟨hc, ?_⟩
  rcases h.2 with ⟨e1, _⟩ | ⟨g', cap', cur, e1, _, hg, _⟩
  · cases e1
  · cases e1
    simp [World.frozen?, hg]
def encW (x : Int × Int) : List Value := [.int .i64 x.1, .int .i64 x.2]
theorem flatW (d : Array (Int × Int)) : (flatK encW 2 d).toList = vrow d.toList := by
  apply List.ext_getElem?
  intro t
  have hl : (vrow d.toList).length = d.size * 2 := by rw [vrow_length, Array.length_toList]
  by_cases ht : t < d.size * 2
  · have hj : t / 2 < d.size := by omega
    obtain ⟨⟨a, b⟩, hab⟩ : ∃ x, d[t / 2]? = some x := ⟨d[t / 2], Array.getElem?_eq_getElem hj⟩
    have e1 : d[t / 2]! = (a, b) := by rw [getElem!_def, hab]
    obtain ⟨v1, v2⟩ := vrow_get d.toList (t / 2) a b (by rw [Array.getElem?_toList]; exact hab)
    have hf : (flatK encW 2 d)[t]? = some (encW d[t / 2]!)[t % 2]! := by
      rw [← get_flatK encW 2 d t ht, getElem!_pos _ t (by rw [size_flatK]; exact ht)]
      exact Array.getElem?_eq_getElem (by rw [size_flatK]; exact ht)
    rw [Array.getElem?_toList, hf, e1]
    rcases Nat.mod_two_eq_zero_or_one t with e | e
    · rw [e, show t = t / 2 * 2 by omega, v1]; rfl
    · rw [e, show t = t / 2 * 2 + 1 by omega, v2]; rfl
  · rw [List.getElem?_eq_none (by rw [Array.length_toList, size_flatK]; omega), List.getElem?_eq_none (by omega)]
theorem putRow_ints (w : World) (g : Nat) (d : Array Int) : putRow (Value.int .i64) w g 0 d = putRow id w g 0 (intsV d.toList).toArray := by
  unfold putRow
  refine mapBlock_congr _ _ _ _ fun c _ _ _ => ?_
  unfold putCells
  apply Array.ext_getElem?
  intro k
  rw [Array.getElem?_mapIdx, Array.getElem?_mapIdx]
  congr 1
  funext x
  have hz : (intsV d.toList).toArray.size = d.size := by simp [intsV]
  rw [hz]
  by_cases h : 0 ≤ k ∧ k < 0 + d.size
  · rw [if_pos h, if_pos h]
    have hk : k < d.size := by omega
    simp [intsV, hk]
  · rw [if_neg h, if_neg h]
end Go.Proofs.YtjefgmeejhakbaaGreatDoor
