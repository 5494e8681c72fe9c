/- keep.lined. -/
import Derived.Test.YtjefgmeejhakbaaDoorOfPlain
import Derived.Test.YtjefgmeejhakbaaDoorOfOps
import Derived.Test.YtjefgmeejhakbaaDoorSameW
namespace Go.Proofs.YtjefgmeejhakbaaDoor
open Go.RowKit

/-- Two that stand as the document tells, and two that could not. -/
def lin1 : List Opp := [(2, 1, false, 0), (2, 2, true, 0), (1, 1, true, 0)]
def lin2 : List Opp := [(1, 1, false, 0), (1, 2, true, 0), (2, 2, false, 0), (2, 1, true, 0)]
theorem fine_all {p : Opp → Bool} {l : List Opp} (h : ∀ o ∈ l, p o = false) : FineTo p l l.length := ⟨Nat.le_refl _, fun _ o _ ho => h o (List.mem_of_getElem? ho), fun h => absurd h (Nat.lt_irrefl _)⟩
theorem lin1_b : ∀ o ∈ lin1, opBad o = false := by decide
theorem lin1_r : ∀ o ∈ lin1, badRead lin1 o = false := by decide
theorem lin2_b : ∀ o ∈ lin2, opBad o = false := by decide
theorem lin2_r : ∀ o ∈ lin2, badRead lin2 o = false := by decide
theorem lin1_e : IsEdges lin1 [(2, 1)] := comp_edges lin1_b (m := [(2, 1)]) (by decide) (List.pairwise_singleton _ _)
theorem lin2_e : IsEdges lin2 [(1, 2), (2, 1)] := comp_edges lin2_b (m := [(1, 2), (2, 1)]) (by decide) (by unfold le2 lt2; simp)
theorem lin1_l : lineP [(2, 1)] (txsP lin1).length (txsP lin1) = some [2, 1] := by decide
theorem lin2_l : lineP [(1, 2), (2, 1)] (txsP lin2).length (txsP lin2) = none := by decide
/-- A block of ops. -/
theorem ops_block {w : World} {g : Nat} {l : List Opp} (h : w.heap[g]? = some (.cells (orow l).toArray 93 (0, 0))) (hf : ∀ o ∈ l, I64 o.1 ∧ I64 o.2.1 ∧ I64 o.2.2.2) : OpsAt w (some ⟨g, 0, none⟩) l := fun i o ho => by
  obtain ⟨h0, h1, h2, h3⟩ := orow_get l i o ho
  refine ⟨g, 0, rfl, (Array.getElem?_eq_some_iff.1 h).1, ?_, hf o (List.mem_of_getElem? ho)⟩
  rw [Nat.zero_add]
  exact ⟨(cell_of_row _ _ _ _ _ (0, 0) h).trans (by simpa using h0), (cell_of_row _ _ _ _ _ (0, 0) h).trans (by simpa using h1), (cell_of_row _ _ _ _ _ (0, 0) h).trans (by simpa using h2), (cell_of_row _ _ _ _ _ (0, 0) h).trans (by simpa using h3)⟩
theorem lin_one (w : World) (g cap : Nat) (h : w.heap[g]? = some (.cells (orow lin1).toArray 93 (0, 0))) :
    Calls Tryd.prog 41 #[.slice (some ⟨g, 0, none⟩) 3 cap] w fun e w' => ∃ b c, e = .returned (.tuple #[.slice (some ⟨b, 0, none⟩) 2 c, .nilIface]) ∧ w'.cell? ⟨b, 0, none⟩ = some (.int .i64 2) ∧ w'.cell? ⟨b, 1, none⟩ = some (.int .i64 1) ∧ b < w'.heap.size ∧ Below w.heap.size w w' := by
  have hc := lineL_ok (some ⟨g, 0, none⟩) cap lin1 w (by decide) (ops_block h (by unfold I64; decide)) (fine_all lin1_b) (fine_all lin1_r)
  refine Calls.mono hc ?_
  rintro e w' ⟨E, hE, hB, ⟨v, out, rfl, hl, ho⟩ | ⟨_, hl⟩⟩
  · obtain rfl := edges_one hE lin1_e
    rw [lin1_l] at hl
    cases hl
    rcases row_slice ho with ⟨_, e0⟩ | ⟨b, c, rfl, hb, hcs⟩
    · cases e0
    · exact ⟨b, c, rfl, hcs 0 _ rfl, hcs 1 _ rfl, hb, hB⟩
  · obtain rfl := edges_one hE lin1_e
    rw [lin1_l] at hl
    cases hl
theorem lin_two (w : World) (g cap : Nat) (h : w.heap[g]? = some (.cells (orow lin2).toArray 93 (0, 0))) :
    Calls Tryd.prog 41 #[.slice (some ⟨g, 0, none⟩) 4 cap] w fun e w' => e = .returned (.tuple #[.slice none 0 0, .iface 38 (.int .i64 11)]) ∧ Below w.heap.size w w' := by
  have hc := lineL_ok (some ⟨g, 0, none⟩) cap lin2 w (by decide) (ops_block h (by unfold I64; decide)) (fine_all lin2_b) (fine_all lin2_r)
  refine Calls.mono hc ?_
  rintro e w' ⟨E, hE, hB, ⟨v, out, rfl, hl, ho⟩ | ⟨rfl, hl⟩⟩
  · obtain rfl := edges_one hE lin2_e
    rw [lin2_l] at hl
    cases hl
  · exact ⟨rfl, hB⟩

set_option maxRecDepth 100000 in
set_option maxHeartbeats 1000000 in
theorem lined_any (w : World) (hH : Handle w) : Calls Tryd.prog 38 #[] w fun e w' => e = .returned (.bool true) ∧ Below w.heap.size w w' := by
  have HH := hid hH
  have hA1 := (Below.refl w.heap.size w).alloc (Nat.le_refl _) (.cells (orow lin1).toArray 93)
  have HC1 := hid (lin_one (w.alloc (.cells (orow lin1).toArray 93)) w.heap.size 3 (heap_alloc_new w _))
  have HA1 := hid hA1
  have hnn : ∀ w, (binOp .eql 36 .nilIface .nilIface).run Tryd.prog w = .ok (.bool true) w := fun _ => by kernel_rfl
  clear hH hA1
  go_enter Tryd.func38, Tryd.ntmps38
  go_wp2_with fail
  refine HC1.out.mono ?_
  rintro e w1 ⟨b, c, rfl, c0, c1, hb, hB1⟩
  have h01 := HA1.out.trans (hB1.mono (by simp))
  have HC2 := hid (lin_two (w1.alloc (.cells (orow lin2).toArray 93)) w1.heap.size 4 (heap_alloc_new w1 _))
  have HA2 := hid ((Below.refl w1.heap.size w1).alloc (Nat.le_refl _) (.cells (orow lin2).toArray 93))
  have HK := hid (And.intro h01 (And.intro c0 c1))
  clear hB1 h01 c0 c1 HC1
  go_wp2_with fail
  refine HC2.out.mono ?_
  rintro e w2 ⟨rfl, hB2⟩
  have h12 := HA2.out.trans (hB2.mono (by simp))
  have h02 := HK.out.1.trans (h12.mono HK.out.1.size)
  have d0 := (h12.cell (p := ⟨b, 0, none⟩) hb).trans HK.out.2.1
  have d1 := (h12.cell (p := ⟨b, 1, none⟩) hb).trans HK.out.2.2
  have HC3 := hid (tell_errno 11 w2 (HH.out.below h02 HH.out.pos))
  have H02 := hid h02
  clear hB2 h12 h02 HC2
  go_wp2_with fail
  refine HC3.out.mono ?_
  rintro e w3 ⟨rfl, hB3⟩
  have HF := hid (H02.out.trans (hB3.mono H02.out.size))
  clear hB3
  go_wp2
  go_ret
  exact ⟨rfl, HF.out⟩

end Go.Proofs.YtjefgmeejhakbaaDoor
