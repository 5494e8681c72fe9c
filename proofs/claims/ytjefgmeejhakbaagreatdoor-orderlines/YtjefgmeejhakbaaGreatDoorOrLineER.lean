/- order.Line where Edges tells an error. -/
import Derived.Test.YtjefgmeejhakbaaGreatDoorOrLineXR
namespace Go.Proofs.YtjefgmeejhakbaaGreatDoor
open Go.RowKit
set_option maxRecDepth 100000 in
set_option maxHeartbeats 400000 in
theorem lineL_err (ad : Option Addr) (cap n : Nat) (c p : Int) (w : World)
    (h : Calls Tryz.prog 12 #[.slice ad n cap] w fun e w' => ∃ pb, e = .returned (.tuple #[.slice none 0 0, .iface 216 (.pointer (some ⟨pb, 0, none⟩))]) ∧ w'.heap[pb]? = some (.cells #[.int .i64 c, .int .i64 p] 217 (0, 0)) ∧ Below w.heap.size w w') :
    Calls Tryz.prog 13 #[.slice ad n cap] w fun e w' => ∃ pb, e = .returned (.tuple #[.slice none 0 0, .iface 216 (.pointer (some ⟨pb, 0, none⟩))]) ∧ w'.heap[pb]? = some (.cells #[.int .i64 c, .int .i64 p] 217 (0, 0)) ∧ Below w.heap.size w w' := by
  have HC := hid h
  clear h
  go_enter Tryz.func13, Tryz.ntmps13
  go_wp2_with fail
  refine HC.out.mono ?_
  rintro e w1 ⟨pb, rfl, hp, hB⟩
  have HP := hid (And.intro hp hB)
  have hne : ∀ w, (binOp .neq 33 (.iface 216 (.pointer (some ⟨pb, 0, none⟩))) .nilIface).run Tryz.prog w = .ok (.bool true) w := fun _ => by kernel_rfl
  clear hp hB
  go_wp2
  go_ret2
  exact ⟨pb, rfl, HP.out⟩
theorem err_is {w : World} {pb : Nat} {c p : Int} (h : w.heap[pb]? = some (.cells #[.int .i64 c, .int .i64 p] 217 (0, 0))) : ErrIs w (.iface 216 (.pointer (some ⟨pb, 0, none⟩))) c p :=
  .inr (.inr ⟨pb, rfl, (cell_of_row _ _ 0 _ _ (0, 0) h).trans rfl, (cell_of_row _ _ 1 _ _ (0, 0) h).trans rfl⟩)
theorem edgesL_any (ad : Option Addr) (cap : Nat) (l : List Opp) (w : World) (hn : l.length ≤ 1000) (hO : OpsAt w ad l) (mb mr : Nat) (hb : FineTo opBad l mb) (hr : FineTo (badRead l) l mr) :
    Calls Tryz.prog 12 #[.slice ad l.length cap] w fun e w' => ∃ v ev, e = .returned (.tuple #[v, ev]) ∧ Below w.heap.size w w' ∧
      ((mb < l.length ∧ v = .slice none 0 0 ∧ ErrIs w' ev 2 mb) ∨ (mb = l.length ∧ mr < l.length ∧ v = .slice none 0 0 ∧ ErrIs w' ev 1 mr) ∨ (mb = l.length ∧ mr = l.length ∧ ErrIs w' ev 0 (-1) ∧ ∃ E, IsEdges l E ∧ E.length ≤ 12 * l.length ∧ w'.ownsRow w.heap.size 78 2 v E.length (vrow E))) := by
  by_cases h1 : mb < l.length
  · refine (edges_beyond ad cap l mb w hn hO hb h1).mono ?_
    rintro e w' ⟨pb, rfl, hp, hB⟩
    exact ⟨_, _, rfl, hB, .inl ⟨h1, rfl, err_is hp⟩⟩
  · obtain rfl : mb = l.length := by have := hb.le; omega
    by_cases h2 : mr < l.length
    · refine (edges_ground ad cap l mr w hn hO hb hr h2).mono ?_
      rintro e w' ⟨pb, rfl, hp, hB⟩
      exact ⟨_, _, rfl, hB, .inr (.inl ⟨rfl, h2, rfl, err_is hp⟩)⟩
    · obtain rfl : mr = l.length := by have := hr.le; omega
      refine (edges_ok ad cap l w hn hO hb hr).mono ?_
      rintro e w' ⟨v, E, rfl, hE, hl, ho, hB⟩
      exact ⟨_, _, rfl, hB, .inr (.inr ⟨rfl, rfl, .inl ⟨rfl, rfl, rfl⟩, E, hE, hl, ho⟩)⟩
theorem lineL_any (ad : Option Addr) (cap : Nat) (l : List Opp) (w : World) (hn : l.length ≤ 1000) (hO : OpsAt w ad l) (mb mr : Nat) (hb : FineTo opBad l mb) (hr : FineTo (badRead l) l mr) :
    Calls Tryz.prog 13 #[.slice ad l.length cap] w fun e w' => ∃ v ev, e = .returned (.tuple #[v, ev]) ∧ Below w.heap.size w w' ∧
      ((mb < l.length ∧ v = .slice none 0 0 ∧ ErrIs w' ev 2 mb) ∨ (mb = l.length ∧ mr < l.length ∧ v = .slice none 0 0 ∧ ErrIs w' ev 1 mr) ∨ (mb = l.length ∧ mr = l.length ∧ ∃ E, IsEdges l E ∧
        ((∃ out, lineP E (txsP l).length (txsP l) = some out ∧ ErrIs w' ev 0 (-1) ∧ w'.ownsRow w.heap.size 3 1 v out.length (intsV out)) ∨ (lineP E (txsP l).length (txsP l) = none ∧ v = .slice none 0 0 ∧ ErrIs w' ev 11 (-1))))) := by
  by_cases h1 : mb < l.length
  · refine (lineL_err ad cap l.length 2 mb w (edges_beyond ad cap l mb w hn hO hb h1)).mono ?_
    rintro e w' ⟨pb, rfl, hp, hB⟩
    exact ⟨_, _, rfl, hB, .inl ⟨h1, rfl, err_is hp⟩⟩
  · obtain rfl : mb = l.length := by have := hb.le; omega
    by_cases h2 : mr < l.length
    · refine (lineL_err ad cap l.length 1 mr w (edges_ground ad cap l mr w hn hO hb hr h2)).mono ?_
      rintro e w' ⟨pb, rfl, hp, hB⟩
      exact ⟨_, _, rfl, hB, .inr (.inl ⟨rfl, h2, rfl, err_is hp⟩)⟩
    · obtain rfl : mr = l.length := by have := hr.le; omega
      refine (lineL_ok ad cap l w hn hO hb hr).mono ?_
      rintro e w' ⟨E, hE, hB, ⟨v, out, rfl, hl, ho⟩ | ⟨rfl, hl⟩⟩
      · exact ⟨_, _, rfl, hB, .inr (.inr ⟨rfl, rfl, E, hE, .inl ⟨out, hl, .inl ⟨rfl, rfl, rfl⟩, ho⟩⟩)⟩
      · exact ⟨_, _, rfl, hB, .inr (.inr ⟨rfl, rfl, E, hE, .inr ⟨hl, rfl, .inr (.inl ⟨rfl, rfl⟩)⟩⟩)⟩
end Go.Proofs.YtjefgmeejhakbaaGreatDoor
