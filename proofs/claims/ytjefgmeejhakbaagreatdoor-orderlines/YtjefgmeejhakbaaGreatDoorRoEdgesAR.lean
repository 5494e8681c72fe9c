/- The reference's Edges, all cases. -/
import Derived.Test.YtjefgmeejhakbaaGreatDoorRoMainR
import Derived.Test.YtjefgmeejhakbaaGreatDoorOrAreR
namespace Go.Proofs.YtjefgmeejhakbaaGreatDoor
open Go.RowKit
theorem refEdges_are (ad : Option Addr) (cap : Nat) (l : List Opp) (w : World) (hn : l.length ≤ 100) (hO : OpsAt w ad l) (mb mr : Nat) (hb : FineTo opBad l mb) (hr : FineTo (badRead l) l mr) :
    Calls Tryz.prog 10 #[.slice ad l.length cap] w fun e w' => ∃ v c p E, e = .returned (.tuple #[v, .agg #[.int .i64 c, .int .i64 p]]) ∧ Below w.heap.size w w' ∧ w'.ownsRow w.heap.size 78 2 v E.length (vrow E) ∧ EdgesAre l mb mr c p E := by
  by_cases h1 : mb < l.length
  · refine (refEdges_beyond ad cap l mb w (by omega) hO hb h1).mono ?_
    rintro e w' ⟨rfl, hB⟩
    exact ⟨_, _, _, [], rfl, hB, World.ownsRow_nil _ _ _ _, .inl ⟨h1, rfl, rfl, rfl⟩⟩
  · obtain rfl : mb = l.length := by have := hb.le; omega
    refine (refEdges_main ad cap l mr w hn hO hb hr).mono ?_
    rintro e w' ⟨hB, ⟨h2, rfl⟩ | ⟨h2, v, E, rfl, hE, ho⟩⟩
    · exact ⟨_, _, _, [], rfl, hB, World.ownsRow_nil _ _ _ _, .inr (.inl ⟨rfl, h2, rfl, rfl, rfl⟩)⟩
    · exact ⟨v, _, _, E, rfl, hB, ho, .inr (.inr ⟨rfl, h2, rfl, rfl, hE⟩)⟩
end Go.Proofs.YtjefgmeejhakbaaGreatDoor
