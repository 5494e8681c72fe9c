/- What Edges and Line tell, in one shape for both sides. -/
import Derived.Test.YtjefgmeejhakbaaGreatDoorOrLineER
namespace Go.Proofs.YtjefgmeejhakbaaGreatDoor
open Go.RowKit
def EdgesAre (l : List Opp) (mb mr : Nat) (c p : Int) (E : List (Int × Int)) : Prop :=
  (mb < l.length ∧ c = 2 ∧ p = mb ∧ E = []) ∨ (mb = l.length ∧ mr < l.length ∧ c = 1 ∧ p = mr ∧ E = []) ∨ (mb = l.length ∧ mr = l.length ∧ c = 0 ∧ p = -1 ∧ IsEdges l E)
theorem EdgesAre.one {l : List Opp} {mb mr : Nat} {c p c' p' : Int} {E E' : List (Int × Int)} (h : EdgesAre l mb mr c p E) (k : EdgesAre l mb mr c' p' E') : c = c' ∧ p = p' ∧ E = E' := by
  rcases h with ⟨h1, rfl, rfl, rfl⟩ | ⟨h1, h2, rfl, rfl, rfl⟩ | ⟨h1, h2, rfl, rfl, h5⟩ <;> rcases k with ⟨k1, rfl, rfl, rfl⟩ | ⟨k1, k2, rfl, rfl, rfl⟩ | ⟨k1, k2, rfl, rfl, k5⟩ <;> first | exact ⟨rfl, rfl, rfl⟩ | exact ⟨rfl, rfl, edges_one h5 k5⟩ | omega
def LineAre (l : List Opp) (mb mr : Nat) (c p : Int) (out : List Int) : Prop :=
  (mb < l.length ∧ c = 2 ∧ p = mb ∧ out = []) ∨ (mb = l.length ∧ mr < l.length ∧ c = 1 ∧ p = mr ∧ out = []) ∨ (mb = l.length ∧ mr = l.length ∧ ∃ E, IsEdges l E ∧ ((lineP E (txsP l).length (txsP l) = some out ∧ c = 0 ∧ p = -1) ∨ (lineP E (txsP l).length (txsP l) = none ∧ out = [] ∧ c = 11 ∧ p = -1)))
theorem LineAre.one {l : List Opp} {mb mr : Nat} {c p c' p' : Int} {o o' : List Int} (h : LineAre l mb mr c p o) (k : LineAre l mb mr c' p' o') : c = c' ∧ p = p' ∧ o = o' := by
  rcases h with ⟨h1, rfl, rfl, rfl⟩ | ⟨h1, h2, rfl, rfl, rfl⟩ | ⟨h1, h2, E, hE, h3⟩ <;> rcases k with ⟨k1, rfl, rfl, rfl⟩ | ⟨k1, k2, rfl, rfl, rfl⟩ | ⟨k1, k2, E', kE, k3⟩ <;> first | exact ⟨rfl, rfl, rfl⟩ | omega | skip
  obtain rfl := edges_one hE kE
  rcases h3 with ⟨h4, rfl, rfl⟩ | ⟨h4, rfl, rfl, rfl⟩ <;> rcases k3 with ⟨k4, rfl, rfl⟩ | ⟨k4, rfl, rfl, rfl⟩
  · rw [h4] at k4; cases k4; exact ⟨rfl, rfl, rfl⟩
  · rw [h4] at k4; cases k4
  · rw [h4] at k4; cases k4
  · exact ⟨rfl, rfl, rfl⟩
theorem edgesL_are (ad : Option Addr) (cap : Nat) (l : List Opp) (w : World) (hn : l.length ≤ 1000) (hO : OpsAt w ad l) (mb mr : Nat) (hb : FineTo opBad l mb) (hr : FineTo (badRead l) l mr) :
    Calls Tryz.prog 12 #[.slice ad l.length cap] w fun e w' => ∃ v ev c p E, e = .returned (.tuple #[v, ev]) ∧ Below w.heap.size w w' ∧ ErrIs w' ev c p ∧ w'.ownsRow w.heap.size 78 2 v E.length (vrow E) ∧ E.length ≤ 12 * l.length ∧ EdgesAre l mb mr c p E := by
  refine (edgesL_any ad cap l w hn hO mb mr hb hr).mono ?_
  rintro e w' ⟨v, ev, rfl, hB, ⟨h1, rfl, h2⟩ | ⟨h1, h2, rfl, h3⟩ | ⟨h1, h2, h3, E, hE, hl, ho⟩⟩
  · exact ⟨_, ev, _, _, [], rfl, hB, h2, World.ownsRow_nil _ _ _ _, by simp, .inl ⟨h1, rfl, rfl, rfl⟩⟩
  · exact ⟨_, ev, _, _, [], rfl, hB, h3, World.ownsRow_nil _ _ _ _, by simp, .inr (.inl ⟨h1, h2, rfl, rfl, rfl⟩)⟩
  · exact ⟨_, ev, _, _, E, rfl, hB, h3, ho, hl, .inr (.inr ⟨h1, h2, rfl, rfl, hE⟩)⟩
theorem lineL_are (ad : Option Addr) (cap : Nat) (l : List Opp) (w : World) (hn : l.length ≤ 1000) (hO : OpsAt w ad l) (mb mr : Nat) (hb : FineTo opBad l mb) (hr : FineTo (badRead l) l mr) :
    Calls Tryz.prog 13 #[.slice ad l.length cap] w fun e w' => ∃ v ev c p out, e = .returned (.tuple #[v, ev]) ∧ Below w.heap.size w w' ∧ ErrIs w' ev c p ∧ w'.ownsRow w.heap.size 3 1 v out.length (intsV out) ∧ LineAre l mb mr c p out := by
  refine (lineL_any ad cap l w hn hO mb mr hb hr).mono ?_
  rintro e w' ⟨v, ev, rfl, hB, ⟨h1, rfl, h2⟩ | ⟨h1, h2, rfl, h3⟩ | ⟨h1, h2, E, hE, ⟨out, hl, he, ho⟩ | ⟨hl, rfl, he⟩⟩⟩
  · exact ⟨_, ev, _, _, [], rfl, hB, h2, World.ownsRow_nil _ _ _ _, .inl ⟨h1, rfl, rfl, rfl⟩⟩
  · exact ⟨_, ev, _, _, [], rfl, hB, h3, World.ownsRow_nil _ _ _ _, .inr (.inl ⟨h1, h2, rfl, rfl, rfl⟩)⟩
  · exact ⟨_, ev, _, _, out, rfl, hB, he, ho, .inr (.inr ⟨h1, h2, E, hE, .inl ⟨hl, rfl, rfl⟩⟩)⟩
  · exact ⟨_, ev, _, _, [], rfl, hB, he, World.ownsRow_nil _ _ _ _, .inr (.inr ⟨h1, h2, E, hE, .inr ⟨hl, rfl, rfl, rfl⟩⟩)⟩
end Go.Proofs.YtjefgmeejhakbaaGreatDoor
