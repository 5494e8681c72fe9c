/- The reference's Edges: the plain side of its second loop. -/
import Derived.Test.YtjefgmeejhakbaaGreatDoorRoEdgesR
namespace Go.Proofs.YtjefgmeejhakbaaGreatDoor
open Go.RowKit
def opAll (l : List Opp) (o : Opp) : List (Int × Int) := conP (writersP l o.2.1) ++ readsP l o
def rAll (l : List Opp) (j : Nat) : List (Int × Int) := (l.take j).flatMap (opAll l)
theorem rAll_step {l : List Opp} {j : Nat} {o : Opp} (h : l[j]? = some o) : rAll l (j + 1) = rAll l j ++ opAll l o := by
  unfold rAll; rw [List.take_add_one, h, List.flatMap_append]; simp
theorem mem_rAll {l : List Opp} (a b : Int) : (a, b) ∈ rAll l l.length ↔ Two l a b := by
  unfold rAll Two opAll
  rw [List.take_length]
  simp only [List.mem_flatMap, List.mem_append]
  constructor
  · rintro ⟨o, ho, h | h⟩
    · exact .inl ⟨o, ho, h⟩
    · refine .inr ⟨o, ho, ?_⟩
      unfold readsP at h
      by_cases hw : o.2.2.1 = true
      · rw [if_pos hw] at h; simp at h
      · rw [if_neg hw] at h
        refine ⟨by simpa using hw, ?_⟩
        cases hr : readP (writersP l o.2.1) o with
        | none => rw [hr] at h; simp at h
        | some p => rw [hr] at h; exact ⟨p, rfl, h⟩
  · rintro (⟨o, ho, h⟩ | ⟨o, ho, hw, p, hp, h⟩)
    · exact ⟨o, ho, .inl h⟩
    · refine ⟨o, ho, .inr ?_⟩
      unfold readsP
      rw [if_neg (by simp [hw]), hp]
      exact h
theorem set_edges {l : List Opp} {m : List (Int × Int)} (hm : ∀ a b, (a, b) ∈ m ↔ a ≠ b ∧ (a, b) ∈ rAll l l.length) (hn : m.Nodup) {d : List (Int × Int)} (hp : d.Perm m) (hs : d.Pairwise le2) : IsEdges l d := by
  refine ⟨?_, fun a b => by rw [hp.mem_iff, hm a b, mem_rAll]⟩
  have hnd : d.Nodup := hp.nodup_iff.2 hn
  have := hs.and hnd
  exact this.imp (fun {a b} h => ((le2_iff a b).1 h.1).resolve_right h.2)
theorem writers_i64 {l : List Opp} (h : ∀ o ∈ l, I64 o.1) {key x : Int} (hx : x ∈ writersP l key) : I64 x := by
  obtain ⟨o, ho, rfl⟩ := writers_tx hx
  exact h o ho
end Go.Proofs.YtjefgmeejhakbaaGreatDoor
