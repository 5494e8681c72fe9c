/- How many entries a map has. -/
import Derived.Test.YtjefgmeejhakbaaGreatDoorLkMapR
import Derived.Maps.RangeWalk
namespace Go.Proofs.YtjefgmeejhakbaaGreatDoor
open Go.RowKit
theorem IMap.len {w : World} {b n : Nat} {f : Int → Option Value} (h : IMap w b n f) {t e : TypeId} (ht : Tryz.prog.underlying t = some (.map 3 e)) :
    ∃ k : Nat, k ≤ n ∧ (∀ ty, (Builtin.len_ #[t] ty #[.map (some b)]).run Tryz.prog w = .ok (.int .i64 k) w) ∧ (k = 0 ↔ ∀ a, f a = none) := by
  obtain ⟨D, h1, h2⟩ := h
  refine ⟨Maps.size D, h1.size_le, fun ty => h1.len ht ty, ?_⟩
  obtain ⟨es, clock, hb, F, hs, rfl⟩ := h1
  constructor
  · intro h0 a
    have e0 := List.eq_nil_of_length_eq_zero h0
    have h3 := (h2 a).1
    rw [e0] at h3
    cases hf : f a with
    | none => rfl
    | some v => rw [hf] at h3; cases h3
  · intro hn
    rcases Nat.eq_zero_or_pos es.size with e | e
    · have : es = #[] := Array.eq_empty_of_size_eq_zero e
      subst this
      rfl
    · exfalso
      obtain ⟨x, hx⟩ : ∃ x, x ∈ es.toList := ⟨es[0], by simp⟩
      obtain ⟨v, hv⟩ := Maps.fit_keys F _ (List.mem_map.2 ⟨x, hx, rfl⟩)
      obtain ⟨a, _, hk, _⟩ := Maps.keyOf_int_inv Tryz.underlying3 hv
      have h3 := (h2 a).1
      rw [hn a] at h3
      have h4 : Maps.has (DataW.map ((es.toList.map (WideElems.rg Tryz.prog 3 anyElem)).foldr DataW.insert [])) (.int .i64 a) = true := by
        rw [Maps.has_eq, List.any_eq_true]
        refine ⟨_, (WideShapes.sorted_perm _).mem_iff.2 (List.mem_map.2 ⟨x, hx, rfl⟩), ?_⟩
        rw [hk]
        simp [Lit.sameKey]
      rw [h4] at h3
      cases h3
theorem IMap.congr {w : World} {b n : Nat} {f g : Int → Option Value} (h : IMap w b n f) (e : ∀ a, f a = g a) : IMap w b n g := (funext e : f = g) ▸ h
end Go.Proofs.YtjefgmeejhakbaaGreatDoor
