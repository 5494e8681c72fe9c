/- Plain: how Drop goes on from key to key. -/
import Derived.Test.YtjefgmeejhakbaaDoorLkAsk
namespace Go.Proofs.YtjefgmeejhakbaaDoor
open Go.RowKit

/-- The table when the keys below j are let go. -/
def midT (T : Tab) (tx : Int) (j : Int) : Tab := fun k => if k < j ∨ holdsP T k ≠ tx then (T k).filter (fun x => x != tx) else T k
theorem midT_sub (T : Tab) (tx j : Int) (k : Int) : (midT T tx j k).Sublist (T k) := by
  unfold midT
  split
  · exact List.filter_sublist
  · exact List.Sublist.refl _
theorem Good.mid {T : Tab} (h : Good T) (tx j : Int) : Good (midT T tx j) := h.sub (midT_sub T tx j)
theorem midT_end {T : Tab} (h : Tidy0 T) (tx : Int) : midT T tx 10 = dropP T tx := by
  funext k
  unfold midT dropP
  by_cases hk : k < 10 ∨ holdsP T k ≠ tx
  · rw [if_pos hk]
  · rw [if_neg hk]
    by_cases e : T k = []
    · rw [e]; rfl
    · have := h.rng k e; omega

theorem filter_none {l : List Int} {tx : Int} (h : tx ∉ l) : l.filter (fun x => x != tx) = l := by
  refine List.filter_eq_self.2 (fun x hx => ?_)
  simp only [bne_iff_ne, ne_eq]
  rintro rfl
  exact h hx
theorem head_or {T : Tab} {k x : Int} (h : x ∈ T k) : holdsP T k = x ∨ x ∈ (T k).tail := by
  unfold holdsP
  cases hT : T k with
  | nil => rw [hT] at h; simp at h
  | cons a l =>
    rw [hT] at h
    rcases List.mem_cons.1 h with e | e
    · exact .inl e.symm
    · exact .inr e

/-- Where one leaves its line. -/
theorem mid_none {T : Tab} (hT : Tidy0 T) {tx : Int} (hw : waitsP T tx = -1) : midT T tx 0 = T := by
  funext k
  unfold midT
  by_cases hh : k < 0 ∨ holdsP T k ≠ tx
  · rw [if_pos hh]
    refine filter_none (fun hm => ?_)
    rcases hh with hh | hh
    · have := hT.rng k (fun e => by rw [e] at hm; simp at hm); omega
    · rcases head_or hm with e | e
      · exact hh e
      · exact waits_none hT (by omega) k e
  · rw [if_neg hh]

theorem mid_tail {T : Tab} (hT : Tidy0 T) (tx k x : Int) : x ∈ (midT T tx 0 k).tail ↔ x ∈ (T k).tail ∧ x ≠ tx := by
  have hnod := hT.nod k
  unfold midT
  by_cases hh : k < 0 ∨ holdsP T k ≠ tx
  · rw [if_pos hh]
    cases hTk : T k with
    | nil => simp
    | cons a l =>
      have ha : a ≠ tx := by
        rcases hh with hh | hh
        · have := hT.rng k (by rw [hTk]; simp); omega
        · simpa [holdsP, hTk] using hh
      simp [ha]
  · rw [if_neg hh]
    have hh2 : holdsP T k = tx := Classical.not_not.1 (fun h => hh (.inr h))
    constructor
    · intro hx
      refine ⟨hx, ?_⟩
      rintro rfl
      rcases head_not_tail hnod with h | h
      · exact h (by have := hh2; unfold holdsP at this; rw [this]; exact hx)
      · rw [h] at hx; simp at hx
    · exact fun h => h.1

theorem Rep.leave {T : Tab} {h wa : Int → Option Int} {ln : Int → List Int} (R : Rep T h wa ln) (hT : Tidy0 T) {tx k : Int} (hw : waitsP T tx = k) (hk : 0 ≤ k) : Rep (midT T tx 0) h (updT wa tx none) (updT ln k ((ln k).filter (fun x => x != tx))) := by
  have hmem : tx ∈ (T k).tail := by rw [← hw]; exact mem_of_waits (by omega)
  have hhead : ∀ j, (midT T tx 0 j).head? = (T j).head? := by
    intro j
    unfold midT
    split
    · rename_i hh
      cases hTj : T j with
      | nil => rfl
      | cons a l =>
        have ha : a ≠ tx := by
          rcases hh with hh | hh
          · have := hT.rng j (by rw [hTj]; simp); omega
          · simpa [holdsP, hTj] using hh
        simp [ha]
    · rfl
  refine ⟨fun j => (R.h j).trans (hhead j).symm, fun x => ?_, fun j => ?_⟩
  · by_cases e : x = tx
    · subst e
      have : waitsP (midT T x 0) x = -1 := by
        unfold waitsP
        rw [List.find?_eq_none.2]
        · rfl
        · intro j _
          simp [mid_tail hT]
      rw [this, updT_same]
      exact ⟨rfl, by simp⟩
    · rw [updT_other _ _ e, waits_mem (T := midT T tx 0) (T' := T) (fun j => by rw [mid_tail hT]; simp [e])]
      exact R.wa x
  · by_cases e : j = k
    · subst e
      rw [updT_same, R.ln j]
      cases hTj : T j with
      | nil => rw [hTj] at hmem; simp at hmem
      | cons a l =>
        have hn := hT.nod j
        rw [hTj] at hn hmem
        have ha : a ≠ tx := by rintro rfl; exact (List.nodup_cons.1 hn).1 hmem
        unfold midT
        rw [if_pos (.inr (by simpa [holdsP, hTj] using ha)), hTj]
        simp [ha]
    · rw [updT_other _ _ e, R.ln j]
      unfold midT
      split
      · rename_i hh
        rw [filter_none]
        intro hm
        rcases head_or hm with e2 | e2
        · rcases hh with hh | hh
          · have := hT.rng j (fun e => by rw [e] at hm; simp at hm); omega
          · exact hh e2
        · exact e ((waits_of_mem hT e2).symm.trans hw)
      · rfl

/-- A key that is not held by tx. -/
theorem mid_skip {T : Tab} {tx j : Int} (hh : holdsP T j ≠ tx ∨ T j = []) : midT T tx (j + 1) = midT T tx j := by
  funext k
  unfold midT
  by_cases e : k = j
  · subst e
    rw [if_pos (.inl (by omega))]
    rcases hh with hh | hh
    · rw [if_pos (.inr hh)]
    · rw [hh]; simp
  · by_cases h1 : k < j
    · rw [if_pos (.inl (by omega)), if_pos (.inl h1)]
    · by_cases h2 : holdsP T k ≠ tx
      · rw [if_pos (.inr h2), if_pos (.inr h2)]
      · rw [if_neg (by omega), if_neg (by omega)]
/-- A key that is held by tx. -/
theorem mid_hit {T : Tab} (hT : Tidy0 T) {tx j : Int} {l : List Int} (hh : T j = tx :: l) : midT T tx j j = tx :: l ∧ midT T tx (j + 1) = updT (midT T tx j) j l := by
  have hl : tx ∉ l := by have := hT.nod j; rw [hh] at this; exact (List.nodup_cons.1 this).1
  have e1 : midT T tx j j = tx :: l := by
    unfold midT
    rw [if_neg, hh]
    simp [holdsP, hh]
  refine ⟨e1, ?_⟩
  funext k
  by_cases e : k = j
  · subst e
    rw [updT_same]
    unfold midT
    rw [if_pos (.inl (by omega)), hh]
    simp [filter_none hl]
  · rw [updT_other _ _ e]
    unfold midT
    by_cases h1 : k < j
    · rw [if_pos (.inl (by omega)), if_pos (.inl h1)]
    · by_cases h2 : holdsP T k ≠ tx
      · rw [if_pos (.inr h2), if_pos (.inr h2)]
      · rw [if_neg (by omega), if_neg (by omega)]

section
variable {T : Tab} {h wa : Int → Option Int} {ln : Int → List Int}
/-- Nobody is next. -/
theorem Rep.empty (R : Rep T h wa ln) {j x : Int} (hj : T j = [x]) : Rep (updT T j []) (updT h j none) wa ln := by
  have ht : ∀ k, (updT T j [] k).tail = (T k).tail := by
    intro k
    by_cases e : k = j
    · subst e; rw [updT_same, hj]; rfl
    · rw [updT_other _ _ e]
  refine ⟨fun k => ?_, fun y => ?_, fun k => ?_⟩
  · by_cases e : k = j
    · subst e; rw [updT_same, updT_same]; rfl
    · rw [updT_other _ _ e, updT_other _ _ e]; exact R.h k
  · rw [waits_mem (T := updT T j []) (T' := T) (fun k => by rw [ht k])]; exact R.wa y
  · rw [ht k]; exact R.ln k
/-- One is next. -/
theorem Rep.next (R : Rep T h wa ln) (hT : Tidy0 T) {j x f : Int} {l : List Int} (hj : T j = x :: f :: l) : Rep (updT T j (f :: l)) (updT (updT h j none) j (some f)) (updT wa f none) (updT ln j ((ln j).filter (fun y => y != f))) := by
  have hn := hT.nod j
  rw [hj] at hn
  have hfl : f ∉ l := (List.nodup_cons.1 (List.nodup_cons.1 hn).2).1
  have hff : ∀ k, f ∈ (T k).tail → k = j := fun k hk => hT.one k j f hk (by rw [hj]; simp)
  refine ⟨fun k => ?_, fun y => ?_, fun k => ?_⟩
  · by_cases e : k = j
    · subst e; rw [updT_same, updT_same]; rfl
    · rw [updT_other _ _ e, updT_other _ _ e, updT_other _ _ e]; exact R.h k
  · by_cases e : y = f
    · subst e
      have : waitsP (updT T j (y :: l)) y = -1 := by
        unfold waitsP
        rw [List.find?_eq_none.2]
        · rfl
        · intro k _
          by_cases ek : k = j
          · subst ek; rw [updT_same]; simp [hfl]
          · rw [updT_other _ _ ek]; simpa using fun hk => ek (hff k hk)
      rw [this, updT_same]
      exact ⟨rfl, by simp⟩
    · rw [updT_other _ _ e, waits_mem (T := updT T j (f :: l)) (T' := T) (fun k => ?_)]
      · exact R.wa y
      · by_cases ek : k = j
        · subst ek; rw [updT_same, hj]; simp [e]
        · rw [updT_other _ _ ek]
  · by_cases e : k = j
    · subst e
      rw [updT_same, updT_same, R.ln k, hj]
      simp [filter_none hfl]
    · rw [updT_other _ _ e, updT_other _ _ e]; exact R.ln k
end

/-- Who holds a key by that, among the keys below j. -/
def outTo (T : Tab) (tx : Int) (j : Nat) : List (Int × Int) := (keysP.take j).flatMap (outOf T tx)
theorem keysP_get {j : Nat} (h : j < 10) : keysP[j]? = some (j : Int) := by
  match j, h with
  | 0, _ => rfl | 1, _ => rfl | 2, _ => rfl | 3, _ => rfl | 4, _ => rfl | 5, _ => rfl | 6, _ => rfl | 7, _ => rfl | 8, _ => rfl | 9, _ => rfl
theorem outTo_step (T : Tab) (tx : Int) {j : Nat} (h : j < 10) : outTo T tx (j + 1) = outTo T tx j ++ outOf T tx j := by
  unfold outTo
  rw [List.take_add_one, keysP_get h]
  simp
theorem outTo_end (T : Tab) (tx : Int) : outTo T tx 10 = outP T tx := rfl
theorem outTo_length (T : Tab) (tx : Int) : ∀ j, j ≤ 10 → (outTo T tx j).length ≤ j
  | 0, _ => by simp [outTo]
  | j + 1, h => by
    have := outTo_length T tx j (by omega)
    rw [outTo_step T tx (by omega), List.length_append]
    have : (outOf T tx j).length ≤ 1 := by unfold outOf; split <;> simp
    omega
theorem outOf_skip {T : Tab} {tx j : Int} (hh : holdsP T j ≠ tx ∨ T j = []) : outOf T tx j = [] := by
  unfold outOf
  rw [if_neg]
  rintro ⟨h1, h2⟩
  rcases hh with hh | hh
  · exact hh h1
  · exact h2 (by simp [dropP, hh])
theorem outOf_none {T : Tab} {tx j : Int} (hh : T j = [tx]) : outOf T tx j = [] := by
  unfold outOf
  rw [if_neg]
  rintro ⟨_, h2⟩
  exact h2 (by simp [dropP, hh])
theorem outOf_next {T : Tab} (hT : Tidy0 T) {tx j f : Int} {l : List Int} (hh : T j = tx :: f :: l) : outOf T tx j = [(j, f)] := by
  have hn := hT.nod j
  rw [hh] at hn
  have e : dropP T tx j = f :: l := by
    unfold dropP
    rw [hh, List.filter_cons, if_neg (by simp)]
    exact filter_none (List.nodup_cons.1 hn).1
  unfold outOf
  rw [if_pos ⟨by simp [holdsP, hh], by rw [e]; simp⟩]
  simp [holdsP, e]

end Go.Proofs.YtjefgmeejhakbaaDoor
