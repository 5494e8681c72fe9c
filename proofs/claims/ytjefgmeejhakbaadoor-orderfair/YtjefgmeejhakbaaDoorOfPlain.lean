/- Plain: where each one stands in a line, and whether a line fits. -/
import Derived.Test.YtjefgmeejhakbaaDoorOrAre
namespace Go.Proofs.YtjefgmeejhakbaaDoor

/-- Where one stands, by the first i. -/
def atTo (p : List Int) : Nat → Int → Option Int
  | 0, _ => none
  | i + 1, y => if p[i]? = some y then some ((i : Int) + 1) else atTo p i y
theorem atTo_of {p : List Int} (hp : p.Nodup) {k : Nat} {y : Int} (hk : p[k]? = some y) : ∀ i, k < i → atTo p i y = some ((k : Int) + 1)
  | 0, h => by omega
  | i + 1, h => by
    unfold atTo
    by_cases e : p[i]? = some y
    · rw [if_pos e]
      obtain ⟨h1, h2⟩ := List.getElem?_eq_some_iff.1 e
      obtain ⟨h3, h4⟩ := List.getElem?_eq_some_iff.1 hk
      have hpw := List.pairwise_iff_getElem.1 hp
      rcases Nat.lt_trichotomy i k with hik | rfl | hik
      · exact (hpw i k h1 h3 hik (h2.trans h4.symm)).elim
      · rfl
      · exact (hpw k i h3 h1 hik (h4.trans h2.symm)).elim
    · rw [if_neg e]
      refine atTo_of hp hk i ?_
      by_cases e2 : k = i
      · subst e2; exact (e hk).elim
      · omega
/-- Where one stands; 0: nowhere. -/
def atV (p : List Int) (y : Int) : Int := (atTo p p.length y).getD 0
theorem atTo_pos (p : List Int) (y v : Int) : ∀ i, atTo p i y = some v → 1 ≤ v ∧ v ≤ i
  | 0, h => by cases h
  | i + 1, h => by
    unfold atTo at h
    by_cases e : p[i]? = some y
    · rw [if_pos e] at h; cases h; omega
    · rw [if_neg e] at h
      have := atTo_pos p y v i h
      omega
theorem atV_le (p : List Int) (y : Int) : 0 ≤ atV p y ∧ atV p y ≤ p.length := by
  unfold atV
  cases h : atTo p p.length y with
  | none => simp
  | some v => have := atTo_pos p y v _ h; simp; omega
/-- Of a two: it is as it must be. -/
def fitB (p : List Int) (e : Int × Int) : Bool := !(atV p e.1 == 0 || atV p e.2 == 0 || decide (atV p e.1 ≥ atV p e.2))
def fitsP (E : List (Int × Int)) (p : List Int) : Bool := E.all (fitB p)

/-- A line fits. -/
theorem fits_line {l : List Opp} {E : List (Int × Int)} (hE : IsEdges l E) {out : List Int} (h : lineP E (txsP l).length (txsP l) = some out) : fitsP E out = true := by
  obtain ⟨h1, h2, h3⟩ := line_ok E _ _ out (Nat.le_refl _) (nodup_txs l) h
  unfold fitsP
  rw [List.all_eq_true]
  rintro ⟨a, b⟩ hab
  obtain ⟨ha, hb⟩ := edges_tx hE hab
  obtain ⟨p, q, e, hap⟩ := h3 a b hab (edges_ne hE a b hab) ha hb
  obtain ⟨i, hi, ei⟩ := List.getElem_of_mem hap
  have e1 : out[i]? = some a := by rw [e, List.getElem?_append_left hi, List.getElem?_eq_getElem hi, ei]
  have e2 : out[p.length]? = some b := by rw [e]; simp
  have l1 : i < out.length := (List.getElem?_eq_some_iff.1 e1).1
  have l2 : p.length < out.length := (List.getElem?_eq_some_iff.1 e2).1
  have v1 : atV out a = (i : Int) + 1 := by unfold atV; rw [atTo_of h2 e1 _ l1]; rfl
  have v2 : atV out b = (p.length : Int) + 1 := by unfold atV; rw [atTo_of h2 e2 _ l2]; rfl
  unfold fitB
  simp only [v1, v2]
  simp
  omega
/-- If there is none, none fits. -/
theorem fits_none {l : List Opp} {E : List (Int × Int)} (h : lineP E (txsP l).length (txsP l) = none) (p : List Int) : fitsP E p = false := by
  cases hf : fitsP E p with
  | false => rfl
  | true =>
    obtain ⟨m, h1, h2, h3⟩ := line_stuck E _ _ (Nat.le_refl _) h
    refine (no_line h1 h2 h3 (fun x => (atV p x).toNat) (fun a b hab => ?_)).elim
    have := List.all_eq_true.1 hf (a, b) hab
    unfold fitB at this
    simp at this
    have ha := atV_le p a
    show (atV p a).toNat < (atV p b).toNat
    omega

/-- All that did anything, of the first n numbers. -/
def hasTx (l : List Opp) (n : Nat) : Bool := l.any (fun o => o.1 == (n : Int) + 1)
def allTo (l : List Opp) : Nat → List Int
  | 0 => []
  | n + 1 => if hasTx l n = true then allTo l n ++ [(n : Int) + 1] else allTo l n
theorem mem_allTo {l : List Opp} {x : Int} : ∀ n, x ∈ allTo l n ↔ (∃ o ∈ l, o.1 = x) ∧ 1 ≤ x ∧ x ≤ n
  | 0 => by simp [allTo]; omega
  | n + 1 => by
    have ih := mem_allTo (l := l) (x := x) n
    unfold allTo
    by_cases h : hasTx l n = true
    · rw [if_pos h, List.mem_append, List.mem_singleton, ih]
      unfold hasTx at h
      rw [List.any_eq_true] at h
      obtain ⟨o, ho, e⟩ := h
      simp at e
      constructor
      · rintro (⟨h1, h2, h3⟩ | rfl)
        · exact ⟨h1, h2, by omega⟩
        · exact ⟨⟨o, ho, e⟩, by omega, by omega⟩
      · rintro ⟨h1, h2, h3⟩
        by_cases e2 : x = (n : Int) + 1
        · exact .inr e2
        · exact .inl ⟨h1, h2, by omega⟩
    · rw [if_neg h, ih]
      constructor
      · rintro ⟨h1, h2, h3⟩
        exact ⟨h1, h2, by omega⟩
      · rintro ⟨⟨o, ho, e⟩, h2, h3⟩
        refine ⟨⟨o, ho, e⟩, h2, ?_⟩
        by_cases e2 : x = (n : Int) + 1
        · exfalso
          apply h
          unfold hasTx
          rw [List.any_eq_true]
          exact ⟨o, ho, by simp [e, e2]⟩
        · omega
theorem nodup_allTo (l : List Opp) : ∀ n, (allTo l n).Nodup
  | 0 => List.nodup_nil
  | n + 1 => by
    unfold allTo
    split
    · refine List.nodup_append.2 ⟨nodup_allTo l n, by simp, fun a ha b hb e => ?_⟩
      have := ((mem_allTo (l := l) n).1 ha).2.2
      simp at hb
      omega
    · exact nodup_allTo l n
theorem allTo_len (l : List Opp) : ∀ n, (allTo l n).length ≤ n
  | 0 => Nat.le_refl _
  | n + 1 => by
    have := allTo_len l n
    unfold allTo
    split
    · simp; omega
    · omega
theorem len_of_same {a b : List Int} (ha : a.Nodup) (hb : b.Nodup) (h : ∀ x, x ∈ a ↔ x ∈ b) : a.length = b.length := ((List.perm_ext_iff_of_nodup ha hb).2 h).length_eq
/-- All stand in the line, once. -/
theorem line_len {l : List Opp} {E : List (Int × Int)} {out : List Int} (h : lineP E (txsP l).length (txsP l) = some out) (hl : ∀ o ∈ l, 1 ≤ o.1 ∧ o.1 ≤ 5) : out.length = (allTo l 5).length ∧ out.Nodup := by
  obtain ⟨h1, h2, h3⟩ := line_ok E _ _ out (Nat.le_refl _) (nodup_txs l) h
  refine ⟨len_of_same h2 (nodup_allTo l 5) (fun x => ?_), h2⟩
  rw [h1 x, mem_txs, mem_allTo]
  constructor
  · rintro ⟨o, ho, rfl⟩
    have := hl o ho
    exact ⟨⟨o, ho, rfl⟩, this.1, by simpa using this.2⟩
  · exact fun h => h.1

end Go.Proofs.YtjefgmeejhakbaaDoor
