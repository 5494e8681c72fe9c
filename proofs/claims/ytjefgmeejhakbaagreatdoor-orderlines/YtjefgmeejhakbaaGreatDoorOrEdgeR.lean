/- Plain: the twos as a set, in order, each once. -/
import Derived.Test.YtjefgmeejhakbaaGreatDoorOrLineR
namespace Go.Proofs.YtjefgmeejhakbaaGreatDoor
def Two (l : List Opp) (a b : Int) : Prop := (∃ o ∈ l, (a, b) ∈ conP (writersP l o.2.1)) ∨ ∃ o ∈ l, o.2.2.1 = false ∧ ∃ p, readP (writersP l o.2.1) o = some p ∧ (a, b) ∈ p
def IsEdges (l : List Opp) (d : List (Int × Int)) : Prop := d.Pairwise lt2 ∧ ∀ a b, (a, b) ∈ d ↔ a ≠ b ∧ Two l a b
def badRead (l : List Opp) (o : Opp) : Bool := !o.2.2.1 && (readP (writersP l o.2.1) o).isNone
theorem edges_one {l : List Opp} {d e : List (Int × Int)} (h : IsEdges l d) (k : IsEdges l e) : d = e :=
  rising_ext d e h.1 k.1 (fun ⟨a, b⟩ => by rw [h.2 a b, k.2 a b])
theorem edges_nodup {l : List Opp} {d : List (Int × Int)} (h : IsEdges l d) : d.Nodup := List.Pairwise.imp (fun {a b} hab (e : a = b) => by subst e; exact lt2_irrefl a hab) h.1
theorem edges_ne {l : List Opp} {d : List (Int × Int)} (h : IsEdges l d) (a b : Int) (hab : (a, b) ∈ d) : a ≠ b := ((h.2 a b).1 hab).1
theorem readP_tx {l : List Opp} {o : Opp} (ho : o ∈ l) (hr : o.2.2.1 = false) {p : List (Int × Int)} (h : readP (writersP l o.2.1) o = some p) {a b : Int} (hab : (a, b) ∈ p) : (∃ o ∈ l, o.1 = a) ∧ ∃ o ∈ l, o.1 = b := by
  refine opPairs_tx (p := conP (writersP l o.2.1) ++ p) ho ?_ (List.mem_append.2 (.inr hab))
  unfold opPairs
  rw [hr, h]
  rfl
theorem two_tx {l : List Opp} {a b : Int} (h : Two l a b) : a ∈ txsP l ∧ b ∈ txsP l := by
  rcases h with ⟨o, ho, h⟩ | ⟨o, ho, hr, p, hp, h⟩
  · have := conP_mem _ a b h
    exact ⟨mem_txs.2 (writers_tx this.1), mem_txs.2 (writers_tx this.2)⟩
  · have := readP_tx ho hr hp h
    exact ⟨mem_txs.2 this.1, mem_txs.2 this.2⟩
theorem edges_tx {l : List Opp} {d : List (Int × Int)} (h : IsEdges l d) {a b : Int} (hab : (a, b) ∈ d) : a ∈ txsP l ∧ b ∈ txsP l := two_tx ((h.2 a b).1 hab).2
theorem foldl_key (key : Int) : ∀ (l : List Opp) (w : List Int) (x : Int), x ∈ l.foldl (wStep key) w → x ∈ w ∨ ∃ o ∈ l, o.2.1 = key
  | [], w, x, h => .inl h
  | o :: r, w, x, h => by
    rcases foldl_key key r (wStep key w o) x h with h | ⟨o', ho, e⟩
    · unfold wStep at h
      split at h
      · rename_i hc; exact .inr ⟨o, by simp, hc.2.1⟩
      · exact .inl h
    · exact .inr ⟨o', by simp [ho], e⟩
theorem writers_key {l : List Opp} {key x : Int} (h : x ∈ writersP l key) : ∃ o ∈ l, o.2.1 = key := (foldl_key key l [] x h).resolve_left (by simp)
def readsP (l : List Opp) (o : Opp) : List (Int × Int) := if o.2.2.1 = true then [] else (readP (writersP l o.2.1) o).getD []
def neP (e : Int × Int) : Bool := e.1 != e.2
def notesP (l : List Opp) : List (Int × Int) := ((List.range 10).flatMap (fun k => (conP (writersP l (k : Nat))).filter neP)) ++ l.flatMap (fun o => (readsP l o).filter neP)
theorem mem_notes {l : List Opp} (hl : ∀ o ∈ l, opBad o = false) (a b : Int) : (a, b) ∈ notesP l ↔ a ≠ b ∧ Two l a b := by
  unfold notesP Two
  simp only [List.mem_append, List.mem_flatMap, List.mem_filter, List.mem_range, neP, bne_iff_ne, ne_eq]
  constructor
  · rintro (⟨k, hk, h1, h2⟩ | ⟨o, ho, h1, h2⟩)
    · obtain ⟨o, ho, e⟩ := writers_key (conP_mem _ a b h1).1
      exact ⟨h2, .inl ⟨o, ho, by rw [e]; exact h1⟩⟩
    · refine ⟨h2, .inr ⟨o, ho, ?_⟩⟩
      unfold readsP at h1
      by_cases hw : o.2.2.1 = true
      · rw [if_pos hw] at h1; simp at h1
      · rw [if_neg hw] at h1
        refine ⟨by simpa using hw, ?_⟩
        cases hr : readP (writersP l o.2.1) o with
        | none => rw [hr] at h1; simp at h1
        | some p => rw [hr] at h1; exact ⟨p, rfl, h1⟩
  · rintro ⟨h2, ⟨o, ho, h1⟩ | ⟨o, ho, hw, p, hp, h1⟩⟩
    · have hb := hl o ho
      unfold opBad at hb
      simp only [decide_eq_false_iff_not, not_or, Decidable.not_not] at hb
      exact .inl ⟨o.2.1.toNat, by omega, by rw [show ((o.2.1.toNat : Nat) : Int) = o.2.1 by omega]; exact h1, h2⟩
    · refine .inr ⟨o, ho, ?_, h2⟩
      unfold readsP
      rw [if_neg (by simp [hw]), hp]
      exact h1
def compP : List (Int × Int) → List (Int × Int)
  | a :: b :: r => if a = b then compP (b :: r) else a :: compP (b :: r)
  | l => l
def le2 (a b : Int × Int) : Prop := ¬ lt2 b a
theorem le2_iff (a b : Int × Int) : le2 a b ↔ lt2 a b ∨ a = b := by
  unfold le2
  rcases lt2_total a b with h | h | h
  · exact ⟨fun _ => .inl h, fun _ k => lt2_irrefl a (lt2_trans h k)⟩
  · exact ⟨fun _ => .inr h, fun _ k => by subst h; exact lt2_irrefl a k⟩
  · exact ⟨fun k => absurd h k, fun k => by rcases k with k | k
                                            · exact absurd (lt2_trans h k) (lt2_irrefl b)
                                            · subst k; exact lt2_irrefl a⟩
theorem mem_comp (x : Int × Int) : ∀ l, x ∈ compP l ↔ x ∈ l
  | [] => by simp [compP]
  | [a] => by simp [compP]
  | a :: b :: r => by
    have ih := mem_comp x (b :: r)
    rw [compP]
    by_cases e : a = b
    · rw [if_pos e, ih, e]; simp
    · rw [if_neg e, List.mem_cons, ih]; simp
theorem comp_rising : ∀ l, l.Pairwise le2 → (compP l).Pairwise lt2
  | [], _ => by simp [compP]
  | [a], _ => by simp [compP]
  | a :: b :: r, h => by
    obtain ⟨h1, h2⟩ := List.pairwise_cons.1 h
    have ih := comp_rising (b :: r) h2
    rw [compP]
    by_cases e : a = b
    · rw [if_pos e]; exact ih
    · rw [if_neg e, List.pairwise_cons]
      refine ⟨fun x hx => ?_, ih⟩
      have hx := (mem_comp x (b :: r)).1 hx
      have hab : lt2 a b := ((le2_iff a b).1 (h1 b (by simp))).resolve_right e
      rcases List.mem_cons.1 hx with rfl | hx
      · exact hab
      · rcases (le2_iff b x).1 ((List.pairwise_cons.1 h2).1 x hx) with k | k
        · exact lt2_trans hab k
        · subst k; exact hab
theorem comp_edges {l : List Opp} (hl : ∀ o ∈ l, opBad o = false) {m : List (Int × Int)} (hm : m.Perm (notesP l)) (hs : m.Pairwise le2) : IsEdges l (compP m) :=
  ⟨comp_rising m hs, fun a b => by rw [mem_comp, hm.mem_iff, mem_notes hl]⟩
theorem conP_length : ∀ w : List Int, (conP w).length ≤ w.length
  | [] => Nat.le_refl _
  | [_] => Nat.zero_le _
  | a :: b :: r => by have := conP_length (b :: r); simp [conP] at *; omega
theorem foldl_len (key : Int) : ∀ (l : List Opp) (w : List Int), (l.foldl (wStep key) w).length ≤ w.length + l.length
  | [], w => Nat.le_refl _
  | o :: r, w => by
    have := foldl_len key r (wStep key w o)
    have h2 : (wStep key w o).length ≤ w.length + 1 := by unfold wStep; split <;> simp
    simp only [List.foldl_cons, List.length_cons]
    omega
theorem writers_len (l : List Opp) (key : Int) : (writersP l key).length ≤ l.length := by have := foldl_len key l []; simpa [writersP] using this
theorem readP_len {w : List Int} {o : Opp} {p : List (Int × Int)} (h : readP w o = some p) : p.length ≤ 2 := by
  unfold readP at h
  split at h
  · cases h; cases w[0]? <;> simp
  · cases hf : firstAt o.2.2.2 w with
    | none => rw [hf] at h; simp at h
    | some i => rw [hf] at h; simp only [Option.map_some, Option.some.injEq] at h; subst h; cases w[i + 1]? <;> simp
theorem readsP_len (l : List Opp) (o : Opp) : (readsP l o).length ≤ 2 := by
  unfold readsP
  split
  · simp
  · cases hr : readP (writersP l o.2.1) o with
    | none => simp
    | some p => exact readP_len hr
theorem flat_len {α β : Type} (f : α → List β) (c : Nat) : ∀ l : List α, (∀ x ∈ l, (f x).length ≤ c) → (l.flatMap f).length ≤ c * l.length
  | [], _ => by simp
  | a :: r, h => by
    have := flat_len f c r (fun x hx => h x (List.mem_cons_of_mem _ hx))
    have := h a (by simp)
    simp only [List.flatMap_cons, List.length_append, List.length_cons, Nat.mul_add, Nat.mul_one]
    omega
theorem notes_len (l : List Opp) : (notesP l).length ≤ 12 * l.length := by
  unfold notesP
  rw [List.length_append]
  have h1 := flat_len (fun k => (conP (writersP l ((k : Nat) : Int))).filter neP) l.length (List.range 10) (fun k _ => Nat.le_trans (List.length_filter_le _ _) (Nat.le_trans (conP_length _) (writers_len l _)))
  have h2 := flat_len (fun o => (readsP l o).filter neP) 2 l (fun o _ => Nat.le_trans (List.length_filter_le _ _) (readsP_len l o))
  rw [List.length_range] at h1
  omega
theorem firstAt_append (x tx : Int) : ∀ w : List Int, firstAt x (w ++ [tx]) = match firstAt x w with
    | some i => some i
    | none => if tx = x then some w.length else none
  | [] => by simp [firstAt]
  | a :: r => by
    have ih := firstAt_append x tx r
    rw [List.cons_append, firstAt, firstAt]
    by_cases e : a = x
    · simp [e]
    · rw [if_neg e, if_neg e, ih]
      cases firstAt x r with
      | some i => rfl
      | none => by_cases e2 : tx = x <;> simp [e2]
theorem firstAt_lt {x : Int} : ∀ {w : List Int} {i : Nat}, firstAt x w = some i → i < w.length
  | [], i, h => by simp [firstAt] at h
  | a :: r, i, h => by
    rw [firstAt] at h
    by_cases e : a = x
    · rw [if_pos e] at h; cases h; simp
    · rw [if_neg e] at h
      cases hf : firstAt x r with
      | none => rw [hf] at h; simp at h
      | some j =>
        rw [hf] at h
        have := firstAt_lt hf
        simp at h
        simp; omega
theorem firstAt_get {x : Int} : ∀ {w : List Int} {i : Nat}, firstAt x w = some i → w[i]? = some x ∧ ∀ j, j < i → w[j]? ≠ some x
  | [], i, h => by simp [firstAt] at h
  | a :: r, i, h => by
    rw [firstAt] at h
    by_cases e : a = x
    · rw [if_pos e] at h; cases h; exact ⟨by simp [e], fun j hj => by omega⟩
    · rw [if_neg e] at h
      cases hf : firstAt x r with
      | none => rw [hf] at h; simp at h
      | some j =>
        rw [hf] at h
        simp at h
        subst h
        obtain ⟨h1, h2⟩ := firstAt_get hf
        refine ⟨by simpa using h1, fun k hk => ?_⟩
        cases k with
        | zero => simpa using e
        | succ k => simpa using h2 k (by omega)
theorem firstAt_none {x : Int} : ∀ {w : List Int}, firstAt x w = none → ∀ j : Nat, w[j]? ≠ some x
  | [], _, j => by simp
  | a :: r, h, j => by
    rw [firstAt] at h
    by_cases e : a = x
    · rw [if_pos e] at h; cases h
    · rw [if_neg e] at h
      cases hf : firstAt x r with
      | some j => rw [hf] at h; simp at h
      | none =>
        cases j with
        | zero => simpa using e
        | succ k => simpa using firstAt_none hf k
theorem firstAt_of {x : Int} {w : List Int} {i : Nat} (h1 : w[i]? = some x) (h2 : ∀ j, j < i → w[j]? ≠ some x) : firstAt x w = some i := by
  cases h : firstAt x w with
  | none => exact absurd h1 (firstAt_none h i)
  | some k =>
    obtain ⟨g1, g2⟩ := firstAt_get h
    have : ¬ i < k := fun hh => g2 i hh h1
    have : ¬ k < i := fun hh => h2 k hh g1
    congr 1; omega
end Go.Proofs.YtjefgmeejhakbaaGreatDoor
