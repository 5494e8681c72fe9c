

/- Plain: who must be ahead of whom, and the line that comes of it; a line is one, if there is one. -/
namespace Go.Proofs.YtjefgmeejhakbaaGreatDoor
abbrev Opp := Int × Int × Bool × Int
def opBad (o : Opp) : Bool := decide (o.1 < 1 ∨ o.2.2.2 < 0 ∨ ¬ (0 ≤ o.2.1 ∧ o.2.1 < 10))
def wStep (key : Int) (w : List Int) (o : Opp) : List Int := if o.2.2.1 = true ∧ o.2.1 = key ∧ w.getLast? ≠ some o.1 then w ++ [o.1] else w
def writersP (l : List Opp) (key : Int) : List Int := l.foldl (wStep key) []
def conP : List Int → List (Int × Int)
  | a :: b :: r => (a, b) :: conP (b :: r)
  | _ => []
def firstAt (x : Int) : List Int → Option Nat
  | [] => none
  | a :: r => if a = x then some 0 else (firstAt x r).map (· + 1)
def readP (w : List Int) (o : Opp) : Option (List (Int × Int)) :=
  if o.2.2.2 = 0 then some ((w[0]?).toList.map (fun x => (o.1, x)))
  else (firstAt o.2.2.2 w).map (fun i => (o.2.2.2, o.1) :: (w[i + 1]?).toList.map (fun x => (o.1, x)))
def opPairs (l : List Opp) (o : Opp) : Option (List (Int × Int)) := (if o.2.2.1 = true then some [] else readP (writersP l o.2.1) o).map (fun r => conP (writersP l o.2.1) ++ r)
theorem wStep_mem {key : Int} {w : List Int} {o : Opp} {x : Int} (h : x ∈ wStep key w o) : x ∈ w ∨ x = o.1 := by
  unfold wStep at h
  split at h
  · rw [List.mem_append, List.mem_singleton] at h; exact h
  · exact .inl h
theorem foldl_mem (key : Int) : ∀ (l : List Opp) (w : List Int) (x : Int), x ∈ l.foldl (wStep key) w → x ∈ w ∨ ∃ o ∈ l, o.1 = x
  | [], w, x, h => .inl h
  | o :: r, w, x, h => by
    rcases foldl_mem key r (wStep key w o) x h with h | ⟨o', ho, e⟩
    · rcases wStep_mem h with h | h
      · exact .inl h
      · exact .inr ⟨o, by simp, h.symm⟩
    · exact .inr ⟨o', by simp [ho], e⟩
theorem writers_tx {l : List Opp} {key x : Int} (h : x ∈ writersP l key) : ∃ o ∈ l, o.1 = x := (foldl_mem key l [] x h).resolve_left (by simp)
theorem conP_mem : ∀ (w : List Int) (a b : Int), (a, b) ∈ conP w → a ∈ w ∧ b ∈ w
  | [], a, b, h => by simp [conP] at h
  | [_], a, b, h => by simp [conP] at h
  | x :: y :: r, a, b, h => by
    rw [conP, List.mem_cons] at h
    rcases h with h | h
    · injection h with h1 h2; subst h1; subst h2; simp
    · have := conP_mem (y :: r) a b h
      exact ⟨List.mem_cons_of_mem _ this.1, List.mem_cons_of_mem _ this.2⟩
theorem firstAt_mem : ∀ (w : List Int) (x : Int) (i : Nat), firstAt x w = some i → x ∈ w
  | [], x, i, h => by simp [firstAt] at h
  | a :: r, x, i, h => by
    rw [firstAt] at h
    by_cases e : a = x
    · simp [e]
    · rw [if_neg e] at h
      cases hf : firstAt x r with
      | none => rw [hf] at h; simp at h
      | some j => exact List.mem_cons_of_mem _ (firstAt_mem r x j hf)
theorem opPairs_tx {l : List Opp} {o : Opp} (ho : o ∈ l) {p : List (Int × Int)} (h : opPairs l o = some p) {a b : Int} (hab : (a, b) ∈ p) : (∃ o ∈ l, o.1 = a) ∧ ∃ o ∈ l, o.1 = b := by
  unfold opPairs at h
  cases hr : (if o.2.2.1 = true then some [] else readP (writersP l o.2.1) o) with
  | none => rw [hr] at h; simp at h
  | some r =>
    rw [hr] at h
    simp only [Option.map_some, Option.some.injEq] at h
    subst h
    rcases List.mem_append.1 hab with hc | hc
    · have := conP_mem _ a b hc
      exact ⟨writers_tx this.1, writers_tx this.2⟩
    · split at hr
      · cases hr; simp at hc
      · unfold readP at hr
        split at hr
        · cases hr
          rw [List.mem_map] at hc
          obtain ⟨x, hx, e⟩ := hc
          injection e with e1 e2
          subst e1; subst e2
          exact ⟨⟨o, ho, rfl⟩, writers_tx (List.mem_of_getElem? (by simpa using hx))⟩
        · cases hf : firstAt o.2.2.2 (writersP l o.2.1) with
          | none => rw [hf] at hr; simp at hr
          | some i =>
            rw [hf] at hr
            simp only [Option.map_some, Option.some.injEq] at hr
            subst hr
            rcases List.mem_cons.1 hc with e | hc
            · injection e with e1 e2
              subst e1; subst e2
              exact ⟨writers_tx (firstAt_mem _ _ _ hf), ⟨o, ho, rfl⟩⟩
            · rw [List.mem_map] at hc
              obtain ⟨x, hx, e⟩ := hc
              injection e with e1 e2
              subst e1; subst e2
              exact ⟨⟨o, ho, rfl⟩, writers_tx (List.mem_of_getElem? (by simpa using hx))⟩
def lt2 (a b : Int × Int) : Prop := a.1 < b.1 ∨ a.1 = b.1 ∧ a.2 < b.2
theorem lt2_trans {a b c : Int × Int} (h : lt2 a b) (k : lt2 b c) : lt2 a c := by unfold lt2 at *; omega
theorem lt2_irrefl (a : Int × Int) : ¬ lt2 a a := by unfold lt2; omega
theorem lt2_total (a b : Int × Int) : lt2 a b ∨ a = b ∨ lt2 b a := by
  obtain ⟨a1, a2⟩ := a
  obtain ⟨b1, b2⟩ := b
  simp only [lt2, Prod.mk.injEq]
  omega
theorem rising_ext : ∀ (l m : List (Int × Int)), l.Pairwise lt2 → m.Pairwise lt2 → (∀ x, x ∈ l ↔ x ∈ m) → l = m
  | [], m, _, _, h => by
    cases m with
    | nil => rfl
    | cons b r => have := (h b).2 (by simp); simp at this
  | a :: l, m, hl, hm, h => by
    cases m with
    | nil => have := (h a).1 (by simp); simp at this
    | cons b m =>
      obtain ⟨hl1, hl2⟩ := List.pairwise_cons.1 hl
      obtain ⟨hm1, hm2⟩ := List.pairwise_cons.1 hm
      have e : a = b := by
        rcases lt2_total a b with e | e | e
        · rcases List.mem_cons.1 ((h a).1 (by simp)) with e2 | e2
          · exact e2
          · exact absurd (lt2_trans e (hm1 a e2)) (lt2_irrefl a)
        · exact e
        · rcases List.mem_cons.1 ((h b).2 (by simp)) with e2 | e2
          · exact e2.symm
          · exact absurd (lt2_trans e (hl1 b e2)) (lt2_irrefl b)
      subst e
      rw [rising_ext l m hl2 hm2 (fun x => ?_)]
      constructor
      · intro hx
        rcases List.mem_cons.1 ((h x).1 (List.mem_cons_of_mem _ hx)) with e | e
        · subst e; exact absurd (hl1 x hx) (lt2_irrefl x)
        · exact e
      · intro hx
        rcases List.mem_cons.1 ((h x).2 (List.mem_cons_of_mem _ hx)) with e | e
        · subst e; exact absurd (hm1 x hx) (lt2_irrefl x)
        · exact e
def freeB (E : List (Int × Int)) (left : List Int) (x : Int) : Bool := E.all (fun e => !(e.2 == x && left.contains e.1))
def leastP : List Int → Option Int
  | [] => none
  | a :: r => match leastP r with
    | none => some a
    | some b => some (if a ≤ b then a else b)
theorem leastP_none {l : List Int} : leastP l = none ↔ l = [] := by
  cases l with
  | nil => simp [leastP]
  | cons a r =>
    simp only [leastP]
    cases leastP r <;> simp
theorem leastP_some : ∀ (l : List Int) (x : Int), leastP l = some x → x ∈ l ∧ ∀ y ∈ l, x ≤ y
  | [], x, h => by simp [leastP] at h
  | a :: r, x, h => by
    rw [leastP] at h
    cases hr : leastP r with
    | none =>
      rw [hr] at h
      have e := leastP_none.1 hr
      subst e
      simp only [Option.some.injEq] at h
      subst h
      simp
    | some b =>
      rw [hr] at h
      simp only [Option.some.injEq] at h
      obtain ⟨h1, h2⟩ := leastP_some r b hr
      by_cases e : a ≤ b
      · rw [if_pos e] at h
        subst h
        refine ⟨by simp, fun y hy => ?_⟩
        rcases List.mem_cons.1 hy with rfl | hy
        · exact Int.le_refl _
        · exact Int.le_trans e (h2 y hy)
      · rw [if_neg e] at h
        subst h
        refine ⟨List.mem_cons_of_mem _ h1, fun y hy => ?_⟩
        rcases List.mem_cons.1 hy with rfl | hy
        · omega
        · exact h2 y hy
theorem least_of {l : List Int} {x : Int} (hx : x ∈ l) (hl : ∀ y ∈ l, x ≤ y) : leastP l = some x := by
  cases h : leastP l with
  | none => rw [leastP_none.1 h] at hx; simp at hx
  | some z =>
    obtain ⟨h1, h2⟩ := leastP_some l z h
    have := hl z h1
    have := h2 x hx
    rw [show z = x by omega]
def lineP (E : List (Int × Int)) : Nat → List Int → Option (List Int)
  | 0, _ => some []
  | n + 1, left => if left = [] then some [] else match leastP (left.filter (freeB E left)) with
    | none => none
    | some x => (lineP E n (left.filter (fun y => y != x))).map (fun r => x :: r)
theorem filter_lt {left : List Int} {x : Int} (hx : x ∈ left) : (left.filter (fun y => y != x)).length < left.length := by
  refine List.length_filter_lt_length_iff_exists.2 ⟨x, hx, by simp⟩
def Before (out : List Int) (a b : Int) : Prop := ∃ p q, out = p ++ b :: q ∧ a ∈ p
theorem line_ok (E : List (Int × Int)) : ∀ (n : Nat) (left out : List Int), left.length ≤ n → left.Nodup → lineP E n left = some out → (∀ x, x ∈ out ↔ x ∈ left) ∧ out.Nodup ∧ ∀ a b, (a, b) ∈ E → a ≠ b → a ∈ left → b ∈ left → Before out a b
  | 0, left, out, hl, hn, h => by
    have e : left = [] := List.eq_nil_of_length_eq_zero (by omega)
    subst e
    cases h
    exact ⟨by simp, by simp, fun a b _ _ ha => by simp at ha⟩
  | n + 1, left, out, hl, hn, h => by
    rw [lineP] at h
    by_cases e : left = []
    · rw [if_pos e] at h
      subst e
      cases h
      exact ⟨by simp, by simp, fun a b _ _ ha => by simp at ha⟩
    · rw [if_neg e] at h
      cases hb : leastP (left.filter (freeB E left)) with
      | none => rw [hb] at h; simp at h
      | some x =>
        rw [hb] at h
        simp only at h
        obtain ⟨hx1, hx2⟩ := leastP_some _ _ hb
        have hxl := (List.mem_filter.1 hx1).1
        have hxf := (List.mem_filter.1 hx1).2
        cases hr : lineP E n (left.filter (fun y => y != x)) with
        | none => rw [hr] at h; simp at h
        | some r =>
          rw [hr] at h
          simp only [Option.map_some, Option.some.injEq] at h
          subst h
          have hlt := filter_lt hxl
          obtain ⟨i1, i2, i3⟩ := line_ok E n _ r (by omega) (hn.sublist List.filter_sublist) hr
          refine ⟨fun y => ?_, List.nodup_cons.2 ⟨fun hxr => ?_, i2⟩, fun a b hab hne ha hb' => ?_⟩
          · rw [List.mem_cons, i1 y, List.mem_filter]
            constructor
            · rintro (rfl | h)
              · exact hxl
              · exact h.1
            · intro hy
              by_cases e : y = x
              · exact .inl e
              · exact .inr ⟨hy, by simpa using e⟩
          · have := (List.mem_filter.1 ((i1 x).1 hxr)).2
            simp at this
          · by_cases ebx : b = x
            · subst ebx
              exfalso
              have := List.all_eq_true.1 hxf (a, b) hab
              simp [ha] at this
            · have hbr : b ∈ r := (i1 b).2 (List.mem_filter.2 ⟨hb', by simpa using ebx⟩)
              by_cases eax : a = x
              · subst eax
                obtain ⟨p, q, hpq⟩ := List.append_of_mem hbr
                exact ⟨a :: p, q, by rw [hpq]; rfl, by simp⟩
              · obtain ⟨p, q, hpq, hap⟩ := i3 a b hab hne (List.mem_filter.2 ⟨ha, by simpa using eax⟩) (List.mem_filter.2 ⟨hb', by simpa using ebx⟩)
                exact ⟨x :: p, q, by rw [hpq]; rfl, List.mem_cons_of_mem _ hap⟩
end Go.Proofs.YtjefgmeejhakbaaGreatDoor
