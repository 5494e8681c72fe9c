/- Plain: tables of who holds a key and who waits for it, as lists; what Ask and Drop make of them; nobody waits for ever. -/
namespace Go.Proofs.YtjefgmeejhakbaaDoor

/-- Of each key who holds it, and then who waits for it. -/
abbrev Tab := Int → List Int

/-- Who holds a key (0: nobody). -/
def holdsP (T : Tab) (k : Int) : Int := (T k).headD 0
/-- The keys. -/
def keysP : List Int := [0, 1, 2, 3, 4, 5, 6, 7, 8, 9]
theorem mem_keysP {k : Int} : k ∈ keysP ↔ 0 ≤ k ∧ k < 10 := by
  simp only [keysP, List.mem_cons, List.not_mem_nil, or_false]; omega
/-- The key that one waits for (-1: none). -/
def waitsP (T : Tab) (x : Int) : Int := (keysP.find? (fun k => decide (x ∈ (T k).tail))).getD (-1)
/-- One list put in for another. -/
def updT {α : Type} (T : Int → α) (k : Int) (l : α) : Int → α := fun j => if j = k then l else T j
theorem updT_same {α : Type} (T : Int → α) (k : Int) (l : α) : updT T k l k = l := by simp [updT]
theorem updT_other {α : Type} (T : Int → α) {k j : Int} (l : α) (h : j ≠ k) : updT T k l j = T j := by simp [updT, h]

/-- What is asked of a table, but that nobody waits for ever. -/
structure Tidy0 (T : Tab) : Prop where
  rng : ∀ k, T k ≠ [] → 0 ≤ k ∧ k < 10
  pos : ∀ k x, x ∈ T k → 1 ≤ x ∧ x ≤ 9223372036854775807
  nod : ∀ k, (T k).Nodup
  one : ∀ k j x, x ∈ (T k).tail → x ∈ (T j).tail → k = j
/-- Nobody waits for ever, by r. -/
def Ranked (T : Tab) (r : Int → Nat) : Prop := ∀ k x, x ∈ (T k).tail → r (holdsP T k) < r x
/-- A table as Ask and Drop leave it. -/
structure Good (T : Tab) : Prop where
  tidy : Tidy0 T
  rank : ∃ r, Ranked T r

theorem Tidy0.key {T : Tab} (h : Tidy0 T) {k x : Int} (hx : x ∈ (T k).tail) : 0 ≤ k ∧ k < 10 :=
  h.rng k (fun e => by rw [e] at hx; simp at hx)

theorem waits_of_mem {T : Tab} (h : Tidy0 T) {k x : Int} (hx : x ∈ (T k).tail) : waitsP T x = k := by
  unfold waitsP
  cases hf : keysP.find? (fun k => decide (x ∈ (T k).tail)) with
  | none =>
    have := List.find?_eq_none.1 hf k (mem_keysP.2 (h.key hx))
    simp [hx] at this
  | some j =>
    have := List.find?_some hf
    exact h.one j k x (by simpa using this) hx
theorem mem_of_waits {T : Tab} {x : Int} (h0 : 0 ≤ waitsP T x) : x ∈ (T (waitsP T x)).tail := by
  unfold waitsP at *
  cases hf : keysP.find? (fun k => decide (x ∈ (T k).tail)) with
  | none => rw [hf] at h0; simp at h0
  | some j =>
    have := List.find?_some hf
    simpa using this
theorem waits_iff {T : Tab} (h : Tidy0 T) {k x : Int} : x ∈ (T k).tail ↔ waitsP T x = k ∧ 0 ≤ k :=
  ⟨fun hx => ⟨waits_of_mem h hx, (h.key hx).1⟩, fun ⟨e, h0⟩ => by have := mem_of_waits (T := T) (x := x) (by omega); rwa [e] at this⟩
theorem waits_cases (T : Tab) (x : Int) : waitsP T x = -1 ∨ (0 ≤ waitsP T x ∧ waitsP T x < 10) := by
  unfold waitsP
  cases hf : keysP.find? (fun k => decide (x ∈ (T k).tail)) with
  | none => exact .inl rfl
  | some j => exact .inr (mem_keysP.1 (List.mem_of_find?_eq_some hf))
theorem waits_none {T : Tab} (h : Tidy0 T) {x : Int} (hw : waitsP T x < 0) (k : Int) : x ∉ (T k).tail := fun hx => by
  have := waits_of_mem h hx
  have := h.key hx
  omega
theorem waits_none_iff {T : Tab} (h : Tidy0 T) {x : Int} : waitsP T x = -1 ↔ ∀ k, x ∉ (T k).tail := by
  constructor
  · intro e k; exact waits_none h (by omega) k
  · intro ha
    rcases waits_cases T x with e | ⟨e, _⟩
    · exact e
    · exact (ha _ (mem_of_waits e)).elim

theorem tail_ne {l : List Int} {x : Int} (h : x ∈ l.tail) : l ≠ [] := fun e => by rw [e] at h; simp at h
theorem head_mem {l : List Int} (h : l ≠ []) : l.headD 0 ∈ l := by cases l with | nil => exact (h rfl).elim | cons a r => simp
theorem holds_pos {T : Tab} (h : Tidy0 T) {k : Int} (hk : T k ≠ []) : 1 ≤ holdsP T k := (h.pos k _ (head_mem hk)).1
theorem holds_zero {T : Tab} (h : Tidy0 T) {k : Int} : holdsP T k = 0 ↔ T k = [] := by
  constructor
  · intro e
    rcases List.eq_nil_or_concat (T k) with h0 | _
    · exact h0
    · by_cases hk : T k = []
      · exact hk
      · have := holds_pos h hk; omega
  · intro e; simp [holdsP, e]
theorem holds_of_waits {T : Tab} (h : Tidy0 T) {x : Int} (h0 : 0 ≤ waitsP T x) : 1 ≤ holdsP T (waitsP T x) := holds_pos h (tail_ne (mem_of_waits h0))
theorem head_not_tail {l : List Int} (h : l.Nodup) : l.headD 0 ∉ l.tail ∨ l = [] := by
  cases l with
  | nil => exact .inr rfl
  | cons a r => exact .inl (by simpa using (List.nodup_cons.1 h).1)

/-- Sublists of a good table are one. -/
theorem Good.sub {T M : Tab} (h : Good T) (hs : ∀ k, (M k).Sublist (T k)) : Good M := by
  have ht : ∀ k, ((M k).tail).Sublist ((T k).tail) := fun k => (hs k).tail
  have hone : ∀ k j x, x ∈ (M k).tail → x ∈ (M j).tail → k = j := fun k j x hx hy => h.tidy.one k j x ((ht k).subset hx) ((ht j).subset hy)
  have hnod : ∀ k, (M k).Nodup := fun k => (h.tidy.nod k).sublist (hs k)
  refine ⟨⟨fun k hk => h.tidy.rng k (fun e => hk (by have := hs k; rw [e] at this; exact List.eq_nil_of_sublist_nil this)), fun k x hx => h.tidy.pos k x ((hs k).subset hx), hnod, hone⟩, ?_⟩
  obtain ⟨r, hr⟩ := h.rank
  have hm : Tidy0 M := ⟨fun k hk => h.tidy.rng k (fun e => hk (by have := hs k; rw [e] at this; exact List.eq_nil_of_sublist_nil this)), fun k x hx => h.tidy.pos k x ((hs k).subset hx), hnod, hone⟩
  refine ⟨fun x => if waitsP M x < 0 then 0 else r x + 1, fun k x hx => ?_⟩
  have hwx : waitsP M x = k := waits_of_mem hm hx
  have hk0 := (hm.key hx).1
  show (if waitsP M (holdsP M k) < 0 then 0 else r (holdsP M k) + 1) < (if waitsP M x < 0 then 0 else r x + 1)
  rw [if_neg (by omega : ¬ waitsP M x < 0)]
  by_cases hy : waitsP M (holdsP M k) < 0
  · rw [if_pos hy]; omega
  · rw [if_neg hy]
    have hne := tail_ne hx
    have hmem := mem_of_waits (T := M) (x := holdsP M k) (by omega)
    have hheadT : holdsP M k ∈ T k := (hs k).subset (head_mem hne)
    have hTk : T k ≠ [] := fun e => by rw [e] at hheadT; simp at hheadT
    obtain ⟨a, l, hal⟩ : ∃ a l, T k = a :: l := by
      cases hT : T k with
      | nil => exact (hTk hT).elim
      | cons a l => exact ⟨a, l, rfl⟩
    rw [hal] at hheadT
    rcases List.mem_cons.1 hheadT with e | e
    · have : r (holdsP T k) < r x := hr k x ((ht k).subset hx)
      have e2 : holdsP T k = holdsP M k := by rw [e]; simp [holdsP, hal]
      rw [e2] at this
      omega
    · have h1 : holdsP M k ∈ (T k).tail := by rw [hal]; exact e
      have h2 := h.tidy.one _ _ _ ((ht _).subset hmem) h1
      rw [h2] at hmem
      rcases head_not_tail (hnod k) with h3 | h3
      · exact (h3 hmem).elim
      · exact (hne h3).elim

/-- Whether one waits, from one to the next, for tx. -/
def reachP (T : Tab) (tx : Int) : Nat → Int → Bool
  | 0, _ => false
  | n + 1, x => if waitsP T x < 0 then false else if holdsP T (waitsP T x) = tx then true else reachP T tx n (holdsP T (waitsP T x))

/-- Those that one waits for, from one to the next. -/
theorem closed_of_reach {T : Tab} {tx : Int} {r : Int → Nat} (hr : Ranked T r) : ∀ (n : Nat) (x : Int), r x < n → x ≠ tx → reachP T tx n x = false →
    ∃ C : Int → Prop, C x ∧ ¬ C tx ∧ ∀ u, C u → 0 ≤ waitsP T u → C (holdsP T (waitsP T u))
  | 0, _, h, _, _ => by omega
  | n + 1, x, h, hne, hf => by
    by_cases hw : waitsP T x < 0
    · exact ⟨fun u => u = x, rfl, fun e => hne e.symm, fun u hu h0 => by cases hu; omega⟩
    · rw [reachP, if_neg hw] at hf
      by_cases hy : holdsP T (waitsP T x) = tx
      · rw [if_pos hy] at hf; cases hf
      · rw [if_neg hy] at hf
        have hlt := hr _ _ (mem_of_waits (T := T) (x := x) (by omega))
        obtain ⟨C, c1, c2, c3⟩ := closed_of_reach hr n _ (by omega) hy hf
        refine ⟨fun u => u = x ∨ C u, .inl rfl, fun e => e.elim (fun e => hne e.symm) c2, fun u hu h0 => ?_⟩
        rcases hu with rfl | hu
        · exact .inr c1
        · exact .inr (c3 u hu h0)

/-- One more that waits. -/
theorem Good.wait {T : Tab} {r : Int → Nat} {tx k : Int} (h : Good T) (hr : Ranked T r) (hk : T k ≠ []) (htx : 1 ≤ tx ∧ tx ≤ 9223372036854775807) (hw : waitsP T tx < 0) (hh : holdsP T k ≠ tx)
    (hc : reachP T tx (r (holdsP T k) + 1) (holdsP T k) = false) : Good (updT T k (T k ++ [tx])) := by
  have hno := waits_none h.tidy hw
  obtain ⟨a, l, hal⟩ : ∃ a l, T k = a :: l := by
    cases hT : T k with
    | nil => exact (hk hT).elim
    | cons a l => exact ⟨a, l, rfl⟩
  have hha : holdsP T k = a := by simp [holdsP, hal]
  have hnot : tx ∉ T k := by
    rw [hal]
    intro hm
    rcases List.mem_cons.1 hm with e | e
    · exact hh (by rw [hha, e])
    · exact hno k (by rw [hal]; exact e)
  have htail : (T k ++ [tx]).tail = (T k).tail ++ [tx] := by rw [hal]; simp
  have hsame : ∀ j, holdsP (updT T k (T k ++ [tx])) j = holdsP T j := by
    intro j
    by_cases e : j = k
    · subst e; simp [holdsP, updT_same, hal]
    · simp [holdsP, updT_other _ _ e]
  have hmem : ∀ j x, x ∈ (updT T k (T k ++ [tx]) j).tail → x ∈ (T j).tail ∨ (j = k ∧ x = tx) := by
    intro j x hx
    by_cases e : j = k
    · subst e
      rw [updT_same, htail, List.mem_append, List.mem_singleton] at hx
      exact hx.imp id (fun e => ⟨rfl, e⟩)
    · rw [updT_other _ _ e] at hx
      exact .inl hx
  refine ⟨⟨fun j hj => ?_, fun j x hx => ?_, fun j => ?_, fun j i x hx hy => ?_⟩, ?_⟩
  · by_cases e : j = k
    · subst e; exact h.tidy.rng j hk
    · rw [updT_other _ _ e] at hj; exact h.tidy.rng j hj
  · by_cases e : j = k
    · subst e
      rw [updT_same, List.mem_append, List.mem_singleton] at hx
      rcases hx with hx | rfl
      · exact h.tidy.pos j x hx
      · exact htx
    · rw [updT_other _ _ e] at hx; exact h.tidy.pos j x hx
  · by_cases e : j = k
    · subst e
      rw [updT_same]
      refine List.nodup_append.2 ⟨h.tidy.nod j, by simp, fun a ha b hb e => ?_⟩
      rw [List.mem_singleton] at hb
      subst hb
      subst e
      exact hnot ha
    · rw [updT_other _ _ e]; exact h.tidy.nod j
  · rcases hmem j x hx with h1 | ⟨rfl, rfl⟩ <;> rcases hmem i x hy with h2 | ⟨h3, h4⟩
    · exact h.tidy.one j i x h1 h2
    · subst h4; exact (hno _ h1).elim
    · exact (hno _ h2).elim
    · exact h3.symm
  · obtain ⟨C, c1, c2, c3⟩ := closed_of_reach hr (r (holdsP T k) + 1) (holdsP T k) (by omega) hh hc
    refine Classical.byCases (p := True) (fun _ => ?_) (fun h => (h trivial).elim)
    have dec : ∀ x, Decidable (C x) := fun x => Classical.propDecidable _
    refine ⟨fun x => @ite _ (C x) (dec x) (r x) (r x + (r (holdsP T k) + 1)), fun j x hx => ?_⟩
    rw [hsame]
    rcases hmem j x hx with h1 | ⟨rfl, rfl⟩
    · have hlt := hr j x h1
      by_cases cx : C x
      · have hwx := waits_of_mem h.tidy h1
        have cy := c3 x cx (by rw [hwx]; exact (h.tidy.key h1).1)
        rw [hwx] at cy
        simp only [cx, cy, if_true]
        exact hlt
      · by_cases cy : C (holdsP T j)
        · simp only [cx, cy, if_true, if_false]; omega
        · simp only [cx, cy, if_false]; omega
    · simp only [c1, c2, if_true, if_false]; omega

/-- One that holds what nobody held. -/
theorem Good.hold {T : Tab} {tx k : Int} (h : Good T) (hk : T k = []) (hkr : 0 ≤ k ∧ k < 10) (htx : 1 ≤ tx ∧ tx ≤ 9223372036854775807) : Good (updT T k [tx]) := by
  have hmem : ∀ j x, x ∈ (updT T k [tx] j).tail → j ≠ k ∧ x ∈ (T j).tail := by
    intro j x hx
    by_cases e : j = k
    · subst e; rw [updT_same] at hx; simp at hx
    · rw [updT_other _ _ e] at hx; exact ⟨e, hx⟩
  refine ⟨⟨fun j hj => ?_, fun j x hx => ?_, fun j => ?_, fun j i x hx hy => h.tidy.one j i x (hmem j x hx).2 (hmem i x hy).2⟩, ?_⟩
  · by_cases e : j = k
    · subst e; exact hkr
    · rw [updT_other _ _ e] at hj; exact h.tidy.rng j hj
  · by_cases e : j = k
    · subst e; rw [updT_same, List.mem_singleton] at hx; subst hx; exact htx
    · rw [updT_other _ _ e] at hx; exact h.tidy.pos j x hx
  · by_cases e : j = k
    · subst e; rw [updT_same]; simp
    · rw [updT_other _ _ e]; exact h.tidy.nod j
  · obtain ⟨r, hr⟩ := h.rank
    refine ⟨r, fun j x hx => ?_⟩
    have := hmem j x hx
    have e : holdsP (updT T k [tx]) j = holdsP T j := by simp [holdsP, updT_other _ _ this.1]
    rw [e]
    exact hr j x this.2

theorem Good.nil : Good (fun _ => []) := ⟨⟨by simp, by simp, by simp, by simp⟩, ⟨fun _ => 0, by intro k x h; simp at h⟩⟩

/-- What Ask answers: whether it holds the key, the error, the table. -/
def askP (T : Tab) (r : Int → Nat) (tx key : Int) : Bool × Int × Tab :=
  if ¬ (0 ≤ key ∧ key < 10 ∧ 1 ≤ tx) then (false, 2, T)
  else if 0 ≤ waitsP T tx then (false, 6, T)
  else if holdsP T key = tx then (true, 0, T)
  else if T key = [] then (true, 0, updT T key [tx])
  else if reachP T tx (r (holdsP T key) + 1) (holdsP T key) = true then (false, 11, T)
  else (false, 0, updT T key (T key ++ [tx]))

theorem Good.ask {T : Tab} {r : Int → Nat} (h : Good T) (hr : Ranked T r) (tx key : Int) (ht : tx ≤ 9223372036854775807) : Good (askP T r tx key).2.2 := by
  unfold askP
  split
  · exact h
  · rename_i h1
    have h1 : 0 ≤ key ∧ key < 10 ∧ 1 ≤ tx := Classical.not_not.1 h1
    split
    · exact h
    · rename_i h2
      split
      · exact h
      · rename_i h3
        split
        · rename_i h4; exact h.hold h4 ⟨h1.1, h1.2.1⟩ ⟨h1.2.2, ht⟩
        · rename_i h4
          split
          · exact h
          · rename_i h5; exact h.wait hr h4 ⟨h1.2.2, ht⟩ (by omega) h3 (by simpa using h5)

/-- What is left when one lets go. -/
def dropP (T : Tab) (tx : Int) : Tab := fun k => (T k).filter (fun x => x != tx)
theorem Good.drop {T : Tab} (h : Good T) (tx : Int) : Good (dropP T tx) := h.sub (fun _ => List.filter_sublist)
/-- Who holds a key by that. -/
def outOf (T : Tab) (tx k : Int) : List (Int × Int) := if holdsP T k = tx ∧ dropP T tx k ≠ [] then [(k, holdsP (dropP T tx) k)] else []
def outP (T : Tab) (tx : Int) : List (Int × Int) := keysP.flatMap (outOf T tx)

end Go.Proofs.YtjefgmeejhakbaaDoor
