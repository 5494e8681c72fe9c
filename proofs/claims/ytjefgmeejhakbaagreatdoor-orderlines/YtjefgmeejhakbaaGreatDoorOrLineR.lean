/- Plain: the line by counting who is ahead. -/
import Derived.Test.YtjefgmeejhakbaaGreatDoorOrPlainR
namespace Go.Proofs.YtjefgmeejhakbaaGreatDoor
def cntP (E : List (Int × Int)) (left : List Int) (x : Int) : Nat := E.countP (fun e => e.2 == x && left.contains e.1)
theorem cnt_free {E : List (Int × Int)} {left : List Int} {x : Int} : cntP E left x = 0 ↔ freeB E left x = true := by
  unfold cntP freeB
  rw [List.countP_eq_zero, List.all_eq_true]
  constructor
  · intro h e he
    have := h e he
    cases hh : (e.2 == x && left.contains e.1) with
    | true => exact absurd hh this
    | false => rfl
  · intro h e he hh
    have := h e he
    rw [hh] at this
    cases this
theorem countP_or {α : Type} (p q : α → Bool) : ∀ l : List α, (∀ x ∈ l, ¬ (p x = true ∧ q x = true)) → l.countP (fun x => p x || q x) = l.countP p + l.countP q
  | [], _ => rfl
  | a :: r, h => by
    have ih := countP_or p q r (fun x hx => h x (List.mem_cons_of_mem _ hx))
    have ha := h a (by simp)
    simp only [List.countP_cons]
    rw [ih]
    cases hp : p a <;> cases hq : q a <;> simp_all <;> omega
theorem count_pair {E : List (Int × Int)} (hE : E.Nodup) (x y : Int) : E.countP (fun e => e.2 == y && e.1 == x) = if (x, y) ∈ E then 1 else 0 := by
  have e : E.countP (fun e => e.2 == y && e.1 == x) = E.count (x, y) := by
    unfold List.count
    congr 1
    funext ⟨a, b⟩
    show (b == y && a == x) = ((a, b) == (x, y))
    rw [Bool.eq_iff_iff]
    simp only [Bool.and_eq_true, beq_iff_eq, Prod.mk.injEq]
    exact ⟨fun h => ⟨h.2, h.1⟩, fun h => ⟨h.2, h.1⟩⟩
  rw [e, hE.count]
theorem cnt_out {E : List (Int × Int)} (hE : E.Nodup) {left : List Int} {x : Int} (hx : x ∈ left) (y : Int) : cntP E left y = cntP E (left.filter (fun z => z != x)) y + if (x, y) ∈ E then 1 else 0 := by
  rw [← count_pair hE x y]
  unfold cntP
  rw [← countP_or]
  · congr 1
    funext ⟨a, b⟩
    show (b == y && left.contains a) = (b == y && (left.filter (fun z => z != x)).contains a || b == y && a == x)
    rw [Bool.eq_iff_iff]
    simp only [Bool.and_eq_true, Bool.or_eq_true, beq_iff_eq, List.contains_iff_mem, List.mem_filter, bne_iff_ne, ne_eq]
    constructor
    · rintro ⟨h1, h2⟩
      by_cases e : a = x
      · exact .inr ⟨h1, e⟩
      · exact .inl ⟨h1, h2, e⟩
    · rintro (⟨h1, h2, _⟩ | ⟨h1, rfl⟩)
      · exact ⟨h1, h2⟩
      · exact ⟨h1, hx⟩
  · rintro ⟨a, b⟩ _ ⟨h1, h2⟩
    simp only [Bool.and_eq_true, beq_iff_eq, List.contains_iff_mem, List.mem_filter, bne_iff_ne, ne_eq] at h1 h2
    exact h1.2.2 h2.2
structure KS (E : List (Int × Int)) (left : List Int) (M : Int → Option Int) (q : List Int) : Prop where
  m : ∀ y, M y = if y ∈ left then some (cntP E left y : Int) else none
  mq : ∀ y, y ∈ q ↔ y ∈ left ∧ freeB E left y = true
  nq : q.Nodup
  nl : left.Nodup
  up : ∀ a b, (a, b) ∈ E → a ∈ left → b ∈ left
structure KI (E : List (Int × Int)) (left : List Int) (x : Int) (rem : List (Int × Int)) (M : Int → Option Int) (q : List Int) : Prop where
  m : ∀ y, M y = if y ∈ left then some ((cntP E left y : Int) + if (x, y) ∈ rem then 1 else 0) else none
  mq : ∀ y, y ∈ q ↔ y ∈ left ∧ freeB E left y = true ∧ (x, y) ∉ rem
  nq : q.Nodup
  nl : left.Nodup
  up : ∀ a b, (a, b) ∈ E → a ∈ left → b ∈ left
  nr : rem.Nodup
  mr : ∀ e ∈ rem, e.1 = x ∧ e ∈ E ∧ e.2 ∈ left
theorem KS.least {E : List (Int × Int)} {left : List Int} {M : Int → Option Int} {q : List Int} (h : KS E left M q) {x : Int} (hx : x ∈ q) (hl : ∀ y ∈ q, x ≤ y) : leastP (left.filter (freeB E left)) = some x :=
  least_of (List.mem_filter.2 ((h.mq x).1 hx)) (fun y hy => hl y ((h.mq y).2 (List.mem_filter.1 hy)))
theorem KS.stuck {E : List (Int × Int)} {left : List Int} {M : Int → Option Int} (h : KS E left M []) : leastP (left.filter (freeB E left)) = none := by
  rw [leastP_none, List.filter_eq_nil_iff]
  intro y hy hf
  have := (h.mq y).2 ⟨hy, hf⟩
  simp at this
theorem KS.take {E : List (Int × Int)} (hE : E.Nodup) (hne : ∀ a b, (a, b) ∈ E → a ≠ b) {left : List Int} {M : Int → Option Int} {q q' : List Int} (h : KS E left M q) {x : Int} (hq : q.Perm (x :: q')) {M' : Int → Option Int} (hM : ∀ y, M' y = if y = x then none else M y) :
    KI E (left.filter (fun z => z != x)) x (E.filter (fun e => e.1 == x)) M' q' := by
  have hxq : x ∈ q := hq.mem_iff.2 (by simp)
  obtain ⟨hxl, hxf⟩ := (h.mq x).1 hxq
  have hx0 : ∀ a, (a, x) ∈ E → a ∉ left := fun a ha hal => by
    have := List.all_eq_true.1 hxf (a, x) ha
    simp [hal] at this
  have hmem : ∀ y, (x, y) ∈ E.filter (fun e => e.1 == x) ↔ (x, y) ∈ E := fun y => by simp [List.mem_filter]
  have hml : ∀ y, y ∈ left.filter (fun z => z != x) ↔ y ∈ left ∧ y ≠ x := fun y => by simp [List.mem_filter]
  have hnq := hq.nodup_iff.1 h.nq
  refine ⟨fun y => ?_, fun y => ?_, (List.nodup_cons.1 hnq).2, h.nl.sublist List.filter_sublist, fun a b hab ha => ?_, hE.sublist List.filter_sublist, fun e he => ?_⟩
  · rw [hM y]
    by_cases e : y = x
    · rw [if_pos e, if_neg (fun hh => ((hml y).1 hh).2 e)]
    · rw [if_neg e, h.m y]
      by_cases hy : y ∈ left
      · rw [if_pos hy, if_pos ((hml y).2 ⟨hy, e⟩), cnt_out hE hxl y]
        congr 1
        by_cases hp : (x, y) ∈ E
        · rw [if_pos hp, if_pos ((hmem y).2 hp)]; simp
        · rw [if_neg hp, if_neg (fun hh => hp ((hmem y).1 hh))]; simp
      · rw [if_neg hy, if_neg (fun hh => hy ((hml y).1 hh).1)]
  · have h1 : y ∈ q' ↔ y ∈ q ∧ y ≠ x := by
      rw [hq.mem_iff, List.mem_cons]
      constructor
      · intro hy
        exact ⟨.inr hy, fun e => (List.nodup_cons.1 hnq).1 (e ▸ hy)⟩
      · rintro ⟨h1 | h1, h2⟩
        · exact (h2 h1).elim
        · exact h1
    rw [h1, h.mq y, hml, hmem, ← cnt_free, ← cnt_free, cnt_out hE hxl y]
    by_cases hp : (x, y) ∈ E
    · simp [hp]
    · simp only [hp, if_false, Nat.add_zero, not_false_eq_true, and_true]
      constructor
      · rintro ⟨⟨a, b⟩, c⟩; exact ⟨⟨a, c⟩, b⟩
      · rintro ⟨⟨a, c⟩, b⟩; exact ⟨⟨a, b⟩, c⟩
  · obtain ⟨ha1, ha2⟩ := (hml a).1 ha
    exact (hml b).2 ⟨h.up a b hab ha1, fun e => hx0 a (e ▸ hab) ha1⟩
  · obtain ⟨h1, h2⟩ := List.mem_filter.1 he
    obtain ⟨a, b⟩ := e
    simp only [beq_iff_eq] at h2
    subst h2
    exact ⟨rfl, h1, (hml b).2 ⟨h.up a b h1 hxl, fun e => hne a b h1 e.symm⟩⟩
theorem KI.done {E : List (Int × Int)} {left : List Int} {x : Int} {M : Int → Option Int} {q : List Int} (h : KI E left x [] M q) : KS E left M q :=
  ⟨fun y => by rw [h.m y]; simp, fun y => by rw [h.mq y]; simp, h.nq, h.nl, h.up⟩
theorem KI.at {E : List (Int × Int)} {left : List Int} {x v : Int} {rem : List (Int × Int)} {M : Int → Option Int} {q : List Int} (h : KI E left x ((x, v) :: rem) M q) : M v = some ((cntP E left v : Int) + 1) := by
  rw [h.m v, if_pos (h.mr (x, v) (by simp)).2.2]
  simp
theorem KI.step {E : List (Int × Int)} {left : List Int} {x v : Int} {rem : List (Int × Int)} {M M' : Int → Option Int} {q q' : List Int} (h : KI E left x ((x, v) :: rem) M q) (hM : ∀ y, M' y = if y = v then some (cntP E left v : Int) else M y)
    (hq : if cntP E left v = 0 then q'.Perm (v :: q) else q' = q) : KI E left x rem M' q' := by
  obtain ⟨_, hvE, hvl⟩ := h.mr (x, v) (by simp)
  obtain ⟨hn1, hn2⟩ := List.nodup_cons.1 h.nr
  have hvq : v ∉ q := fun hh => ((h.mq v).1 hh).2.2 (by simp)
  refine ⟨fun y => ?_, fun y => ?_, ?_, h.nl, h.up, hn2, fun e he => h.mr e (List.mem_cons_of_mem _ he)⟩
  · rw [hM y]
    by_cases e : y = v
    · subst e; rw [if_pos rfl, if_pos hvl, if_neg hn1]; simp
    · rw [if_neg e, h.m y]
      simp [e]
  · by_cases e : y = v
    · subst e
      by_cases hc : cntP E left y = 0
      · rw [if_pos hc] at hq
        rw [hq.mem_iff]
        simp [hvl, cnt_free.1 hc, hn1]
      · rw [if_neg hc] at hq
        subst hq
        have : freeB E left y ≠ true := fun hh => hc (cnt_free.2 hh)
        simp [this, hvq]
    · have h1 : y ∈ q' ↔ y ∈ q := by
        by_cases hc : cntP E left v = 0
        · rw [if_pos hc] at hq
          rw [hq.mem_iff]; simp [e]
        · rw [if_neg hc] at hq
          rw [hq]
      rw [h1, h.mq y]
      simp [e]
  · by_cases hc : cntP E left v = 0
    · rw [if_pos hc] at hq
      exact hq.nodup_iff.2 (List.nodup_cons.2 ⟨hvq, h.nq⟩)
    · rw [if_neg hc] at hq
      rw [hq]; exact h.nq
def onceP : List Int → List Int
  | [] => []
  | a :: r => if a ∈ onceP r then onceP r else a :: onceP r
theorem mem_once {x : Int} : ∀ l : List Int, x ∈ onceP l ↔ x ∈ l
  | [] => by simp [onceP]
  | a :: r => by
    rw [onceP]
    by_cases e : a ∈ onceP r
    · rw [if_pos e, mem_once r, List.mem_cons]
      constructor
      · exact .inr
      · rintro (rfl | h)
        · exact (mem_once r).1 e
        · exact h
    · rw [if_neg e, List.mem_cons, List.mem_cons, mem_once r]
theorem nodup_once : ∀ l : List Int, (onceP l).Nodup
  | [] => by simp [onceP]
  | a :: r => by
    rw [onceP]
    by_cases e : a ∈ onceP r
    · rw [if_pos e]; exact nodup_once r
    · rw [if_neg e]; exact List.nodup_cons.2 ⟨e, nodup_once r⟩
theorem once_length : ∀ l : List Int, (onceP l).length ≤ l.length
  | [] => Nat.le_refl _
  | a :: r => by
    have := once_length r
    rw [onceP]
    split <;> simp <;> omega
def txsP (l : List Opp) : List Int := onceP (l.map (fun o => o.1))
theorem mem_txs {l : List Opp} {x : Int} : x ∈ txsP l ↔ ∃ o ∈ l, o.1 = x := by
  unfold txsP
  rw [mem_once, List.mem_map]
theorem nodup_txs (l : List Opp) : (txsP l).Nodup := nodup_once _
theorem txs_length (l : List Opp) : (txsP l).length ≤ l.length := by have := once_length (l.map (fun o => o.1)); simpa [txsP] using this
theorem lineP_step {E : List (Int × Int)} {n : Nat} {left : List Int} {x : Int} (hx : x ∈ left) (h : leastP (left.filter (freeB E left)) = some x) : lineP E (n + 1) left = (lineP E n (left.filter (fun y => y != x))).map (fun r => x :: r) := by
  rw [lineP, if_neg (by intro e; rw [e] at hx; simp at hx), h]
theorem lineP_nil (E : List (Int × Int)) (n : Nat) : lineP E n [] = some [] := by
  cases n with
  | zero => rfl
  | succ n => rw [lineP, if_pos rfl]
theorem lineP_none {E : List (Int × Int)} {n : Nat} {left : List Int} (hn : left ≠ []) (h : leastP (left.filter (freeB E left)) = none) : lineP E (n + 1) left = none := by
  rw [lineP, if_neg hn, h]
end Go.Proofs.YtjefgmeejhakbaaGreatDoor
