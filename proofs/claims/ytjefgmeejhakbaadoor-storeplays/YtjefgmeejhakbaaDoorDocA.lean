/- Plain: the document's versions as they came, and of each key its versions: what is read, what is newer, what is swept. -/
import Derived.Test.YtjefgmeejhakbaaDoorRefErr
namespace Go.Proofs.YtjefgmeejhakbaaDoor

theorem snoc_ind {α : Type} {P : List α → Prop} (h0 : P []) (h1 : ∀ l x, P l → P (l ++ [x])) (l : List α) : P l := by
  have : ∀ r : List α, P r.reverse := fun r => by
    induction r with
    | nil => exact h0
    | cons x r ih => rw [List.reverse_cons]; exact h1 _ _ ih
  simpa using this l.reverse

/-- A key's versions among those as they came. -/
def sub (k : Int) (L : List (Int × Int × Int)) : List (Int × Int) := (L.filter fun x => decide (x.1 = k)).map fun x => x.2
theorem sub_nil (k : Int) : sub k [] = [] := rfl
theorem sub_cons (k : Int) (x : Int × Int × Int) (L : List (Int × Int × Int)) : sub k (x :: L) = if x.1 = k then x.2 :: sub k L else sub k L := by
  by_cases h : x.1 = k <;> simp [sub, h]
theorem sub_append (k : Int) (L M : List (Int × Int × Int)) : sub k (L ++ M) = sub k L ++ sub k M := by simp [sub]
theorem mem_sub {k : Int} {p : Int × Int} {L : List (Int × Int × Int)} : p ∈ sub k L ↔ (k, p) ∈ L := by
  simp only [sub, List.mem_map, List.mem_filter, decide_eq_true_eq]
  constructor
  · rintro ⟨⟨a, b⟩, ⟨h1, rfl⟩, rfl⟩; exact h1
  · intro h; exact ⟨(k, p), ⟨h, rfl⟩, rfl⟩
theorem sub_length (k : Int) (L : List (Int × Int × Int)) : (sub k L).length ≤ L.length := by
  rw [sub, List.length_map]; exact List.length_filter_le _ _

/-- Rising by their times. -/
def Rises (l : List (Int × Int)) : Prop := l.Pairwise fun a b => a.1 < b.1
theorem Rises.snoc {l : List (Int × Int)} {p : Int × Int} (h : Rises (l ++ [p])) : Rises l ∧ ∀ a ∈ l, a.1 < p.1 := by
  have := List.pairwise_append.1 h
  exact ⟨this.1, fun a ha => this.2.2 a ha p (by simp)⟩
theorem Rises.add {l : List (Int × Int)} {p : Int × Int} (h : Rises l) (hp : ∀ a ∈ l, a.1 < p.1) : Rises (l ++ [p]) :=
  List.pairwise_append.2 ⟨h, by simp, fun a ha b hb => by rw [List.mem_singleton.1 hb]; exact hp a ha⟩

theorem lat_snoc (l : List (Int × Int)) (p : Int × Int) (t : Int) : lat (l ++ [p]) t = if p.1 ≤ t then (l.length : Int) else lat l t := by
  unfold lat
  rw [List.length_append, List.length_singleton]
  simp only [latN]
  rw [show (l ++ [p])[l.length]? = some p by simp, Option.getD_some]
  have : latN (l ++ [p]) t l.length = latN l t l.length := latN_congr _ _ _ _ (fun j hj => by rw [List.getElem?_append_left hj])
  rw [this]

theorem readP_mem {t : Int} {l : List (Int × Int)} {q : Int × Int} (h : readP t l = some q) : q ∈ l := by
  unfold readP at h
  split at h
  · exact List.mem_of_getElem? h
  · cases h
theorem readP_snoc (t : Int) (l : List (Int × Int)) (p : Int × Int) : readP t (l ++ [p]) = if p.1 ≤ t then some p else readP t l := by
  unfold readP
  rw [lat_snoc]
  by_cases h : p.1 ≤ t
  · rw [if_pos h, if_pos h, if_pos (by omega)]; simp
  · rw [if_neg h, if_neg h]
    have := lat_bounds l t
    split
    · rw [List.getElem?_append_left (by omega)]
    · rfl

/-- The latest one, of a key's versions alone. -/
def bestT (t : Int) (b : Option (Int × Int)) (x : Int × Int) : Option (Int × Int) := if x.1 ≤ t ∧ (b = none ∨ (b.getD (0, 0)).1 < x.1) then some x else b
theorem best_fold (k t : Int) : ∀ (L : List (Int × Int × Int)) (b : Option (Int × Int)), L.foldl (bestS k t) b = (sub k L).foldl (bestT t) b
  | [], _ => rfl
  | x :: L, b => by
    rw [List.foldl_cons, best_fold k t L, sub_cons]
    by_cases h : x.1 = k
    · rw [if_pos h, List.foldl_cons]
      simp [bestS, bestT, h]
    · rw [if_neg h]
      simp [bestS, h]
theorem best_rises (t : Int) (l : List (Int × Int)) : Rises l → l.foldl (bestT t) none = readP t l := by
  refine snoc_ind (P := fun l => Rises l → l.foldl (bestT t) none = readP t l) (fun _ => by simp [readP, lat, latN]) (fun l p ih h => ?_) l
  obtain ⟨h1, h2⟩ := h.snoc
  rw [List.foldl_append, List.foldl_cons, List.foldl_nil, ih h1, readP_snoc]
  unfold bestT
  by_cases hp : p.1 ≤ t
  · rw [if_pos hp, if_pos]
    refine ⟨hp, ?_⟩
    cases hq : readP t l with
    | none => exact .inl rfl
    | some q => exact .inr (by simpa using h2 q (readP_mem hq))
  · rw [if_neg hp, if_neg (fun e => hp e.1)]
theorem best_sub (k t : Int) (L : List (Int × Int × Int)) (h : Rises (sub k L)) : best k t L = readP t (sub k L) := by
  rw [← best_rises t _ h]
  exact best_fold k t L none

/-- The later ones. -/
theorem newsR_sub (k t : Int) : ∀ L : List (Int × Int × Int), newsR k t L = ((sub k L).filter fun x => decide (t < x.1)).map fun x => x.1
  | [] => rfl
  | x :: L => by
    have ih := newsR_sub k t L
    unfold newsR at ih ⊢
    rw [sub_cons]
    by_cases h : x.1 = k
    · by_cases h2 : t < x.2.1 <;> simp [h, h2, ih]
    · simp [h, ih]
theorem later_rises (t : Int) (l : List (Int × Int)) : Rises l → l.filter (fun x => decide (t < x.1)) = l.drop (lat l t + 1).toNat := by
  refine snoc_ind (P := fun l => Rises l → l.filter (fun x => decide (t < x.1)) = l.drop (lat l t + 1).toNat) (fun _ => by simp) (fun l p ih h => ?_) l
  obtain ⟨h1, h2⟩ := h.snoc
  rw [lat_snoc, List.filter_append]
  by_cases hp : p.1 ≤ t
  · rw [if_pos hp, List.drop_of_length_le (by simp), List.filter_eq_nil_iff.2 (fun a ha => by have := h2 a ha; simp; omega)]
    simp; omega
  · have hb := lat_bounds l t
    rw [if_neg hp, ih h1, List.drop_append_of_le_length (by omega)]
    simp; omega
theorem news_sub (k t : Int) (L : List (Int × Int × Int)) (h : Rises (sub k L)) : newsR k t L = ((sub k L).drop (lat (sub k L) t + 1).toNat).map fun x => x.1 := by
  rw [newsR_sub, later_rises t _ h]
theorem news_pair (k t : Int) (L : List (Int × Int × Int)) (h : Rises (sub k L)) : (newsR k t L).Pairwise (· ≤ ·) := by
  rw [newsR_sub]
  refine List.pairwise_map.2 ((h.sublist List.filter_sublist).imp (fun h => ?_))
  omega

theorem latN_le (l : List (Int × Int)) (t : Int) : ∀ m, 0 ≤ latN l t m → (l[(latN l t m).toNat]?.getD (0, 0)).1 ≤ t
  | 0, h => by simp [latN] at h
  | m + 1, h => by
    by_cases hq : (l[m]?.getD (0, 0)).1 ≤ t
    · have e : latN l t (m + 1) = (m : Int) := by rw [latN, if_pos hq]
      rw [e, Int.toNat_natCast]; exact hq
    · have e : latN l t (m + 1) = latN l t m := by rw [latN, if_neg hq]
      rw [e] at h ⊢
      exact latN_le l t m h

/-- What stays of a key. -/
theorem keep_rises (t : Int) (l : List (Int × Int)) (h : Rises l) : l.filter (fun x => decide (t < x.1) || (readP t l == some x)) = sweepL t l := by
  have hb := lat_bounds l t
  have hl := later_rises t l h
  unfold sweepL
  by_cases h0 : 0 ≤ lat l t
  · obtain ⟨m, hm⟩ := Int.eq_ofNat_of_zero_le h0
    have hml : m < l.length := by omega
    have hle := latN_le l t l.length h0
    obtain ⟨q, hq⟩ : ∃ q, l[m]? = some q := ⟨l[m], List.getElem?_eq_getElem hml⟩
    rw [show latN l t l.length = lat l t from rfl, hm, Int.toNat_natCast, hq, Option.getD_some] at hle
    have hr : readP t l = some q := by rw [readP, if_pos h0, hm, Int.toNat_natCast, hq]
    rw [hm] at hl ⊢
    rw [Int.toNat_natCast]
    have e0 : l.drop m = q :: l.drop (m + 1) := by rw [List.drop_eq_getElem_cons hml, ← Option.some.inj (hq.symm.trans (List.getElem?_eq_getElem hml))]
    have e1 : l = l.take m ++ (q :: l.drop (m + 1)) := by rw [← e0, List.take_append_drop]
    have hd : l.drop (m + 1) = l.filter (fun x => decide (t < x.1)) := by rw [hl]; congr 1
    have h3 := h
    unfold Rises at h3
    rw [e1, List.pairwise_append] at h3
    rw [hr]
    conv => lhs; rw [e1]
    rw [List.filter_append, List.filter_eq_nil_iff.2, List.nil_append, e0, List.filter_cons, if_pos (by simp)]
    · congr 1
      refine List.filter_eq_self.2 (fun a ha => ?_)
      rw [hd] at ha
      have := (List.mem_filter.1 ha).2
      rw [this]; rfl
    · intro a ha
      have h4 := h3.2.2 a ha q (by simp)
      have hne : q ≠ a := fun e => by rw [e] at h4; omega
      simp [hne]; omega
  · have e : lat l t = -1 := by omega
    rw [e] at hl ⊢
    have hl' : l.filter (fun x => decide (t < x.1)) = l := by rw [hl]; simp
    have ha := List.filter_eq_self.1 hl'
    rw [List.filter_eq_self.2 (fun a h => by rw [ha a h]; rfl)]
    simp

theorem sub_keep (k t : Int) (L : List (Int × Int × Int)) : ∀ M : List (Int × Int × Int), sub k (M.filter (keepB t L)) = (sub k M).filter (fun x => decide (t < x.1) || (best k t L == some x))
  | [] => rfl
  | y :: M => by
    have ih := sub_keep k t L M
    rw [sub_cons, List.filter_cons]
    by_cases h : y.1 = k
    · rw [if_pos h]
      have e : keepB t L y = (decide (t < y.2.1) || (best k t L == some y.2)) := by rw [keepB, h]
      rw [List.filter_cons, ← e]
      split
      · rw [sub_cons, if_pos h, ih]
      · rw [ih]
    · rw [if_neg h]
      split
      · rw [sub_cons, if_neg h, ih]
      · rw [ih]
theorem sub_sweep (k t : Int) (L : List (Int × Int × Int)) (h : Rises (sub k L)) : sub k (refSweep t L) = sweepL t (sub k L) := by
  rw [refSweep, sub_keep, best_sub k t L h, keep_rises t _ h]

/-- A store and the document's. -/
structure Doc (last : Int) (ks : List (List (Int × Int))) (L : List (Int × Int × Int)) : Prop where
  lk : ks.length = 10
  eq : ∀ k : Nat, k < 10 → ks[k]? = some (sub k L)
  key : ∀ x ∈ L, inB x.1 0 9 = true
  rise : ∀ k : Int, Rises (sub k L)
  top : ∀ x ∈ L, x.2.1 ≤ last

section
variable {last : Int} {ks : List (List (Int × Int))} {L : List (Int × Int × Int)}
theorem Doc.bound (h : Doc last ks L) : ∀ l ∈ ks, l.length ≤ L.length := fun l hl => by
  obtain ⟨k, hk, rfl⟩ := List.mem_iff_getElem.1 hl
  have h1 := h.eq k (by have := h.lk; omega)
  rw [List.getElem?_eq_getElem hk] at h1
  rw [Option.some.inj h1]
  exact sub_length _ _
theorem Doc.ten (h : Doc last ks L) : ks = [sub 0 L, sub 1 L, sub 2 L, sub 3 L, sub 4 L, sub 5 L, sub 6 L, sub 7 L, sub 8 L, sub 9 L] := by
  refine List.ext_getElem? (fun i => ?_)
  by_cases hi : i < 10
  · rw [h.eq i hi]
    rcases (by omega : i = 0 ∨ i = 1 ∨ i = 2 ∨ i = 3 ∨ i = 4 ∨ i = 5 ∨ i = 6 ∨ i = 7 ∨ i = 8 ∨ i = 9) with rfl | rfl | rfl | rfl | rfl | rfl | rfl | rfl | rfl | rfl <;> rfl
  · rw [List.getElem?_eq_none (by have := h.lk; omega), List.getElem?_eq_none (by simp; omega)]
theorem ten_length : ∀ L : List (Int × Int × Int), (∀ x ∈ L, inB x.1 0 9 = true) → manyP [sub 0 L, sub 1 L, sub 2 L, sub 3 L, sub 4 L, sub 5 L, sub 6 L, sub 7 L, sub 8 L, sub 9 L] = L.length
  | [], _ => rfl
  | x :: L, h => by
    have ih := ten_length L (fun y hy => h y (List.mem_cons_of_mem _ hy))
    have hx := h x (List.mem_cons_self ..)
    simp only [inB, decide_eq_true_eq] at hx
    simp only [manyP, List.map_cons, List.map_nil, List.sum_cons, List.sum_nil, List.length_cons, sub_cons] at ih ⊢
    rcases (by omega : x.1 = 0 ∨ x.1 = 1 ∨ x.1 = 2 ∨ x.1 = 3 ∨ x.1 = 4 ∨ x.1 = 5 ∨ x.1 = 6 ∨ x.1 = 7 ∨ x.1 = 8 ∨ x.1 = 9) with e | e | e | e | e | e | e | e | e | e <;> simp [e] <;> omega
theorem Doc.many (h : Doc last ks L) : manyP ks = L.length := by
  rw [h.ten]
  exact ten_length L h.key
theorem Doc.sweep (h : Doc last ks L) (t : Int) : Doc last (ks.map (sweepL t)) (refSweep t L) where
  lk := by simp [h.lk]
  eq k hk := by rw [List.getElem?_map, h.eq k hk, Option.map_some, sub_sweep _ _ _ (h.rise k)]
  key x hx := h.key x (List.mem_filter.1 hx).1
  rise k := by
    rw [sub_sweep _ _ _ (h.rise k)]
    exact (h.rise k).sublist (List.drop_sublist _ _)
  top x hx := h.top x (List.mem_filter.1 hx).1
theorem Doc.sweepN (h : Doc last ks L) (t : Int) : (L.length : Int) - ((refSweep t L).length : Int) = (sweepN t ks : Nat) := by
  have h1 := h.many
  have h2 := (h.sweep t).many
  have h3 := many_swept t ks
  omega
theorem refSweep_length (t : Int) (L : List (Int × Int × Int)) : (refSweep t L).length ≤ L.length := List.length_filter_le _ _
theorem Doc.all (h : Doc last ks L) (t : Int) : allTo (fun k => best k t L) 10 = allTo (fun k => readP t (ks[k]?.getD [])) 10 :=
  allTo_congr _ _ 10 (fun k hk => by rw [h.eq k hk, Option.getD_some]; exact best_sub k t L (h.rise k))
end

end Go.Proofs.YtjefgmeejhakbaaDoor
