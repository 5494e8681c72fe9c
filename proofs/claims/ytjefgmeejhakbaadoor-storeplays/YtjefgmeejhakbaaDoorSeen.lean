/- Plain: what is swept is not seen. -/
import Derived.Test.YtjefgmeejhakbaaDoorSweep
namespace Go.Proofs.YtjefgmeejhakbaaDoor

theorem latN_mono (l : List (Int × Int)) {t u : Int} (h : t ≤ u) : ∀ m, latN l t m ≤ latN l u m
  | 0 => Int.le_refl _
  | m + 1 => by
    have ih := latN_mono l h m
    have h1 := (lat_lt l u m).1
    have h2 := (lat_lt l t m).1
    simp only [latN]
    split
    · rw [if_pos (by omega)]; exact Int.le_refl _
    · split <;> omega
theorem lat_mono (l : List (Int × Int)) {t u : Int} (h : t ≤ u) : lat l t ≤ lat l u := latN_mono l h _

/-- Those ahead of the first d are passed by. -/
theorem latN_drop (l : List (Int × Int)) (t : Int) (d : Nat) : ∀ m, (d : Int) ≤ latN l t (m + d) → latN (l.drop d) t m = latN l t (m + d) - d
  | 0, h => by have := (lat_lt l t (0 + d)).1; omega
  | m + 1, h => by
    rw [show m + 1 + d = (m + d) + 1 from by omega] at h ⊢
    simp only [latN] at h ⊢
    have e : (l.drop d)[m]? = l[m + d]? := by rw [List.getElem?_drop, Nat.add_comm]
    rw [e]
    split
    · omega
    · rename_i hn
      rw [if_neg hn] at h
      exact latN_drop l t d m h
theorem latN_drop_neg (l : List (Int × Int)) (t : Int) (d : Nat) : ∀ m, latN l t (m + d) < d → latN (l.drop d) t m = -1
  | 0, _ => rfl
  | m + 1, h => by
    rw [show m + 1 + d = (m + d) + 1 from by omega] at h
    simp only [latN] at h ⊢
    have e : (l.drop d)[m]? = l[m + d]? := by rw [List.getElem?_drop, Nat.add_comm]
    rw [e]
    split
    · rename_i hn
      rw [if_pos hn] at h
      omega
    · rename_i hn
      rw [if_neg hn] at h
      exact latN_drop_neg l t d m h
theorem lat_drop (l : List (Int × Int)) (t : Int) (d : Nat) (hd : d ≤ l.length) (h : (d : Int) ≤ lat l t) : lat (l.drop d) t = lat l t - d := by
  unfold lat at *
  rw [List.length_drop, latN_drop l t d (l.length - d) (by rw [Nat.sub_add_cancel hd]; exact h), Nat.sub_add_cancel hd]
theorem lat_drop_neg (l : List (Int × Int)) (t : Int) (d : Nat) (hd : d ≤ l.length) (h : lat l t < d) : lat (l.drop d) t = -1 := by
  unfold lat at *
  rw [List.length_drop, latN_drop_neg l t d (l.length - d) (by rw [Nat.sub_add_cancel hd]; exact h)]

/-- lb is la without some that nobody reads as of t, or later. -/
def Rel (t : Int) (la lb : List (Int × Int)) : Prop := ∃ d : Nat, lb = la.drop d ∧ (d = 0 ∨ (d : Int) ≤ lat la t)
theorem Rel.refl (t : Int) (l : List (Int × Int)) : Rel t l l := ⟨0, by simp, .inl rfl⟩

theorem lat_bounds (l : List (Int × Int)) (t : Int) : lat l t < l.length ∧ -1 ≤ lat l t := lat_lt l t l.length

/-- Sweeping by a time that is not later. -/
theorem Rel.sweep {t u : Int} {la lb : List (Int × Int)} (h : Rel t la lb) (hu : u ≤ t) : Rel t la (sweepL u lb) := by
  obtain ⟨d, rfl, hd⟩ := h
  have hb := lat_bounds la t
  have hdl : d ≤ la.length := by omega
  refine ⟨d + (lat (la.drop d) u).toNat, by rw [sweepL, List.drop_drop], ?_⟩
  by_cases hz : (d : Int) ≤ lat la u
  · have e := lat_drop la u d hdl hz
    have hm := lat_mono la hu
    right
    omega
  · have e := lat_drop_neg la u d hdl (by omega)
    rw [e]
    rcases hd with rfl | hd
    · left; rfl
    · right; simpa using hd

/-- How many times a list's first cells stand in another. -/
theorem latN_congr (l m : List (Int × Int)) (t : Int) : ∀ n, (∀ j, j < n → (l[j]?.getD (0, 0)).1 = (m[j]?.getD (0, 0)).1) → latN l t n = latN m t n
  | 0, _ => rfl
  | n + 1, h => by
    simp only [latN]
    rw [h n (by omega), latN_congr l m t n (fun j hj => h j (by omega))]
theorem lat_put (t x u : Int) (l : List (Int × Int)) : lat l u ≤ lat (putP t x l) u := by
  rcases List.eq_nil_or_concat l with rfl | ⟨l0, ⟨a, y⟩, rfl⟩
  · have := lat_bounds (putP t x []) u
    simpa [lat, latN] using this.2
  · rw [List.concat_eq_append]
    by_cases h : a = t
    · subst h
      rw [putP_same]
      unfold lat
      rw [List.length_append, List.length_append]
      apply Int.le_of_eq
      apply latN_congr
      intro j hj
      by_cases hj0 : j < l0.length
      · rw [List.getElem?_append_left hj0, List.getElem?_append_left hj0]
      · have : j = l0.length := by simp at hj; omega
        subst this
        simp
    · rw [putP_later _ _ _ _ _ h]
      unfold lat
      rw [show (l0 ++ [(a, y)] ++ [(t, x)]).length = (l0 ++ [(a, y)]).length + 1 from by simp]
      have e : latN (l0 ++ [(a, y)]) u (l0 ++ [(a, y)]).length = latN (l0 ++ [(a, y)] ++ [(t, x)]) u (l0 ++ [(a, y)]).length := by
        apply latN_congr
        intro j hj
        rw [List.getElem?_append_left hj]
      rw [e]
      have h1 := (lat_lt (l0 ++ [(a, y)] ++ [(t, x)]) u (l0 ++ [(a, y)]).length).1
      rw [latN]
      split <;> omega

/-- A version more. -/
theorem Rel.put {u : Int} {la lb : List (Int × Int)} (h : Rel u la lb) (t x : Int) : Rel u (putP t x la) (putP t x lb) := by
  obtain ⟨d, rfl, hd⟩ := h
  have hb := lat_bounds la u
  have hp := lat_put t x u la
  refine ⟨d, ?_, by omega⟩
  rcases Nat.eq_zero_or_pos d with rfl | hpos
  · simp
  · have hlt : d < la.length := by omega
    rcases List.eq_nil_or_concat la with rfl | ⟨l0, ⟨a, y⟩, rfl⟩
    · simp at hlt
    · rw [List.concat_eq_append] at *
      have hd0 : d ≤ l0.length := by simp at hlt; omega
      rw [List.drop_append_of_le_length hd0]
      by_cases hat : a = t
      · subst hat
        rw [putP_same, putP_same, List.drop_append_of_le_length hd0]
      · rw [putP_later _ _ _ _ _ hat, putP_later _ _ _ _ _ hat, List.append_assoc, List.append_assoc, List.drop_append_of_le_length hd0]

/-- .. of each key. -/
def RelK (u : Int) (ka kb : List (List (Int × Int))) : Prop := ka.length = 10 ∧ kb.length = 10 ∧ ∀ (k : Nat) (la lb : List (Int × Int)), ka[k]? = some la → kb[k]? = some lb → Rel u la lb
theorem RelK.refl (u : Int) (ks : List (List (Int × Int))) (h : ks.length = 10) : RelK u ks ks := ⟨h, h, fun k la lb h1 h2 => by rw [h1] at h2; cases h2; exact Rel.refl _ _⟩
theorem RelK.sweep {t u : Int} {ka kb : List (List (Int × Int))} (h : RelK t ka kb) (hu : u ≤ t) : RelK t ka (kb.map (sweepL u)) :=
  ⟨h.1, by simp [h.2.1], fun k la lb h1 h2 => by
    rw [List.getElem?_map] at h2
    cases e : kb[k]? with
    | none => rw [e] at h2; simp at h2
    | some l => rw [e] at h2; cases h2; exact (h.2.2 k la l h1 e).sweep hu⟩
theorem RelK.set {u : Int} {ka kb : List (List (Int × Int))} (h : RelK u ka kb) (i : Nat) (hi : i < 10) (t x : Int) : RelK u (ka.set i (putP t x (ka[i]?.getD []))) (kb.set i (putP t x (kb[i]?.getD []))) := by
  obtain ⟨h1, h2, h3⟩ := h
  refine ⟨by simp [h1], by simp [h2], fun k la lb ha hb => ?_⟩
  by_cases e : k = i
  · subst e
    rw [List.getElem?_set_self (by omega)] at ha hb
    have ea : ka[k]? = some ka[k] := List.getElem?_eq_getElem (by omega)
    have eb : kb[k]? = some kb[k] := List.getElem?_eq_getElem (by omega)
    rw [ea] at ha
    rw [eb] at hb
    cases ha; cases hb
    exact (h3 k _ _ ea eb).put t x
  · rw [List.getElem?_set_ne (by omega)] at ha hb
    exact h3 k la lb ha hb
theorem RelK.inst {u : Int} (t : Int) : ∀ (ws : List (Int × Int)) {ka kb : List (List (Int × Int))}, (∀ p ∈ ws, Fine p) → RelK u ka kb → RelK u (instP t ws ka) (instP t ws kb)
  | [], _, _, _, h => h
  | (a, x) :: r, ka, kb, hf, h => by
    obtain ⟨n, e, hn⟩ := keyB_nat (hf (a, x) (List.mem_cons_self ..)).1
    simp only at e
    subst e
    have hs := h.set n hn t x
    have := RelK.inst t r (fun p hp => hf p (List.mem_cons_of_mem _ hp)) hs
    simpa [instP] using this

/-- Whoever reads as of u, or later, reads the same. -/
theorem Rel.see {u t : Int} {la lb : List (Int × Int)} (h : Rel u la lb) (hu : u ≤ t) :
    (lat la t = -1 ∧ lat lb t = -1 ∧ la = lb) ∨ ∃ m n a x, lat la t = (m : Nat) ∧ lat lb t = (n : Nat) ∧ la[m]? = some (a, x) ∧ lb[n]? = some (a, x) ∧ la.length - (m + 1) = lb.length - (n + 1) := by
  obtain ⟨d, rfl, hd⟩ := h
  have hb := lat_bounds la t
  have hbu := lat_bounds la u
  have hm := lat_mono la hu
  by_cases hz : lat la t = -1
  · left
    have : d = 0 := by omega
    subst this
    simp [hz]
  · right
    have hdt : (d : Int) ≤ lat la t := by omega
    have e := lat_drop la t d (by omega) hdt
    obtain ⟨m, hm⟩ : ∃ m : Nat, lat la t = m := ⟨(lat la t).toNat, by omega⟩
    have hml : m < la.length := by omega
    obtain ⟨⟨a, x⟩, hax⟩ : ∃ p, la[m]? = some p := ⟨la[m], List.getElem?_eq_getElem hml⟩
    refine ⟨m, m - d, a, x, hm, by omega, hax, ?_, by simp; omega⟩
    rw [List.getElem?_drop, show d + (m - d) = m from by omega]
    exact hax

/-- What is swept is swept once. -/
theorem sweep_twice (t : Int) (l : List (Int × Int)) : (lat (sweepL t l) t).toNat = 0 := by
  have hb := lat_bounds l t
  unfold sweepL
  by_cases h : 0 ≤ lat l t
  · rw [lat_drop l t _ (by omega) (by omega)]
    omega
  · rw [show (lat l t).toNat = 0 from by omega, List.drop_zero]
    omega
theorem sweepN_twice (t : Int) (ks : List (List (Int × Int))) : sweepN t (ks.map (sweepL t)) = 0 := by
  induction ks with
  | nil => rfl
  | cons l r ih =>
    simp only [sweepN, List.map_cons, List.sum_cons, sweep_twice, Nat.zero_add] at *
    exact ih
theorem many_swept (t : Int) (ks : List (List (Int × Int))) : manyP (ks.map (sweepL t)) + sweepN t ks = manyP ks := by
  induction ks with
  | nil => rfl
  | cons l r ih =>
    have hb := lat_bounds l t
    have e : (sweepL t l).length + (lat l t).toNat = l.length := by rw [sweepL, List.length_drop]; omega
    simp only [manyP, sweepN, List.map_cons, List.sum_cons] at *
    omega
theorem sweep_bound (t : Int) (ks : List (List (Int × Int))) (N : Nat) (h : ∀ l ∈ ks, l.length ≤ N) : ∀ l ∈ ks.map (sweepL t), l.length ≤ N := by
  intro l hl
  obtain ⟨m, hm, rfl⟩ := List.mem_map.1 hl
  have := h m hm
  rw [sweepL, List.length_drop]
  omega
theorem RelK.bound {u : Int} {ka kb : List (List (Int × Int))} (h : RelK u ka kb) (N : Nat) (hb : ∀ l ∈ ka, l.length ≤ N) : ∀ l ∈ kb, l.length ≤ N := by
  intro l hl
  obtain ⟨k, hk, rfl⟩ := List.mem_iff_getElem.1 hl
  have hk2 : k < ka.length := by have := h.1; have := h.2.1; omega
  obtain ⟨d, e, _⟩ := h.2.2 k ka[k] kb[k] (List.getElem?_eq_getElem hk2) (List.getElem?_eq_getElem hk)
  have := hb ka[k] (List.getElem_mem hk2)
  rw [e, List.length_drop]
  omega

end Go.Proofs.YtjefgmeejhakbaaDoor
