/- Plain: what Install adds is of each key its last write. -/
import Derived.Test.YtjefgmeejhakbaaDoorRefInst
import Derived.Test.YtjefgmeejhakbaaDoorDocA
namespace Go.Proofs.YtjefgmeejhakbaaDoor

theorem lastN_congr (k : Int) (ws us : List (Int × Int)) : ∀ m, (∀ j, j < m → ws[j]? = us[j]?) → lastN k ws m = lastN k us m
  | 0, _ => rfl
  | m + 1, h => by
    simp only [lastN]
    rw [h m (by omega), lastN_congr k ws us m (fun j hj => h j (by omega))]
/-- What is added of a key. -/
def lastW (k t : Int) (ws : List (Int × Int)) : List (Int × Int) := if 0 ≤ lastN k ws ws.length then [(t, (ws[(lastN k ws ws.length).toNat]?.getD (0, 0)).2)] else []
theorem lastW_nil (k t : Int) : lastW k t [] = [] := by simp [lastW, lastN]
theorem lastW_snoc (k t : Int) (ws : List (Int × Int)) (p : Int × Int) : lastW k t (ws ++ [p]) = if p.1 = k then [(t, p.2)] else lastW k t ws := by
  have hc : lastN k (ws ++ [p]) ws.length = lastN k ws ws.length := lastN_congr _ _ _ _ (fun j hj => List.getElem?_append_left hj)
  have hb := lastN_bounds k ws ws.length
  have he : lastN k (ws ++ [p]) (ws ++ [p]).length = if p.1 = k then (ws.length : Int) else lastN k ws ws.length := by
    rw [List.length_append, List.length_singleton, lastN, show (ws ++ [p])[ws.length]? = some p by simp, Option.getD_some, hc]
  unfold lastW
  rw [he]
  by_cases h : p.1 = k
  · rw [if_pos h, if_pos h, if_pos (by omega)]; simp
  · rw [if_neg h, if_neg h]
    split
    · rw [List.getElem?_append_left (by omega)]
    · rfl
theorem lastW_or (k t : Int) (ws : List (Int × Int)) : lastW k t ws = [] ∨ ∃ y, lastW k t ws = [(t, y)] := by
  unfold lastW
  split
  · exact .inr ⟨_, rfl⟩
  · exact .inl rfl
theorem addTo_succ (t : Int) (ws : List (Int × Int)) (j : Nat) : addTo t ws (j + 1) = addTo t ws j ++ (lastW j t ws).map (fun p => ((j : Int), p)) := by
  rw [addTo, lastW]
  split <;> simp
theorem sub_one (k : Int) (j : Int) (l : List (Int × Int)) : sub k (l.map fun p => (j, p)) = if j = k then l else [] := by
  induction l with
  | nil => simp [sub]
  | cons p l ih => rw [List.map_cons, sub_cons, ih]; split <;> rfl
theorem sub_addTo (k : Nat) (t : Int) (ws : List (Int × Int)) : ∀ j, sub k (addTo t ws j) = if k < j then lastW k t ws else []
  | 0 => by simp [addTo, sub]
  | j + 1 => by
    rw [addTo_succ, sub_append, sub_addTo k t ws j, sub_one]
    by_cases h : k = j
    · subst h; simp
    · by_cases h2 : k < j
      · rw [if_pos h2, if_neg (by omega), if_pos (by omega)]; simp
      · rw [if_neg h2, if_neg (by omega), if_neg (by omega)]; simp
theorem mem_addTo (t : Int) (ws : List (Int × Int)) : ∀ (j : Nat) (x : Int × Int × Int), x ∈ addTo t ws j → 0 ≤ x.1 ∧ x.1 < j ∧ x.2.1 = t
  | 0, x, h => by simp [addTo] at h
  | j + 1, x, h => by
    rw [addTo_succ, List.mem_append] at h
    rcases h with h | h
    · have := mem_addTo t ws j x h
      omega
    · obtain ⟨p, hp, rfl⟩ := List.mem_map.1 h
      refine ⟨by simp, by simp; omega, ?_⟩
      rcases lastW_or j t ws with e | ⟨y, e⟩
      · rw [e] at hp; cases hp
      · rw [e, List.mem_singleton] at hp; rw [hp]

theorem putP_old (t v : Int) (l : List (Int × Int)) (h : ∀ x ∈ l, x.1 < t) : putP t v l = l ++ [(t, v)] := by
  unfold putP
  rw [if_neg]
  intro e
  cases hl : l.getLast? with
  | none => rw [hl] at e; cases e
  | some x =>
    rw [hl] at e
    have h1 := h x (List.mem_of_getLast? hl)
    simp only [Option.map_some, Option.some.injEq] at e
    omega
theorem putP_lastW (k t v : Int) (ws l : List (Int × Int)) (h : ∀ x ∈ l, x.1 < t) : putP t v (l ++ lastW k t ws) = l ++ [(t, v)] := by
  rcases lastW_or k t ws with e | ⟨y, e⟩
  · rw [e, List.append_nil]; exact putP_old t v l h
  · rw [e]; exact putP_same t v y l

theorem instP_length (t : Int) (ws : List (Int × Int)) (ks : List (List (Int × Int))) : (instP t ws ks).length = ks.length := by
  refine snoc_ind (P := fun ws => (instP t ws ks).length = ks.length) rfl (fun l x ih => ?_) ws
  obtain ⟨a, v⟩ := x
  rw [instP_snoc, List.length_set, ih]
theorem instP_get (t : Int) (ks : List (List (Int × Int))) (hk : ks.length = 10) (ht : ∀ l ∈ ks, ∀ x ∈ l, x.1 < t) (k : Nat) (l : List (Int × Int)) (hl : ks[k]? = some l) (ws : List (Int × Int)) :
    (∀ p ∈ ws, Fine p) → (instP t ws ks)[k]? = some (l ++ lastW k t ws) := by
  refine snoc_ind (P := fun ws => (∀ p ∈ ws, Fine p) → (instP t ws ks)[k]? = some (l ++ lastW k t ws)) (fun _ => by rw [lastW_nil, List.append_nil]; exact hl) (fun ws p ih h => ?_) ws
  have ih := ih (fun q hq => h q (List.mem_append_left _ hq))
  obtain ⟨a, v⟩ := p
  obtain ⟨n, e, hn⟩ := keyB_nat (h (a, v) (by simp)).1
  simp only at e
  subst e
  rw [instP_snoc, lastW_snoc, Int.toNat_natCast]
  by_cases hkn : n = k
  · subst hkn
    have hlen := instP_length t ws ks
    rw [List.getElem?_set_self (by omega), ih, Option.getD_some, if_pos rfl, putP_lastW]
    exact ht l (List.mem_of_getElem? hl)
  · rw [List.getElem?_set_ne hkn, ih, if_neg (by simp; omega)]

section
variable {last : Int} {ks : List (List (Int × Int))} {L : List (Int × Int × Int)}
theorem Doc.inst (h : Doc last ks L) {t : Int} (ht : last < t) {ws : List (Int × Int)} (hf : ∀ p ∈ ws, Fine p) : Doc t (instP t ws ks) (L ++ addTo t ws 10) where
  lk := by rw [instP_length, h.lk]
  eq k hk := by
    rw [sub_append, sub_addTo, if_pos hk]
    refine instP_get t ks h.lk (fun l hl x hx => ?_) k _ (h.eq k hk) ws hf
    obtain ⟨i, hi, rfl⟩ := List.mem_iff_getElem.1 hl
    have h1 := h.eq i (by have := h.lk; omega)
    rw [List.getElem?_eq_getElem hi] at h1
    rw [Option.some.inj h1] at hx
    have := h.top _ (mem_sub.1 hx)
    simp only at this
    omega
  key x hx := by
    rcases List.mem_append.1 hx with hx | hx
    · exact h.key x hx
    · have := mem_addTo t ws 10 x hx
      simp [inB]; omega
  rise k := by
    rw [sub_append]
    by_cases hk : 0 ≤ k
    · obtain ⟨n, rfl⟩ := Int.eq_ofNat_of_zero_le hk
      have hs := sub_addTo n t ws 10
      have hr := h.rise n
      split at hs
      · rcases lastW_or n t ws with e | ⟨y, e⟩
        · rw [show sub (n : Int) (addTo t ws 10) = [] from hs.trans e, List.append_nil]; exact hr
        · rw [show sub (n : Int) (addTo t ws 10) = [(t, y)] from hs.trans e]
          refine hr.add (fun a ha => ?_)
          have := h.top _ (mem_sub.1 ha)
          simp only at this ⊢
          omega
      · rw [show sub (n : Int) (addTo t ws 10) = [] from hs, List.append_nil]; exact hr
    · have e : sub k (addTo t ws 10) = [] := by
        refine List.eq_nil_iff_forall_not_mem.2 (fun p hp => ?_)
        have := mem_addTo t ws 10 _ (mem_sub.1 hp)
        simp only at this
        omega
      rw [e, List.append_nil]
      exact h.rise k
  top x hx := by
    rcases List.mem_append.1 hx with hx | hx
    · have := h.top x hx; omega
    · have := mem_addTo t ws 10 x hx; omega
end

/-- What comes of an Install: what is told, and at which place. -/
def Out (last t : Int) (ws : List (Int × Int)) (c p : Int) : Prop :=
  ((t ≤ last ∨ 1099511627776 < t) ∧ c = 10 ∧ p = -1) ∨
  (last < t ∧ t ≤ 1099511627776 ∧ ∃ (i : Nat) (q : Int × Int), (∀ p ∈ ws.take i, Fine p) ∧ ws[i]? = some q ∧ Bad q c ∧ p = i) ∨
  (last < t ∧ t ≤ 1099511627776 ∧ (∀ p ∈ ws, Fine p) ∧ c = 0 ∧ p = -1)
theorem fine_or_bad (p : Int × Int) : Fine p ∨ ∃ c, Bad p c := by
  by_cases h1 : keyB p.1 = true
  · by_cases h2 : p.2 < -1099511627776 ∨ 1099511627776 < p.2
    · exact .inr ⟨1, .inr ⟨h1, h2, rfl⟩⟩
    · exact .inl ⟨h1, by omega, by omega⟩
  · exact .inr ⟨2, .inl ⟨by simpa using h1, rfl⟩⟩
theorem first_bad : ∀ ws : List (Int × Int), (∀ p ∈ ws, Fine p) ∨ ∃ (i : Nat) (q : Int × Int) (c : Int), (∀ p ∈ ws.take i, Fine p) ∧ ws[i]? = some q ∧ Bad q c
  | [] => .inl (by simp)
  | p :: r => by
    rcases fine_or_bad p with h | ⟨c, h⟩
    · rcases first_bad r with h2 | ⟨i, q, c, h2, h3, h4⟩
      · exact .inl (fun x hx => by rcases List.mem_cons.1 hx with rfl | hx; exact h; exact h2 x hx)
      · refine .inr ⟨i + 1, q, c, fun x hx => ?_, by simpa using h3, h4⟩
        rw [List.take_succ_cons] at hx
        rcases List.mem_cons.1 hx with rfl | hx
        · exact h
        · exact h2 x hx
    · exact .inr ⟨0, p, c, by simp, rfl, h⟩
theorem out_some (last t : Int) (ws : List (Int × Int)) : ∃ c p, Out last t ws c p := by
  by_cases h : t ≤ last ∨ 1099511627776 < t
  · exact ⟨10, -1, .inl ⟨h, rfl, rfl⟩⟩
  · rcases first_bad ws with h2 | ⟨i, q, c, h2, h3, h4⟩
    · exact ⟨0, -1, .inr (.inr ⟨by omega, by omega, h2, rfl, rfl⟩)⟩
    · exact ⟨c, i, .inr (.inl ⟨by omega, by omega, i, q, h2, h3, h4, rfl⟩)⟩
def aftT (c t last : Int) : Int := if c = 0 then t else last
def aftK (c t : Int) (ws : List (Int × Int)) (ks : List (List (Int × Int))) : List (List (Int × Int)) := if c = 0 then instP t ws ks else ks
def aftL (c t : Int) (ws : List (Int × Int)) (L : List (Int × Int × Int)) : List (Int × Int × Int) := if c = 0 then L ++ addTo t ws 10 else L
theorem Out.ne {last t : Int} {ws : List (Int × Int)} {c p : Int} (h : Out last t ws c p) : c ≠ 0 ∨ (last < t ∧ t ≤ 1099511627776 ∧ (∀ p ∈ ws, Fine p) ∧ c = 0 ∧ p = -1) := by
  rcases h with h | ⟨_, _, i, q, _, _, hb, _⟩ | h
  · exact .inl (by omega)
  · exact .inl (by rcases hb.ne with h | h <;> omega)
  · exact .inr h
theorem Doc.out {last t : Int} {ks : List (List (Int × Int))} {L : List (Int × Int × Int)} (h : Doc last ks L) {ws : List (Int × Int)} {c p : Int} (ho : Out last t ws c p) : Doc (aftT c t last) (aftK c t ws ks) (aftL c t ws L) := by
  unfold aftT aftK aftL
  rcases ho.ne with h0 | ⟨h1, _, h3, h0, _⟩
  · rw [if_neg h0, if_neg h0, if_neg h0]; exact h
  · rw [if_pos h0, if_pos h0, if_pos h0]; exact h.inst h1 h3
theorem aftL_length (c t : Int) (ws : List (Int × Int)) (L : List (Int × Int × Int)) : (aftL c t ws L).length ≤ L.length + 10 := by
  unfold aftL
  split
  · have := addTo_length t ws 10
    rw [List.length_append]; omega
  · omega
theorem aftT_bound (c t last B : Int) (h1 : last ≤ B) (h2 : c = 0 → t ≤ B) : aftT c t last ≤ B := by
  unfold aftT
  split
  · exact h2 (by assumption)
  · exact h1

end Go.Proofs.YtjefgmeejhakbaaDoor
