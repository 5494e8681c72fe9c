/- Plain: a heap of numbers: a hole goes up, a hole goes down, the root is the least. -/
import Derived.Sort.LotB
namespace Go.Proofs.YtjefgmeejhakbaaGreatDoor
open Go.Sort
def HeapP (d : Array Int) (n : Nat) : Prop := ∀ k, 0 < k → k < n → d[(k - 1) / 2]! ≤ d[k]!
def UpHole (d : Array Int) (n j : Nat) : Prop := (∀ k, 0 < k → k < n → k ≠ j → d[(k - 1) / 2]! ≤ d[k]!) ∧ (0 < j → ∀ k, 0 < k → k < n → (k - 1) / 2 = j → d[(j - 1) / 2]! ≤ d[k]!)
def DownHole (d : Array Int) (n i : Nat) : Prop := (∀ k, 0 < k → k < n → (k - 1) / 2 ≠ i → d[(k - 1) / 2]! ≤ d[k]!) ∧ (0 < i → ∀ k, 0 < k → k < n → (k - 1) / 2 = i → d[(i - 1) / 2]! ≤ d[k]!)
theorem up_zero {d : Array Int} {n : Nat} (h : UpHole d n 0) : HeapP d n := fun k h1 h2 => h.1 k h1 h2 (by omega)
theorem up_stop {d : Array Int} {n j : Nat} (h : UpHole d n j) (hj : d[(j - 1) / 2]! ≤ d[j]!) : HeapP d n := fun k h1 h2 => by
  by_cases e : k = j
  · subst e; exact hj
  · exact h.1 k h1 h2 e
theorem up_step {d : Array Int} {n j : Nat} (h : UpHole d n j) (hj0 : 0 < j) (hjn : j < n) (hn : n ≤ d.size) (hlt : d[j]! < d[(j - 1) / 2]!) : UpHole (swp d ((j - 1) / 2) j) n ((j - 1) / 2) := by
  have gI : (swp d ((j - 1) / 2) j)[(j - 1) / 2]! = d[j]! := swp_left d _ _ (by omega) (by omega)
  have gJ : (swp d ((j - 1) / 2) j)[j]! = d[(j - 1) / 2]! := swp_right d _ _ (by omega)
  have gO : ∀ k, k ≠ (j - 1) / 2 → k ≠ j → (swp d ((j - 1) / 2) j)[k]! = d[k]! := fun k h1 h2 => swp_other d _ _ _ h1 h2
  refine ⟨fun k hk0 hkn hki => ?_, fun hi0 k hk0 hkn hki => ?_⟩
  · by_cases ekj : k = j
    · subst ekj; rw [gI, gJ]; omega
    · rw [gO k hki ekj]
      by_cases e1 : (k - 1) / 2 = (j - 1) / 2
      · rw [e1, gI]
        have := h.1 k hk0 hkn ekj
        rw [e1] at this
        omega
      · by_cases e2 : (k - 1) / 2 = j
        · rw [e2, gJ]; exact h.2 hj0 k hk0 hkn e2
        · rw [gO _ e1 e2]; exact h.1 k hk0 hkn ekj
  · rw [gO _ (by omega) (by omega)]
    have h3 := h.1 ((j - 1) / 2) hi0 (by omega) (by omega)
    by_cases ekj : k = j
    · subst ekj; rw [gJ]; exact h3
    · rw [gO k (by omega) ekj]
      have := h.1 k hk0 hkn ekj
      rw [hki] at this
      omega
theorem down_stop {d : Array Int} {n i : Nat} (h : DownHole d n i) (hi : ∀ k, 0 < k → k < n → (k - 1) / 2 = i → d[i]! ≤ d[k]!) : HeapP d n := fun k h1 h2 => by
  by_cases e : (k - 1) / 2 = i
  · rw [e]; exact hi k h1 h2 e
  · exact h.1 k h1 h2 e
theorem down_step {d : Array Int} {n i c : Nat} (h : DownHole d n i) (hc0 : 0 < c) (hcn : c < n) (hci : (c - 1) / 2 = i) (hn : n ≤ d.size) (hlt : d[c]! < d[i]!) (hdom : ∀ k, 0 < k → k < n → (k - 1) / 2 = i → d[c]! ≤ d[k]!) : DownHole (swp d i c) n c := by
  have gI : (swp d i c)[i]! = d[c]! := swp_left d _ _ (by omega) (by omega)
  have gC : (swp d i c)[c]! = d[i]! := swp_right d _ _ (by omega)
  have gO : ∀ k, k ≠ i → k ≠ c → (swp d i c)[k]! = d[k]! := fun k h1 h2 => swp_other d _ _ _ h1 h2
  refine ⟨fun k hk0 hkn hkc => ?_, fun _ k hk0 hkn hkc => ?_⟩
  · by_cases eki : k = i
    · subst eki
      rw [gI, gO _ (by omega) (by omega)]
      exact h.2 hk0 c hc0 hcn hci
    · by_cases ekc : k = c
      · subst ekc; rw [hci, gI, gC]; omega
      · rw [gO k eki ekc]
        by_cases e : (k - 1) / 2 = i
        · rw [e, gI]; exact hdom k hk0 hkn e
        · rw [gO _ e hkc]; exact h.1 k hk0 hkn e
  · rw [hci, gI, gO k (by omega) (by omega)]
    have := h.1 k hk0 hkn (by omega)
    rw [hkc] at this
    exact this
theorem heap_root {d : Array Int} {n : Nat} (h : HeapP d n) : ∀ m k, k ≤ m → k < n → d[0]! ≤ d[k]!
  | 0, k, hk, _ => by rw [show k = 0 by omega]; exact Int.le_refl _
  | m + 1, k, hk, hn => by
    by_cases e : k = 0
    · rw [e]; exact Int.le_refl _
    · exact Int.le_trans (heap_root h m ((k - 1) / 2) (by omega) (by omega)) (h k (by omega) hn)
theorem down_start {d : Array Int} {n : Nat} (h : HeapP d (n + 1)) : DownHole (swp d 0 n) n 0 := by
  have gO : ∀ k, k ≠ 0 → k ≠ n → (swp d 0 n)[k]! = d[k]! := fun k h1 h2 => swp_other d _ _ _ h1 h2
  refine ⟨fun k hk0 hkn hk => ?_, fun h0 => absurd h0 (by omega)⟩
  rw [gO k (by omega) (by omega), gO _ hk (by omega)]
  exact h k hk0 (by omega)
theorem up_start {d : Array Int} (h : HeapP d d.size) (x : Int) : UpHole (d.push x) (d.size + 1) d.size := by
  have gO : ∀ k, k < d.size → (d.push x)[k]! = d[k]! := fun k hk => by
    simp [getElem!_def, Array.getElem?_push, show k ≠ d.size by omega]
  refine ⟨fun k hk0 hkn hk => ?_, fun _ k _ hkn hk => by omega⟩
  rw [gO k (by omega), gO _ (by omega)]
  exact h k hk0 (by omega)
theorem swp_perm (d : Array Int) (i j : Nat) (hi : i < d.size) (hj : j < d.size) : (swp d i j).toList.Perm d.toList := by
  have h := (swp_permIn d 0 d.size i j (Nat.zero_le _) hi (Nat.zero_le _) hj (Nat.le_refl _)).2.2
  have e := size_swp d i j
  rw [Array.extract_size] at h
  have h2 : (swp d i j).extract 0 d.size = swp d i j := by rw [← e, Array.extract_size]
  rwa [h2] at h
theorem swp_list (d : Array Int) (i j : Nat) : (swp d i j).toList = (d.toList.set i d[j]!).set j d[i]! := by simp [swp]
theorem rising_heap {d : Array Int} (h : d.toList.Pairwise (· ≤ ·)) : HeapP d d.size := fun k h0 h1 => by
  have := List.pairwise_iff_getElem.1 h ((k - 1) / 2) k (by simp; omega) (by simpa using h1) (by omega)
  have e1 : d[(k - 1) / 2]! = d.toList[(k - 1) / 2]'(by simp; omega) := by simp [getElem!_pos, show (k - 1) / 2 < d.size by omega]
  have e2 : d[k]! = d.toList[k]'(by simpa using h1) := by simp [getElem!_pos, h1]
  rw [e1, e2]; exact this
end Go.Proofs.YtjefgmeejhakbaaGreatDoor
