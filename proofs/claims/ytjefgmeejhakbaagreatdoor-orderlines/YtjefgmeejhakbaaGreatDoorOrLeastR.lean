/- container/heap.Pop over the queue; least. -/
import Derived.Test.YtjefgmeejhakbaaGreatDoorOrDownR
namespace Go.Proofs.YtjefgmeejhakbaaGreatDoor
open Go.RowKit
open Go.Sort (swp swp_left swp_right swp_other size_swp)
theorem pop_get {d : Array Int} {n : Nat} (hn : d.size = n + 1) (k : Nat) (hk : k < n) : d.pop[k]! = d[k]! := by
  simp [hk, hn, show k < n + 1 by omega]
theorem pop_list {d : Array Int} {n : Nat} (hn : d.size = n + 1) : d.toList = d.pop.toList ++ [d[n]!] := by
  apply List.ext_getElem?
  intro k
  rw [List.getElem?_append]
  by_cases hk : k < n
  · rw [if_pos (by simp [hn]; exact hk)]
    simp [hn, hk]
  · by_cases e : k = n
    · subst e; simp [hn]
    · rw [if_neg (by simp [hn]; omega)]
      simp [hn, show ¬ k < n + 1 by omega, show k - n ≠ 0 by omega]
set_option maxRecDepth 100000 in
set_option maxHeartbeats 600000 in
theorem heapPop_any (Q : Nat) (v : Value) (d : Array Int) (w : World) (h : QAt w Q v d) (hd : d.size ≤ 10000) (h0 : 0 < d.size) (hh : HeapP d d.size) :
    Calls Tryz.prog 127 #[.iface 148 (.pointer (some ⟨Q, 0, none⟩))] w fun e w' => ∃ u, e = .returned u ∧ ∃ v' d', QAt w' Q v' d' ∧ HeapP d' d'.size ∧ (d[0]! :: d'.toList).Perm d.toList ∧ KeptO (qOwn Q v) (qOwn Q v') w w' := by
  obtain ⟨n, hn⟩ : ∃ n, d.size = n + 1 := ⟨d.size - 1, by omega⟩
  obtain ⟨g, cap, rfl, hg, hfz, hc⟩ := h.rowAt h0
  have hmL := mLen h.cell
  have hmS := mSwap h.cell
  have hmP := mPop Q
  have c1 := hc 0 h0
  have c2 := hc n (by omega)
  have f1 := hfz 0
  have f2 := hfz n
  have H0 := hid h
  have HH := hid hh
  have HN := hid hn
  have hn1 : n ≤ 10000 := by omega
  rw [hn] at hmL hmS
  obtain ⟨x, hx⟩ : ∃ x, d[0]! = x := ⟨_, rfl⟩
  obtain ⟨y, hy⟩ : ∃ y, d[n]! = y := ⟨_, rfl⟩
  have HX := hid hx
  have HY := hid hy
  rw [hx] at c1
  rw [hy] at c2
  rw [hx]
  clear h hh hc hfz hn hx hy
  go_enter Tryz.func127, Tryz.ntmps127
  go_wp2_with fail
  refine (qLen (some ⟨g, 0, none⟩) (n + 1) cap w).mono ?_
  rintro e w1 ⟨rfl, rfl⟩
  go_wp2_with fail
  refine (qSwapI g (n + 1) cap 0 n _ _ x y w1 (by omega) (by omega) (by omega) (by omega) c1 c2 f1 f2).mono ?_
  rintro e w2 ⟨rfl, q, rfl⟩
  have hsw := H0.out.swapped (g := g) (i := 0) (j := n) rfl q
  rw [HX.out, HY.out] at hsw
  generalize ((w1.setCell ⟨g, 0, none⟩ (.int .i64 y)).setCell ⟨g, n, none⟩ (.int .i64 x)).drewN q = w2 at hsw ⊢
  have HS := hid hsw
  clear hsw
  go_wp2_with fail
  refine (down_any Q _ (swp d 0 n) n w2 HS.out.1 (by rw [size_swp]; omega) (by rw [size_swp]; exact HN.out) (down_start (by rw [← HN.out]; exact HH.out))).mono ?_
  rintro e w3 ⟨b, rfl, d2, hQ2, hz2, hh2, hl2, hp2, hK2⟩
  have HD := hid (And.intro hQ2 (And.intro hz2 (And.intro hh2 (And.intro hl2 (And.intro hp2 hK2)))))
  clear hQ2 hz2 hh2 hl2 hp2 hK2
  go_wp2_with fail
  refine (qPop Q _ d2 w3 HD.out.1 (by rw [HD.out.2.1]; have := HN.out; omega) (by rw [HD.out.2.1]; omega)).mono ?_
  rintro e w4 ⟨u, rfl, v4, hQ4, hK4⟩
  have H4 := hid (And.intro hQ4 hK4)
  clear hQ4 hK4
  go_wp2
  go_ret
  obtain ⟨_, hz2, hh2, hl2, hp2, hK2⟩ := HD.out
  refine ⟨u, rfl, v4, d2.pop, H4.out.1, ?_, ?_, (HS.out.2.trans hK2).trans H4.out.2⟩
  · have hz : d2.pop.size = n := by rw [Array.size_pop, hz2]; rfl
    rw [hz]
    intro k hk0 hkn
    rw [pop_get hz2 _ (by omega), pop_get hz2 _ hkn]
    exact hh2 k hk0 hkn
  · have e1 : d2[n]! = x := by
      rw [hl2, Go.Sort.swp_right d 0 n (by rw [HN.out]; omega)]; exact HX.out
    have e2 := pop_list hz2
    rw [e1] at e2
    have p1 := hp2.trans (swp_perm d 0 n (by rw [HN.out]; omega) (by rw [HN.out]; omega))
    rw [e2] at p1
    exact (List.perm_append_singleton x d2.pop.toList).symm.trans p1
set_option maxRecDepth 100000 in
set_option maxHeartbeats 1000000 in
theorem least_any (Q : Nat) (v : Value) (d : Array Int) (w : World) (h : QAt w Q v d) (hd : d.size ≤ 10000) (h0 : 0 < d.size) (hh : HeapP d d.size) :
    Calls Tryz.prog 70 #[.pointer (some ⟨Q, 0, none⟩)] w fun e w' => e = .returned (.int .i64 d[0]!) ∧ ∃ v' d', QAt w' Q v' d' ∧ HeapP d' d'.size ∧ (d[0]! :: d'.toList).Perm d.toList ∧ KeptO (qOwn Q v) (qOwn Q v') w w' := by
  obtain ⟨g, cap, rfl, hg, hfz, hc⟩ := h.rowAt h0
  have c0 := h.cell
  have c1 := hc 0 h0
  obtain ⟨x, hx⟩ : ∃ x, d[0]! = x := ⟨_, rfl⟩
  have HX := hid hx
  have hd0 : (0 : Int) < (d.size : Int) := by omega
  rw [hx] at c1 ⊢
  have hcon := heapPop_any Q _ d w h hd h0 hh
  rw [hx] at hcon
  have HC := hid hcon
  clear h hh hc hfz hcon hx
  go_enter Tryz.func70, Tryz.ntmps70
  go_wp2_with fail
  refine HC.out.mono ?_
  rintro e w1 ⟨u, rfl, v', d', hF⟩
  have HF := hid hF
  clear hF
  go_wp2
  go_ret
  exact ⟨rfl, v', d', HF.out⟩
end Go.Proofs.YtjefgmeejhakbaaGreatDoor
