/- The queue's Pop; container/heap over it. -/
import Derived.Test.YtjefgmeejhakbaaGreatDoorOrQueueR
import Derived.Lib.SliceRun
namespace Go.Proofs.YtjefgmeejhakbaaGreatDoor
open Go.RowKit
open Go.Sort (swp swp_left swp_right swp_other size_swp)
set_option maxRecDepth 100000 in
set_option maxHeartbeats 2000000 in
theorem qPop (Q : Nat) (v : Value) (d : Array Int) (w : World) (h : QAt w Q v d) (hd : d.size ≤ 100000) (h0 : 0 < d.size) :
    Calls Tryz.prog 271 #[.pointer (some ⟨Q, 0, none⟩)] w fun e w' => ∃ u, e = .returned u ∧ ∃ v', QAt w' Q v' d.pop ∧ KeptO (qOwn Q v) (qOwn Q v') w w' := by
  have c0 := h.cell
  have f0 := h.free
  obtain ⟨g, cap, rfl, hg, _, hc⟩ := h.rowAt h0
  have c1 := hc (d.size - 1) (by omega)
  obtain ⟨n, hn⟩ : ∃ n, d.size = n + 1 := ⟨d.size - 1, by omega⟩
  have hcap : n + 1 ≤ cap ∧ cap ≤ maxLen := by
    rcases h.row.2 with ⟨e, _⟩ | ⟨g', cap', cur, e, _, _, h1, h2, _⟩
    · cases e
    · cases e; rw [hn] at h1; exact ⟨h1, h2⟩
  have HH := hid h
  rw [hn] at c0 c1 HH ⊢
  rw [Nat.add_sub_cancel] at c1
  have hn1 : ((n + 1 : Nat) : Int) - 1 = (n : Int) := by omega
  clear h hc
  go_enter Tryz.func271, Tryz.ntmps271
  go_wp2
  go_ret
  have hg0 : w.grownBy w (some g) := ⟨rfl, rfl, rfl, Nat.le_refl _, fun _ _ _ => rfl⟩
  have hp := HH.out.put (d' := d.pop) (u := .slice (some ⟨g, 0, none⟩) n cap) hg0 ?_ (fun g' e => .inl e)
  · exact ⟨_, rfl, _, hp⟩
  · have hz : d.pop.size = n := by rw [Array.size_pop, hn]; rfl
    have hl : d.pop.toList = d.toList.take n := by rw [Array.toList_pop, List.dropLast_eq_take, Array.length_toList, hn]; rfl
    rw [hz, hl]
    refine ⟨by simp [intsV, hn], ?_⟩
    have hr := HH.out.row
    rw [hn] at hr
    rcases hr.2 with ⟨e, _⟩ | ⟨g', cap', cur, e, hb, hgg, _, h2, h3, h4⟩
    · cases e
    · cases e
      refine .inr ⟨g, cap, cur, rfl, hb, hgg, by omega, h2, h3, ?_⟩
      have e4 : intsV (d.toList.take n) = (intsV d.toList).take n := by simp [intsV, List.map_take]
      rw [e4, ← h4, List.take_take]
      congr 1
      omega
set_option maxRecDepth 100000 in
set_option maxHeartbeats 600000 in
theorem up_any (Q : Nat) (v : Value) (d : Array Int) (j : Nat) (w : World) (h : QAt w Q v d) (hd : d.size ≤ 100000) (hj : j < d.size) (hu : UpHole d d.size j) :
    Calls Tryz.prog 130 #[.iface 148 (.pointer (some ⟨Q, 0, none⟩)), .int .i64 j] w fun e w' => e = .returned (.tuple #[]) ∧ ∃ d', QAt w' Q v d' ∧ HeapP d' d'.size ∧ d'.toList.Perm d.toList ∧ KeptO (qOwn Q v) (qOwn Q v) w w' := by
  have H0 := hid h
  have HU := hid hu
  clear h hu
  go_enter Tryz.func130, Tryz.ntmps130
  go_wp2
  go_loopw [1] (fun vj wr => ∃ (j : Nat) (dk : Array Int), vj = .int .i64 j ∧ j < dk.size ∧ dk.size = d.size ∧ QAt wr Q v dk ∧ UpHole dk dk.size j ∧ dk.toList.Perm d.toList ∧ KeptO (qOwn Q v) (qOwn Q v) w wr) (fun vj _ => (intOf vj).toNat)
  case atStart => exact ⟨j, d, rfl, hj, rfl, H0.out, HU.out, List.Perm.refl _, KeptO.refl _ _⟩
  case round =>
    obtain ⟨j, dk, rfl, hj, hs, hQ, hu, hp, hK⟩ := hrel
    have HR := hid (And.intro hQ (And.intro hu (And.intro hp hK)))
    have hdk : dk.size ≤ 100000 := by omega
    have HS := hid hs
    clear hs
    have c0 := hQ.cell
    obtain ⟨g, cap, rfl, hg, hfz, hc⟩ := hQ.rowAt (by omega)
    by_cases hj0 : j = 0
    · subst hj0
      have HU1 := hid (up_zero hu)
      clear hQ hu hp hK hc
      go_wp2
      refine bodyPost_end (results_none rfl _ _ _) rfl ?_
      exact ⟨rfl, dk, HR.out.1, HU1.out, HR.out.2.2⟩
    · obtain ⟨i, hi⟩ : ∃ i, (j - 1) / 2 = i := ⟨_, rfl⟩
      have hij : i < j := by omega
      have hq : Int.tdiv ((j : Int) - 1) 2 = (i : Int) := by rw [Int.tdiv_eq_ediv_of_nonneg (by omega)]; omega
      have e1 : ((i : Int) == (j : Int)) = false := by simp; omega
      have cj := hc j hj
      have ci := hc i (by omega)
      have fj := hfz j
      have fi := hfz i
      have hmL := mLess c0
      have hmS : ∀ q, (method 464 148 (.pointer (some ⟨Q, 0, none⟩)) "Swap").run Tryz.prog (wr.drewN q) = .ok (270, .slice (some ⟨g, 0, none⟩) dk.size cap) (wr.drewN q) := fun q => mSwap (hQ.below (below_drewN (Below.refl _ _) q)).cell
      obtain ⟨x, hx⟩ : ∃ x, dk[j]! = x := ⟨_, rfl⟩
      obtain ⟨y, hy⟩ : ∃ y, dk[i]! = y := ⟨_, rfl⟩
      rw [hx] at cj
      rw [hy] at ci
      by_cases hlt : x < y
      · have hb : decide (x < y) = true := by simpa using hlt
        have HU1 := hid (up_step hu (by omega) hj (Nat.le_refl _) (by rw [hi, hx, hy]; exact hlt))
        clear hQ hu hp hK hc hfz
        go_wp2_with (first
          | (go_at_call 269; refine (qLess g dk.size cap j i x y _ hj (by omega) cj ci).mono ?_; rw [hb]; rintro e w' ⟨rfl, q, rfl⟩)
          | (go_at_call 270; refine (qSwap g dk.size cap i j y x _ (by omega) hj (by simpa using ci) (by simpa using cj) (by simpa using fi) (by simpa using fj)).mono ?_; rintro e w' ⟨rfl, q2, rfl⟩))
        go_roundw
        case rel =>
          have hsw := (HR.out.1.below (below_drewN (Below.refl _ _) q)).swapped (g := g) (i := i) (j := j) rfl q2
          rw [hx, hy] at hsw
          refine ⟨i, swp dk i j, rfl, by rw [size_swp]; omega, by rw [size_swp]; exact HS.out, hsw.1, ?_, ?_, (HR.out.2.2.2.drewN q).trans hsw.2⟩
          · rw [size_swp, ← hi]; exact HU1.out
          · exact (swp_perm dk i j (by omega) hj).trans HR.out.2.2.1
        case measure => simp [intOf]; omega
      · have hb : decide (x < y) = false := by simpa using hlt
        have HU1 := hid (up_stop hu (by rw [hi, hx, hy]; omega))
        clear hQ hu hp hK hc hfz
        go_wp2_with (go_at_call 269; refine (qLess g dk.size cap j i x y _ hj (by omega) cj ci).mono ?_; rw [hb]; rintro e w' ⟨rfl, q, rfl⟩)
        refine bodyPost_end (results_none rfl _ _ _) rfl ?_
        exact ⟨rfl, dk, HR.out.1.below (below_drewN (Below.refl _ _) q), HU1.out, HR.out.2.2.1, HR.out.2.2.2.drewN q⟩
set_option maxRecDepth 100000 in
set_option maxHeartbeats 1000000 in
theorem heapPush_any (Q : Nat) (v : Value) (d : Array Int) (x : Int) (w : World) (h : QAt w Q v d) (hd : d.size ≤ 10000) (hh : HeapP d d.size) :
    Calls Tryz.prog 72 #[.iface 148 (.pointer (some ⟨Q, 0, none⟩)), .iface 3 (.int .i64 x)] w fun e w' => e = .returned (.tuple #[]) ∧ ∃ v' d', QAt w' Q v' d' ∧ HeapP d' d'.size ∧ d'.toList.Perm (x :: d.toList) ∧ KeptO (qOwn Q v) (qOwn Q v') w w' := by
  have H0 := hid h
  have HH := hid hh
  have hm := mPush Q
  clear h hh
  go_enter Tryz.func72, Tryz.ntmps72
  go_wp2_with fail
  refine (qPush Q v d x w H0.out (by omega)).mono ?_
  rintro e w1 ⟨rfl, v1, hQ1, hK1⟩
  obtain ⟨ad, cap, rfl⟩ := hQ1.form
  have hmL := mLen hQ1.cell
  have hsz : (d.push x).size = d.size + 1 := Array.size_push ..
  have H1 := hid hQ1
  have HK := hid hK1
  rw [hsz] at hmL H1 HK
  clear hQ1 hK1
  go_wp2_with fail
  refine (qLen ad (d.size + 1) cap w1).mono ?_
  rintro e w2 ⟨rfl, rfl⟩
  go_wp2_with fail
  refine (up_any Q _ (d.push x) d.size w2 H1.out (by omega) (by omega) (by rw [hsz]; exact up_start HH.out x)).mono ?_
  rintro e w3 ⟨rfl, d', hQ3, hh3, hp3, hK3⟩
  have HF := hid (And.intro hQ3 (And.intro hh3 (And.intro hp3 (HK.out.trans hK3))))
  clear hQ3 hh3 hp3 hK3
  go_wp2
  refine bodyPost_end (results_none rfl _ _ _) rfl ?_
  refine ⟨rfl, _, d', HF.out.1, HF.out.2.1, HF.out.2.2.1.trans ?_, HF.out.2.2.2⟩
  rw [Array.toList_push]
  exact List.perm_append_singleton x d.toList
end Go.Proofs.YtjefgmeejhakbaaGreatDoor
