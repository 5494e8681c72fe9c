/- keep's does: a write. -/
import Derived.Test.YtjefgmeejhakbaaGreatDoorMgASQ
import Derived.Test.YtjefgmeejhakbaaGreatDoorMgADQ
import Derived.Deep.RegionHeld3
namespace Go.Proofs.YtjefgmeejhakbaaGreatDoor
open Go.RowKit
set_option maxRecDepth 1000000 in
set_option maxHeartbeats 4000000 in
theorem does_write {w0 : Gr} {w : World} {L : EnL} {E : Eng} {TL : TalL} {t : Tal} (h : TaleAt w0 w L E TL t) (hM : Mid0 E) (hst : 0 ≤ t.steps ∧ t.steps ≤ 1000) (lv lev tx key : Int) (hN : 0 < E.txs.length) (hn : 0 ≤ t.n ∧ t.n ≤ 1000) :
    Calls Tryz.prog 24 #[.pointer (some ⟨TL.b, 0, none⟩), .agg #[.int .i64 2, .int .i64 lev, .int .i64 tx, .int .i64 key], .int .i64 lv] w fun e w' => e = .returned (.tuple #[]) ∧
      ∃ L' E' TL' t', Does lv E t E' t' ∧ TaleAt w0 w' L' E' TL' t' ∧ L'.s = L.s ∧ TL'.b = TL.b := by
  have hc7 := h.tal.cell 7
  simp only [talCells, List.getElem?_toArray, List.getElem?_cons_zero, List.getElem?_cons_succ] at hc7
  have hf7 := h.tal.free 7
  have hbl : TL.b < w.heap.size := h.tal.own_lt (.inl rfl)
  obtain ⟨H1, hbox, hsz⟩ := step_at h (2, lev, tx, key)
  have gst : IntKind.i64.wrap (t.steps + 1) = t.steps + 1 := IntWalk.i64_in _ (by omega)
  go_enter Tryz.func24, Tryz.ntmps24
  go_wp2_with fail
  obtain ⟨w1, hw1⟩ : ∃ w1, stepW w TL.b (2, lev, tx, key) (t.steps + 1) = w1 := ⟨_, rfl⟩
  simp only [stepW, actV] at hw1
  rw [hw1]
  rw [show stepW w TL.b (2, lev, tx, key) (t.steps + 1) = w1 from hw1] at H1 hbox hsz
  have b0 : w1.cell? ⟨w.heap.size, 0, none⟩ = some (.int .i64 2) := (cell_of_row w1 _ 0 _ _ (0, 0) hbox).trans rfl
  have b2 : w1.cell? ⟨w.heap.size, 2, none⟩ = some (.int .i64 tx) := (cell_of_row w1 _ 2 _ _ (0, 0) hbox).trans rfl
  have c1 := H1.tal.cell 1
  simp only [talCells, List.getElem?_toArray, List.getElem?_cons_zero, List.getElem?_cons_succ] at c1
  obtain ⟨ad, cap, hr0⟩ := row_form (H1.tal.rows 0 (by omega))
  rw [hr0] at c1
  have HH := hid H1
  have HBX := hid hbox
  have g0 : ((2 : Int) == 0) = false := by decide
  have g5 : ((2 : Int) == 5) = false := by decide
  have hle := H1.en.le
  obtain ⟨N, hNN⟩ : ∃ N, E.txs.length = N := ⟨_, rfl⟩
  rw [hNN] at c1 hN hle
  have HNN := hid hNN
  have gN : ((N : Int) == 0) = false := by simp; omega
  clear hw1 h hc7 hf7 H1 hbox hr0 hNN
  refine (pick_eq _ _ _ (by decide) (by decide)).mono ?_
  rintro e w' ⟨rfl, hw'⟩
  rw [hw']
  clear hw' w'
  have hpk := pickP_in key 4 (by decide) (by decide)
  obtain ⟨kk, hkk⟩ : ∃ kk, pickP key 4 = kk := ⟨_, rfl⟩
  rw [hkk] at hpk ⊢
  have hm6 : 1 ≤ min 6 (N : Int) ∧ min 6 (N : Int) ≤ 6 := by omega
  have HPK := hid (fun nq => pick_eq tx (min 6 (N : Int)) (w1.drewN nq) hm6.1 (by omega))
  go_wp2_with fail
  go_quiet (first | (go_at_call 35; refine Calls.quiet_of_same (HPK.out _)))
  have hp := pickP_in tx (min 6 (N : Int)) hm6.1 (by omega)
  obtain ⟨x, hx, hxN⟩ : ∃ x : Nat, (N : Int) - pickP tx (min 6 (N : Int)) = (x : Int) + 1 ∧ x < N := ⟨((N : Int) - pickP tx (min 6 (N : Int)) - 1).toNat, by omega, by omega⟩
  have gx : wrap64 ((N : Int) - pickP tx (min 6 (N : Int))) = (x : Int) + 1 := by rw [hx]; exact IntWalk.wrap64_in _ (by omega)
  rw [gx]
  obtain ⟨w2, hw2⟩ : ∃ w2, w1.drewN nq = w2 := ⟨_, rfl⟩
  have HH2 := hid (show TaleAt w0 w2 L E TL (stepT t) by rw [← hw2]; exact HH.out.drewN nq)
  have b0' : w2.cell? ⟨w.heap.size, 0, none⟩ = some (.int .i64 2) := by rw [← hw2, World.cell?_drewN]; exact b0
  rw [hw2]
  have HXN := hid hxN
  have gs : wrap64 ((x : Int) + 1 - 1) = (x : Int) := by rw [show (x : Int) + 1 - 1 = (x : Int) by omega]; exact IntWalk.wrap64_in _ (by omega)
  clear hw2 HH HPK hp hx gx b0 b2 c1 HBX
  obtain ⟨u, hu⟩ : ∃ u, E.txs[x]? = some u := ⟨E.txs[x]'(by have := HNN.out; have := HXN.out; omega), List.getElem?_eq_getElem _⟩
  have HU := hid hu
  have c0 := HH2.out.tal.cell 0
  simp only [talCells, List.getElem?_toArray, List.getElem?_cons_zero] at c0
  have HM := hid hM
  clear hu hM
  have c8 := HH2.out.tal.cell 8
  simp only [talCells, List.getElem?_toArray, List.getElem?_cons_zero, List.getElem?_cons_succ] at c8
  have c8' : w2.cell? ⟨TL.b, 8, none⟩ = some (.int .i64 t.n) := c8
  have f8 := HH2.out.tal.free 8
  have gn : IntKind.i64.wrap (t.n + 1) = t.n + 1 := IntWalk.i64_in _ (by omega)
  obtain ⟨hT3, hK3⟩ := HH2.out.tal.setHead (o := 8) (u := .int .i64 (t.n + 1)) (steps := (stepT t).steps) (n := t.n + 1) (broken := (stepT t).broken) (by simp [talCells])
  have H3' : TaleAt w0 (w2.setCell ⟨TL.b, 8, none⟩ (.int .i64 (t.n + 1))) L E TL (nextT (stepT t)) := HH2.out.tale hT3 hK3
  clear c8 hT3 hK3
  go_wp2_with fail
  obtain ⟨w3, hw3⟩ : ∃ w3, w2.setCell ⟨TL.b, 8, none⟩ (.int .i64 (t.n + 1)) = w3 := ⟨_, rfl⟩
  rw [hw3] at H3' ⊢
  have H3 := hid H3'
  have HST := hid (state_ok H3'.en HU.out)
  obtain ⟨st, hst2⟩ : ∃ st, u.state = st := ⟨_, rfl⟩
  rw [hst2] at HST
  have HST2 := hid hst2
  clear hw3 H3' HH2 c0 c8' f8 hst2
  refine HST.out.mono ?_
  rintro e w4 ⟨rfl, q4, hw4⟩
  have H4 := hid (show TaleAt w0 w4 L E TL (nextT (stepT t)) by rw [hw4]; exact H3.out.drewN q4)
  clear hw4 H3 HST
  have c0 := H4.out.tal.cell 0
  have c8 := H4.out.tal.cell 8
  simp only [talCells, List.getElem?_toArray, List.getElem?_cons_zero, List.getElem?_cons_succ] at c0 c8
  have c8' : w4.cell? ⟨TL.b, 8, none⟩ = some (.int .i64 (t.n + 1)) := c8
  clear c8
  by_cases hs : st = 0
  · subst hs
    obtain ⟨q, hq⟩ := HM.out.loc.good.rank
    obtain ⟨⟨⟨ok, c⟩, E'⟩, hR⟩ := write_ends HM.out HU.out HST2.out (key := kk) (val := t.n + 1) (by omega) (by omega) hq
    have HD := hid (Does.write (lv := lv) E t x u kk q _ HU.out HST2.out hpk hq hR)
    have HW := hid (fun W (hB : Below w4.heap.size w4 W) => write_main (H4.out.en.below hB) HM.out.fits hq HU.out HST2.out (key := kk) (val := t.n + 1) (by omega) (by omega) hR)
    have HP := hid (fun W W' (hB : Below w4.heap.size w4 W) (hP : EnPost L E' W W') => (H4.out.below hB).post hP)
    simp only at HD
    clear hR hq
    go_wp2
    go_region_held3 (fun W => W.cell? ⟨TL.b, 0, none⟩ = some (ptrV L.s) ∧ W.cell? ⟨TL.b, 8, none⟩ = some (.int .i64 (t.n + 1)))
      (first | go_keep | exact sK5)
      (first
        | (go_at_call 53
           refine (HW.out _ ((Below.refl _ w4).drew)).mono ?_
           rintro e w5 ⟨rfl, hP⟩
           obtain ⟨L5, hT5, hs5, hl5⟩ := HP.out _ w5 ((Below.refl _ w4).drew) hP
           have HT5 := hid hT5
           have HS5 := hid hs5
           have HN5 := hid (hl5.trans HNN.out)
           have sK5 : w5.cell? ⟨TL.b, 0, none⟩ = some (ptrV L.s) ∧ w5.cell? ⟨TL.b, 8, none⟩ = some (.int .i64 (t.n + 1)) := by
             have k0 := hT5.tal.cell 0
             have k8 := hT5.tal.cell 8
             simp only [talCells, List.getElem?_toArray, List.getElem?_cons_zero, List.getElem?_cons_succ] at k0 k8
             rw [hs5] at k0
             exact ⟨k0, k8⟩
           clear hP hT5 hs5 hl5)
        | fail)
    by_cases hc : c = 0
    · subst hc
      obtain ⟨ob, f, hob, hof⟩ := HT5.out.tal.getO (i := x) (by rw [HN5.out]; exact HXN.out)
      have hfx : ownT (nextT (stepT t)) x = f := by unfold ownT; rw [show (nextT (stepT t)).own[x]? = some f from hof]; rfl
      have k8 : w5.cell? ⟨TL.b, 8, none⟩ = some (.int .i64 (t.n + 1)) := sK5.2
      have k3 := HT5.out.tal.cell 3
      simp only [talCells, List.getElem?_toArray, List.getElem?_cons_zero, List.getElem?_cons_succ] at k3
      rcases row_slice (HT5.out.tal.rows 2 (by omega)) with ⟨_, e0⟩ | ⟨q2, cap2, hr2, hq2, hcs2⟩
      · have := HN5.out; have := HXN.out; omega
      rw [HN5.out] at hr2
      rw [hr2] at k3
      have d2 : w5.cell? ⟨q2, x, none⟩ = some (.map (some ob)) := hcs2 x _ (show (TL.om.map mapV)[x]? = some (mapV ob) from by rw [List.getElem?_map, hob]; rfl)
      have g1 : (x : Int) < (N : Int) := by have := HXN.out; omega
      have g2 : (0 : Int) ≤ (x : Int) := by omega
      obtain ⟨w6, hr, hT6, hK6⟩ := (HT5.out.drewN 1).tal.setOwn hob hof (key := kk) (val := t.n + 1) (by omega)
      have hr' : (Instr.mapUpdate 69 (.map (some ob)) (.int .i64 kk) (.int .i64 (t.n + 1))).run Tryz.prog w5.drew = .ok () w6 := hr
      have H6' : TaleAt w0 w6 L5 E' TL { nextT (stepT t) with own := (nextT (stepT t)).own.set x (updT f kk (some (t.n + 1))) } := (HT5.out.drewN 1).tale hT6 hK6
      have H6 := hid H6'
      have s3 := H6'.tal.cell 3
      have s8 := H6'.tal.cell 8
      have s0 := H6'.tal.cell 0
      simp only [talCells, List.getElem?_toArray, List.getElem?_cons_zero, List.getElem?_cons_succ] at s3 s8 s0
      rw [hr2] at s3
      have s8' : w6.cell? ⟨TL.b, 8, none⟩ = some (.int .i64 (t.n + 1)) := s8
      have s2 : w6.cell? ⟨q2, x, none⟩ = some (.map (some ob)) := by
        have h2 := H6'.tal.rows 2 (by omega)
        rw [HN5.out, hr2] at h2
        have := h2.cells (g := q2) rfl x _ (show (TL.om.map mapV)[x]? = some (mapV ob) from by rw [List.getElem?_map, hob]; rfl)
        rwa [addr_add] at this
      obtain ⟨u', hu'⟩ : ∃ u', E'.txs[x]? = some u' := ⟨E'.txs[x]'(by have := HN5.out; have := HXN.out; omega), List.getElem?_eq_getElem _⟩
      have HST6 := hid (state_ok H6'.en hu')
      have HWT := hid (show ∀ o, writeT (nextT (stepT t)) x kk (ok, 0) o = { nextT (stepT t) with own := (nextT (stepT t)).own.set x (updT f kk (some (t.n + 1))), broken := (nextT (stepT t)).broken || ok != o } from fun o => by unfold writeT; rw [if_neg (by simp), hfx]; rfl)
      have HOP := hid (show openB E' x = decide (u'.state = 0) from by unfold openB; rw [hu'])
      rw [show errV 0 = Value.nilIface from rfl]
      clear H6' s8 hr hT6 hK6 hob hof hfx hr2 hcs2 hu' sK5 HW HP c0 c8'
      go_wp2
      go_region_held3 (fun W => W.cell? ⟨TL.b, 3, none⟩ = some (.slice (some ⟨q2, 0, none⟩) N cap2) ∧ W.cell? ⟨TL.b, 8, none⟩ = some (.int .i64 (t.n + 1)) ∧ W.cell? ⟨q2, x, none⟩ = some (.map (some ob)))
        (first | go_keep | exact ⟨s3, s8', s2⟩)
        (fail)
      go_wp2_with fail
      refine HST6.out.mono ?_
      rintro e w7 ⟨rfl, q7, hw7⟩
      have H7 := hid (show TaleAt w0 w7 L5 E' TL { nextT (stepT t) with own := (nextT (stepT t)).own.set x (updT f kk (some (t.n + 1))) } by rw [hw7]; exact H6.out.drewN q7)
      obtain ⟨st', hst'⟩ : ∃ st', u'.state = st' := ⟨_, rfl⟩
      rw [hst'] at HOP ⊢
      clear hw7 H6 HST6 s3 s8' s2 s0 k3 k8 d2 hst'
      rw [HOP.out, HWT.out] at HD
      have c9 := H7.out.tal.cell 9
      simp only [talCells, List.getElem?_toArray, List.getElem?_cons_zero, List.getElem?_cons_succ] at c9
      have f9 := H7.out.tal.free 9
      by_cases hq : ok = decide (st' = 0)
      · have e9 : ({ nextT (stepT t) with own := (nextT (stepT t)).own.set x (updT f kk (some (t.n + 1))), broken := (nextT (stepT t)).broken || ok != decide (st' = 0) } : Tal) = { nextT (stepT t) with own := (nextT (stepT t)).own.set x (updT f kk (some (t.n + 1))) } := by rw [show (ok != decide (st' = 0)) = false by simpa using hq, Bool.or_false]
        rw [e9] at HD
        by_cases hz : st' = 0
        · have hz2 : (st' == 0) = true := by simpa using hz
          have hok : ok = true := by rw [hq]; simpa using hz
          subst hok
          clear e9 hq
          go_wp2
          refine over_loop' H7 HN5 hle rfl _ ?_ _ (by simp) rfl rfl rfl
          rintro a' w' ⟨hd, hT⟩
          go_wp2
          exact bodyPost_end (results_none rfl _ _ _) hd ⟨rfl, L5, _, TL, _, HD.out, hT, HS5.out, rfl⟩
        · have hz2 : (st' == 0) = false := by simpa using hz
          have hok : ok = false := by rw [hq]; simpa using hz
          subst hok
          clear e9 hq
          go_wp2
          refine over_loop' H7 HN5 hle rfl _ ?_ _ (by simp) rfl rfl rfl
          rintro a' w' ⟨hd, hT⟩
          go_wp2
          exact bodyPost_end (results_none rfl _ _ _) hd ⟨rfl, L5, _, TL, _, HD.out, hT, HS5.out, rfl⟩
      · have e9 : ({ nextT (stepT t) with own := (nextT (stepT t)).own.set x (updT f kk (some (t.n + 1))), broken := (nextT (stepT t)).broken || ok != decide (st' = 0) } : Tal) = { nextT (stepT t) with own := (nextT (stepT t)).own.set x (updT f kk (some (t.n + 1))), broken := true } := by rw [show (ok != decide (st' = 0)) = true by simpa using hq, Bool.or_true]
        rw [e9] at HD
        obtain ⟨hT8, hK8⟩ := H7.out.tal.setHead (o := 9) (u := .bool true) (steps := (stepT t).steps) (n := t.n + 1) (broken := true) (by simp [talCells, nextT, stepT])
        have H8 := hid (H7.out.tale hT8 hK8)
        by_cases hz : st' = 0
        · have hz2 : (st' == 0) = true := by simpa using hz
          have hok : ok = false := by
            cases ok with
            | false => rfl
            | true => exact (hq (by simpa using hz)).elim
          subst hok
          clear e9 hq hT8 hK8
          go_wp2
          refine over_loop' H8 HN5 hle rfl _ ?_ _ (by simp) rfl rfl rfl
          rintro a' w' ⟨hd, hT⟩
          go_wp2
          exact bodyPost_end (results_none rfl _ _ _) hd ⟨rfl, L5, _, TL, _, HD.out, hT, HS5.out, rfl⟩
        · have hz2 : (st' == 0) = false := by simpa using hz
          have hok : ok = true := by
            cases ok with
            | true => rfl
            | false => exact (hq (by simpa using hz)).elim
          subst hok
          clear e9 hq hT8 hK8
          go_wp2
          refine over_loop' H8 HN5 hle rfl _ ?_ _ (by simp) rfl rfl rfl
          rintro a' w' ⟨hd, hT⟩
          go_wp2
          exact bodyPost_end (results_none rfl _ _ _) hd ⟨rfl, L5, _, TL, _, HD.out, hT, HS5.out, rfl⟩
    · have HD2 := hid (show Does lv E t E' (endT E' (nextT (stepT t))) from by have := HD.out; unfold writeT at this; rw [if_pos (by simpa using hc)] at this; exact this)
      have he : errV c = .iface 24 (.int .i64 c) := if_neg hc
      rw [he]
      clear he HD HW HP sK5
      go_wp2
      refine over_loop' HT5 HN5 hle rfl _ ?_ _ (by simp) rfl rfl rfl
      rintro a' w' ⟨hd, hT⟩
      go_wp2
      exact bodyPost_end (results_none rfl _ _ _) hd ⟨rfl, L5, _, TL, _, HD2.out, hT, HS5.out, rfl⟩
  · have gs : (st == 0) = false := by simpa using hs
    have HW := hid (fun W (hB : Below w4.heap.size w4 W) => write_shut (H4.out.en.below hB) (n := (x : Int) + 1) (key := kk) (val := t.n + 1) (.inr ⟨rfl, x, u, rfl, HU.out, by rw [HST2.out]; exact hs⟩))
    go_wp2
    go_quiet (first | (go_at_call 53; refine Calls.quiet_of_same (HW.out _ (below_drewN (Below.refl _ w4) _))))
    have H5 := hid (H4.out.drewN nq)
    clear H4 HW c0 c8'
    go_wp2
    refine over_loop' H5 HNN hle rfl _ ?_ _ (by simp) rfl rfl rfl
    rintro a' w' ⟨hd, hT⟩
    go_wp2
    exact bodyPost_end (results_none rfl _ _ _) hd ⟨rfl, L, _, TL, _, Does.wshut E t, hT, rfl, rfl⟩
end Go.Proofs.YtjefgmeejhakbaaGreatDoor
