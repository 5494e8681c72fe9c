/- keep's does: a commit, an abort, and what is none of all. -/
import Derived.Test.YtjefgmeejhakbaaGreatDoorMgASQ
import Derived.Test.YtjefgmeejhakbaaGreatDoorKtLoopQ
import Derived.Test.YtjefgmeejhakbaaGreatDoorMgADQ
namespace Go.Proofs.YtjefgmeejhakbaaGreatDoor
open Go.RowKit
set_option maxRecDepth 1000000 in
set_option maxHeartbeats 4000000 in
theorem does_commit {w0 : Gr} {w : World} {L : EnL} {E : Eng} {TL : TalL} {t : Tal} (h : TaleAt w0 w L E TL t) (hM : Mid0 E) (hst : 0 ≤ t.steps ∧ t.steps ≤ 1000) (lv lev tx key : Int) (hN : 0 < E.txs.length) :
    Calls Tryz.prog 24 #[.pointer (some ⟨TL.b, 0, none⟩), .agg #[.int .i64 3, .int .i64 lev, .int .i64 tx, .int .i64 key], .int .i64 lv] w fun e w' => e = .returned (.tuple #[]) ∧
      ∃ L' E' TL' t', Does lv E t E' t' ∧ TaleAt w0 w' L' E' TL' t' ∧ L'.s = L.s ∧ TL'.b = TL.b := by
  have hc7 := h.tal.cell 7
  simp only [talCells, List.getElem?_toArray, List.getElem?_cons_zero, List.getElem?_cons_succ] at hc7
  have hf7 := h.tal.free 7
  have hbl : TL.b < w.heap.size := h.tal.own_lt (.inl rfl)
  obtain ⟨H1, hbox, hsz⟩ := step_at h (3, lev, tx, key)
  have gst : IntKind.i64.wrap (t.steps + 1) = t.steps + 1 := IntWalk.i64_in _ (by omega)
  go_enter Tryz.func24, Tryz.ntmps24
  go_wp2_with fail
  obtain ⟨w1, hw1⟩ : ∃ w1, stepW w TL.b (3, lev, tx, key) (t.steps + 1) = w1 := ⟨_, rfl⟩
  simp only [stepW, actV] at hw1
  rw [hw1]
  rw [show stepW w TL.b (3, lev, tx, key) (t.steps + 1) = w1 from hw1] at H1 hbox hsz
  have b0 : w1.cell? ⟨w.heap.size, 0, none⟩ = some (.int .i64 3) := (cell_of_row w1 _ 0 _ _ (0, 0) hbox).trans rfl
  have b2 : w1.cell? ⟨w.heap.size, 2, none⟩ = some (.int .i64 tx) := (cell_of_row w1 _ 2 _ _ (0, 0) hbox).trans rfl
  have c1 := H1.tal.cell 1
  simp only [talCells, List.getElem?_toArray, List.getElem?_cons_zero, List.getElem?_cons_succ] at c1
  obtain ⟨ad, cap, hr0⟩ := row_form (H1.tal.rows 0 (by omega))
  rw [hr0] at c1
  have HH := hid H1
  have HBX := hid hbox
  have g0 : ((3 : Int) == 0) = false := by decide
  have g5 : ((3 : Int) == 5) = false := by decide
  have hle := H1.en.le
  obtain ⟨N, hNN⟩ : ∃ N, E.txs.length = N := ⟨_, rfl⟩
  rw [hNN] at c1 hN hle
  have HNN := hid hNN
  have gN : ((N : Int) == 0) = false := by simp; omega
  clear hw1 h hc7 hf7 H1 hbox hr0 hNN
  refine (pick_eq _ _ _ (by decide) (by decide)).mono ?_
  rintro e w' ⟨rfl, hw'⟩
  rw [hw']
  clear hw' w'
  have hpk := pickP_in key 4 (by decide) (by decide)
  obtain ⟨kk, hkk⟩ : ∃ kk, pickP key 4 = kk := ⟨_, rfl⟩
  rw [hkk] at hpk ⊢
  have hm6 : 1 ≤ min 6 (N : Int) ∧ min 6 (N : Int) ≤ 6 := by omega
  have HPK := hid (fun nq => pick_eq tx (min 6 (N : Int)) (w1.drewN nq) hm6.1 (by omega))
  go_wp2_with fail
  go_quiet (first | (go_at_call 35; refine Calls.quiet_of_same (HPK.out _)))
  have hp := pickP_in tx (min 6 (N : Int)) hm6.1 (by omega)
  obtain ⟨x, hx, hxN⟩ : ∃ x : Nat, (N : Int) - pickP tx (min 6 (N : Int)) = (x : Int) + 1 ∧ x < N := ⟨((N : Int) - pickP tx (min 6 (N : Int)) - 1).toNat, by omega, by omega⟩
  have gx : wrap64 ((N : Int) - pickP tx (min 6 (N : Int))) = (x : Int) + 1 := by rw [hx]; exact IntWalk.wrap64_in _ (by omega)
  rw [gx]
  obtain ⟨w2, hw2⟩ : ∃ w2, w1.drewN nq = w2 := ⟨_, rfl⟩
  have HH2 := hid (show TaleAt w0 w2 L E TL (stepT t) by rw [← hw2]; exact HH.out.drewN nq)
  have b0' : w2.cell? ⟨w.heap.size, 0, none⟩ = some (.int .i64 3) := by rw [← hw2, World.cell?_drewN]; exact b0
  rw [hw2]
  have HXN := hid hxN
  have gs : wrap64 ((x : Int) + 1 - 1) = (x : Int) := by rw [show (x : Int) + 1 - 1 = (x : Int) by omega]; exact IntWalk.wrap64_in _ (by omega)
  clear hw2 HH HPK hp hx gx b0 b2 c1 HBX
  obtain ⟨u, hu⟩ : ∃ u, E.txs[x]? = some u := ⟨E.txs[x]'(by have := HNN.out; have := HXN.out; omega), List.getElem?_eq_getElem _⟩
  have HU := hid hu
  have c0 := HH2.out.tal.cell 0
  simp only [talCells, List.getElem?_toArray, List.getElem?_cons_zero] at c0
  have HM := hid hM
  clear hu hM
  by_cases hs : u.state = 0
  · obtain ⟨R, hR⟩ := commit_ends HM.out HU.out hs
    have HC := hid (commit_main HH2.out.en HM.out.fits HU.out hs (HM.out.fine HU.out) (by have := HM.out.last_le; have e : E.ce.last = E.last := rfl; omega) (by have := HM.out.com.nwc; have := HM.out.cw_len; have e : E.ce.nw = E.nw := rfl; omega) (by have := HM.out.com_len; have e : E.ce.com = E.com := rfl; rw [e] at this; omega) (HM.out.inst_ks x) hR)
    have HD := hid (Does.commit (lv := lv) E t x u R HU.out hs hR)
    clear hR
    go_wp2_with fail
    refine HC.out.mono ?_
    rintro e w4 ⟨rfl, hP⟩
    obtain ⟨L4, hT4, hs4, hl4⟩ := HH2.out.post hP
    have HT4 := hid hT4
    have HS4 := hid hs4
    have HN4 := hid (hl4.trans HNN.out)
    clear hT4 hs4 hl4 hP
    go_wp2
    refine over_loop HT4 HN4 hle rfl _ ?_ _ _ _ _ _ _ _ _ _ _ _ _ _ _ _ _ _ _ _ _ _ _ _ _ _ _ _ _ _ _ _ _ _ _ _ _ _ _ _ _ _ _ _ _ _ _ _ _ _ _ _ _ _ _ _ _ _ _ _ _ _ _ _ _ _ _ _ _ _ _ _ _ _ _ _ _ _ _ _ _ _ _ _ _ _ _ _ _ _ _ _ _ _ _ _ _ _ _ _ _ _ _ _ _ _ _ _ _ _ _ _ _ _ _ _ _ _ _ _ _ _ _ _ _ _ _ _ _ _ _ _ _ _ _ _ _ _ _ _ _ _ _ _ _ _ _ _ _ _ _ _ _ _ _ _ _ _ _ _ _ _ _ _ _ _ _ _ _ _ _ _ _ _ _ _ _ _ _ _ _ _ _ _ _ _ _ _ _ _ _ _ _ _ _ _ _ _ _ _ _ _ _ _ _ _ _ _ _ _ _ _ _ _ _ _ _ _ _ _ _ _ _ _ _ _ _ _ _ _ _ _ _ _ _ _ _ _ _ _ _ _ _ _ _ _ _ _ _ _ _ _ _ _ _ _ _ _ _ _ _ _ _ _ _ _ _ _ _ _ _ _ _ _ _ _ _ _ _ _ _ _ _ _ _ _ _ _ _ _ _ _ _ _ _ _ _ _ _ _ _ _ _ _ _ _ _ _ _ _ _ _ _ _ _ _ _ _ _ _ _ _ _ _ _ _ _ _ _ _ _ _ _ _ _ _ _ _ _ _ _ _ _ _ _ _ _ _ _ _ _ _ _ _ _ _ _ _ _ _ _ _ _ _ _ _ _ _ _ _ _ _ _ _ _ _ _ _ _ _ _ _ _ _ _ _ _ _ _ _ _ _ _
    rintro a' w' ⟨hd, hT⟩
    go_wp2
    exact bodyPost_end (results_none rfl _ _ _) hd ⟨rfl, L4, _, TL, _, HD.out, hT, HS4.out, rfl⟩
  · have HC := hid (commit_shut HH2.out.en (n := (x : Int) + 1) (.inr ⟨rfl, x, u, rfl, HU.out, hs⟩))
    go_wp2_with fail
    refine HC.out.mono ?_
    rintro e w4 ⟨rfl, hw4⟩
    rw [hw4]
    clear hw4
    go_wp2
    refine over_loop HH2 HNN hle rfl _ ?_ _ _ _ _ _ _ _ _ _ _ _ _ _ _ _ _ _ _ _ _ _ _ _ _ _ _ _ _ _ _ _ _ _ _ _ _ _ _ _ _ _ _ _ _ _ _ _ _ _ _ _ _ _ _ _ _ _ _ _ _ _ _ _ _ _ _ _ _ _ _ _ _ _ _ _ _ _ _ _ _ _ _ _ _ _ _ _ _ _ _ _ _ _ _ _ _ _ _ _ _ _ _ _ _ _ _ _ _ _ _ _ _ _ _ _ _ _ _ _ _ _ _ _ _ _ _ _ _ _ _ _ _ _ _ _ _ _ _ _ _ _ _ _ _ _ _ _ _ _ _ _ _ _ _ _ _ _ _ _ _ _ _ _ _ _ _ _ _ _ _ _ _ _ _ _ _ _ _ _ _ _ _ _ _ _ _ _ _ _ _ _ _ _ _ _ _ _ _ _ _ _ _ _ _ _ _ _ _ _ _ _ _ _ _ _ _ _ _ _ _ _ _ _ _ _ _ _ _ _ _ _ _ _ _ _ _ _ _ _ _ _ _ _ _ _ _ _ _ _ _ _ _ _ _ _ _ _ _ _ _ _ _ _ _ _ _ _ _ _ _ _ _ _ _ _ _ _ _ _ _ _ _ _ _ _ _ _ _ _ _ _ _ _ _ _ _ _ _ _ _ _ _ _ _ _ _ _ _ _ _ _ _ _ _ _ _ _ _ _ _ _ _ _ _ _ _ _ _ _ _ _ _ _ _ _ _ _ _ _ _ _ _ _ _ _ _ _ _ _ _ _ _ _ _ _ _ _ _ _ _ _ _ _ _ _ _ _ _ _ _ _ _ _ _ _ _ _ _ _ _ _ _ _ _ _ _ _ _ _ _ _ _
    rintro a' w' ⟨hd, hT⟩
    go_wp2
    exact bodyPost_end (results_none rfl _ _ _) hd ⟨rfl, L, _, TL, _, Does.shut E t, hT, rfl, rfl⟩
set_option maxRecDepth 1000000 in
set_option maxHeartbeats 4000000 in
theorem does_abort {w0 : Gr} {w : World} {L : EnL} {E : Eng} {TL : TalL} {t : Tal} (h : TaleAt w0 w L E TL t) (hM : Mid0 E) (hst : 0 ≤ t.steps ∧ t.steps ≤ 1000) (lv lev tx key : Int) (hN : 0 < E.txs.length) :
    Calls Tryz.prog 24 #[.pointer (some ⟨TL.b, 0, none⟩), .agg #[.int .i64 4, .int .i64 lev, .int .i64 tx, .int .i64 key], .int .i64 lv] w fun e w' => e = .returned (.tuple #[]) ∧
      ∃ L' E' TL' t', Does lv E t E' t' ∧ TaleAt w0 w' L' E' TL' t' ∧ L'.s = L.s ∧ TL'.b = TL.b := by
  have hc7 := h.tal.cell 7
  simp only [talCells, List.getElem?_toArray, List.getElem?_cons_zero, List.getElem?_cons_succ] at hc7
  have hf7 := h.tal.free 7
  have hbl : TL.b < w.heap.size := h.tal.own_lt (.inl rfl)
  obtain ⟨H1, hbox, hsz⟩ := step_at h (4, lev, tx, key)
  have gst : IntKind.i64.wrap (t.steps + 1) = t.steps + 1 := IntWalk.i64_in _ (by omega)
  go_enter Tryz.func24, Tryz.ntmps24
  go_wp2_with fail
  obtain ⟨w1, hw1⟩ : ∃ w1, stepW w TL.b (4, lev, tx, key) (t.steps + 1) = w1 := ⟨_, rfl⟩
  simp only [stepW, actV] at hw1
  rw [hw1]
  rw [show stepW w TL.b (4, lev, tx, key) (t.steps + 1) = w1 from hw1] at H1 hbox hsz
  have b0 : w1.cell? ⟨w.heap.size, 0, none⟩ = some (.int .i64 4) := (cell_of_row w1 _ 0 _ _ (0, 0) hbox).trans rfl
  have b2 : w1.cell? ⟨w.heap.size, 2, none⟩ = some (.int .i64 tx) := (cell_of_row w1 _ 2 _ _ (0, 0) hbox).trans rfl
  have c1 := H1.tal.cell 1
  simp only [talCells, List.getElem?_toArray, List.getElem?_cons_zero, List.getElem?_cons_succ] at c1
  obtain ⟨ad, cap, hr0⟩ := row_form (H1.tal.rows 0 (by omega))
  rw [hr0] at c1
  have HH := hid H1
  have HBX := hid hbox
  have g0 : ((4 : Int) == 0) = false := by decide
  have g5 : ((4 : Int) == 5) = false := by decide
  have hle := H1.en.le
  obtain ⟨N, hNN⟩ : ∃ N, E.txs.length = N := ⟨_, rfl⟩
  rw [hNN] at c1 hN hle
  have HNN := hid hNN
  have gN : ((N : Int) == 0) = false := by simp; omega
  clear hw1 h hc7 hf7 H1 hbox hr0 hNN
  refine (pick_eq _ _ _ (by decide) (by decide)).mono ?_
  rintro e w' ⟨rfl, hw'⟩
  rw [hw']
  clear hw' w'
  have hpk := pickP_in key 4 (by decide) (by decide)
  obtain ⟨kk, hkk⟩ : ∃ kk, pickP key 4 = kk := ⟨_, rfl⟩
  rw [hkk] at hpk ⊢
  have hm6 : 1 ≤ min 6 (N : Int) ∧ min 6 (N : Int) ≤ 6 := by omega
  have HPK := hid (fun nq => pick_eq tx (min 6 (N : Int)) (w1.drewN nq) hm6.1 (by omega))
  go_wp2_with fail
  go_quiet (first | (go_at_call 35; refine Calls.quiet_of_same (HPK.out _)))
  have hp := pickP_in tx (min 6 (N : Int)) hm6.1 (by omega)
  obtain ⟨x, hx, hxN⟩ : ∃ x : Nat, (N : Int) - pickP tx (min 6 (N : Int)) = (x : Int) + 1 ∧ x < N := ⟨((N : Int) - pickP tx (min 6 (N : Int)) - 1).toNat, by omega, by omega⟩
  have gx : wrap64 ((N : Int) - pickP tx (min 6 (N : Int))) = (x : Int) + 1 := by rw [hx]; exact IntWalk.wrap64_in _ (by omega)
  rw [gx]
  obtain ⟨w2, hw2⟩ : ∃ w2, w1.drewN nq = w2 := ⟨_, rfl⟩
  have HH2 := hid (show TaleAt w0 w2 L E TL (stepT t) by rw [← hw2]; exact HH.out.drewN nq)
  have b0' : w2.cell? ⟨w.heap.size, 0, none⟩ = some (.int .i64 4) := by rw [← hw2, World.cell?_drewN]; exact b0
  rw [hw2]
  have HXN := hid hxN
  have gs : wrap64 ((x : Int) + 1 - 1) = (x : Int) := by rw [show (x : Int) + 1 - 1 = (x : Int) by omega]; exact IntWalk.wrap64_in _ (by omega)
  clear hw2 HH HPK hp hx gx b0 b2 c1 HBX
  obtain ⟨u, hu⟩ : ∃ u, E.txs[x]? = some u := ⟨E.txs[x]'(by have := HNN.out; have := HXN.out; omega), List.getElem?_eq_getElem _⟩
  have HU := hid hu
  have c0 := HH2.out.tal.cell 0
  simp only [talCells, List.getElem?_toArray, List.getElem?_cons_zero] at c0
  have HM := hid hM
  clear hu hM
  by_cases hs : liveB u.state = true
  · obtain ⟨E', hR⟩ := abort_ends HM.out HU.out hs
    have HC := hid (abort_main HH2.out.en HM.out.fits HU.out hs hR)
    have HD := hid (Does.abort (lv := lv) E t x u E' HU.out hs hR)
    clear hR
    go_wp2_with fail
    refine HC.out.mono ?_
    rintro e w4 ⟨rfl, hP⟩
    obtain ⟨L4, hT4, hs4, hl4⟩ := HH2.out.post hP
    have HT4 := hid hT4
    have HS4 := hid hs4
    have HN4 := hid (hl4.trans HNN.out)
    clear hT4 hs4 hl4 hP
    go_wp2
    refine over_loop HT4 HN4 hle rfl _ ?_ _ _ _ _ _ _ _ _ _ _ _ _ _ _ _ _ _ _ _ _ _ _ _ _ _ _ _ _ _ _ _ _ _ _ _ _ _ _ _ _ _ _ _ _ _ _ _ _ _ _ _ _ _ _ _ _ _ _ _ _ _ _ _ _ _ _ _ _ _ _ _ _ _ _ _ _ _ _ _ _ _ _ _ _ _ _ _ _ _ _ _ _ _ _ _ _ _ _ _ _ _ _ _ _ _ _ _ _ _ _ _ _ _ _ _ _ _ _ _ _ _ _ _ _ _ _ _ _ _ _ _ _ _ _ _ _ _ _ _ _ _ _ _ _ _ _ _ _ _ _ _ _ _ _ _ _ _ _ _ _ _ _ _ _ _ _ _ _ _ _ _ _ _ _ _ _ _ _ _ _ _ _ _ _ _ _ _ _ _ _ _ _ _ _ _ _ _ _ _ _ _ _ _ _ _ _ _ _ _ _ _ _ _ _ _ _ _ _ _ _ _ _ _ _ _ _ _ _ _ _ _ _ _ _ _ _ _ _ _ _ _ _ _ _ _ _ _ _ _ _ _ _ _ _ _ _ _ _ _ _ _ _ _ _ _ _ _ _ _ _ _ _ _ _ _ _ _ _ _ _ _ _ _ _ _ _ _ _ _ _ _ _ _ _ _ _ _ _ _ _ _ _ _ _ _ _ _ _ _ _ _ _ _ _ _ _ _ _ _ _ _ _ _ _ _ _ _ _ _ _ _ _ _ _ _ _ _ _ _ _ _ _ _ _ _ _ _ _ _ _ _ _ _ _ _ _ _ _ _ _ _ _ _ _ _ _ _ _ _ _ _ _ _ _ _ _ _ _ _ _ _ _ _ _ _ _ _ _ _ _ _ _
    rintro a' w' ⟨hd, hT⟩
    go_wp2
    exact bodyPost_end (results_none rfl _ _ _) hd ⟨rfl, L4, _, TL, _, HD.out, hT, HS4.out, rfl⟩
  · have HC := hid (abort_over HH2.out.en HU.out (by simpa using hs))
    go_wp2_with fail
    refine HC.out.mono ?_
    rintro e w4 ⟨rfl, hw4⟩
    rw [hw4]
    clear hw4
    go_wp2
    refine over_loop HH2 HNN hle rfl _ ?_ _ _ _ _ _ _ _ _ _ _ _ _ _ _ _ _ _ _ _ _ _ _ _ _ _ _ _ _ _ _ _ _ _ _ _ _ _ _ _ _ _ _ _ _ _ _ _ _ _ _ _ _ _ _ _ _ _ _ _ _ _ _ _ _ _ _ _ _ _ _ _ _ _ _ _ _ _ _ _ _ _ _ _ _ _ _ _ _ _ _ _ _ _ _ _ _ _ _ _ _ _ _ _ _ _ _ _ _ _ _ _ _ _ _ _ _ _ _ _ _ _ _ _ _ _ _ _ _ _ _ _ _ _ _ _ _ _ _ _ _ _ _ _ _ _ _ _ _ _ _ _ _ _ _ _ _ _ _ _ _ _ _ _ _ _ _ _ _ _ _ _ _ _ _ _ _ _ _ _ _ _ _ _ _ _ _ _ _ _ _ _ _ _ _ _ _ _ _ _ _ _ _ _ _ _ _ _ _ _ _ _ _ _ _ _ _ _ _ _ _ _ _ _ _ _ _ _ _ _ _ _ _ _ _ _ _ _ _ _ _ _ _ _ _ _ _ _ _ _ _ _ _ _ _ _ _ _ _ _ _ _ _ _ _ _ _ _ _ _ _ _ _ _ _ _ _ _ _ _ _ _ _ _ _ _ _ _ _ _ _ _ _ _ _ _ _ _ _ _ _ _ _ _ _ _ _ _ _ _ _ _ _ _ _ _ _ _ _ _ _ _ _ _ _ _ _ _ _ _ _ _ _ _ _ _ _ _ _ _ _ _ _ _ _ _ _ _ _ _ _ _ _ _ _ _ _ _ _ _ _ _ _ _ _ _ _ _ _ _ _ _ _ _ _ _ _ _ _ _ _ _ _ _ _ _ _ _ _ _ _ _ _
    rintro a' w' ⟨hd, hT⟩
    go_wp2
    exact bodyPost_end (results_none rfl _ _ _) hd ⟨rfl, L, _, TL, _, Does.shut E t, hT, rfl, rfl⟩
set_option maxRecDepth 1000000 in
set_option maxHeartbeats 4000000 in
theorem does_none {w0 : Gr} {w : World} {L : EnL} {E : Eng} {TL : TalL} {t : Tal} (h : TaleAt w0 w L E TL t) (hst : 0 ≤ t.steps ∧ t.steps ≤ 1000) (lv what lev tx key : Int) (hw0 : what ≠ 0) (hw5 : what ≠ 5) (hN : 0 < E.txs.length) (h1 : what ≠ 1) (h2 : what ≠ 2) (h3 : what ≠ 3) (h4 : what ≠ 4) :
    Calls Tryz.prog 24 #[.pointer (some ⟨TL.b, 0, none⟩), .agg #[.int .i64 what, .int .i64 lev, .int .i64 tx, .int .i64 key], .int .i64 lv] w fun e w' => e = .returned (.tuple #[]) ∧
      ∃ L' E' TL' t', Does lv E t E' t' ∧ TaleAt w0 w' L' E' TL' t' ∧ L'.s = L.s ∧ TL'.b = TL.b := by
  have hc7 := h.tal.cell 7
  simp only [talCells, List.getElem?_toArray, List.getElem?_cons_zero, List.getElem?_cons_succ] at hc7
  have hf7 := h.tal.free 7
  have hbl : TL.b < w.heap.size := h.tal.own_lt (.inl rfl)
  obtain ⟨H1, hbox, hsz⟩ := step_at h (what, lev, tx, key)
  have gst : IntKind.i64.wrap (t.steps + 1) = t.steps + 1 := IntWalk.i64_in _ (by omega)
  go_enter Tryz.func24, Tryz.ntmps24
  go_wp2_with fail
  obtain ⟨w1, hw1⟩ : ∃ w1, stepW w TL.b (what, lev, tx, key) (t.steps + 1) = w1 := ⟨_, rfl⟩
  simp only [stepW, actV] at hw1
  rw [hw1]
  rw [show stepW w TL.b (what, lev, tx, key) (t.steps + 1) = w1 from hw1] at H1 hbox hsz
  have b0 : w1.cell? ⟨w.heap.size, 0, none⟩ = some (.int .i64 what) := (cell_of_row w1 _ 0 _ _ (0, 0) hbox).trans rfl
  have b2 : w1.cell? ⟨w.heap.size, 2, none⟩ = some (.int .i64 tx) := (cell_of_row w1 _ 2 _ _ (0, 0) hbox).trans rfl
  have c1 := H1.tal.cell 1
  simp only [talCells, List.getElem?_toArray, List.getElem?_cons_zero, List.getElem?_cons_succ] at c1
  obtain ⟨ad, cap, hr0⟩ := row_form (H1.tal.rows 0 (by omega))
  rw [hr0] at c1
  have HH := hid H1
  have HBX := hid hbox
  have g0 : (what == 0) = false := by simpa using hw0
  have g5 : (what == 5) = false := by simpa using hw5
  have hle := H1.en.le
  obtain ⟨N, hNN⟩ : ∃ N, E.txs.length = N := ⟨_, rfl⟩
  rw [hNN] at c1 hN hle
  have HNN := hid hNN
  have gN : ((N : Int) == 0) = false := by simp; omega
  clear hw1 h hc7 hf7 H1 hbox hr0 hNN
  refine (pick_eq _ _ _ (by decide) (by decide)).mono ?_
  rintro e w' ⟨rfl, hw'⟩
  rw [hw']
  clear hw' w'
  have hpk := pickP_in key 4 (by decide) (by decide)
  obtain ⟨kk, hkk⟩ : ∃ kk, pickP key 4 = kk := ⟨_, rfl⟩
  rw [hkk] at hpk ⊢
  have hm6 : 1 ≤ min 6 (N : Int) ∧ min 6 (N : Int) ≤ 6 := by omega
  have HPK := hid (fun nq => pick_eq tx (min 6 (N : Int)) (w1.drewN nq) hm6.1 (by omega))
  go_wp2_with fail
  go_quiet (first | (go_at_call 35; refine Calls.quiet_of_same (HPK.out _)))
  have hp := pickP_in tx (min 6 (N : Int)) hm6.1 (by omega)
  obtain ⟨x, hx, hxN⟩ : ∃ x : Nat, (N : Int) - pickP tx (min 6 (N : Int)) = (x : Int) + 1 ∧ x < N := ⟨((N : Int) - pickP tx (min 6 (N : Int)) - 1).toNat, by omega, by omega⟩
  have gx : wrap64 ((N : Int) - pickP tx (min 6 (N : Int))) = (x : Int) + 1 := by rw [hx]; exact IntWalk.wrap64_in _ (by omega)
  rw [gx]
  obtain ⟨w2, hw2⟩ : ∃ w2, w1.drewN nq = w2 := ⟨_, rfl⟩
  have HH2 := hid (show TaleAt w0 w2 L E TL (stepT t) by rw [← hw2]; exact HH.out.drewN nq)
  have b0' : w2.cell? ⟨w.heap.size, 0, none⟩ = some (.int .i64 what) := by rw [← hw2, World.cell?_drewN]; exact b0
  rw [hw2]
  have HXN := hid hxN
  have gs : wrap64 ((x : Int) + 1 - 1) = (x : Int) := by rw [show (x : Int) + 1 - 1 = (x : Int) by omega]; exact IntWalk.wrap64_in _ (by omega)
  clear hw2 HH HPK hp hx gx b0 b2 c1 HBX
  have g1 : (what == 1) = false := by simpa using h1
  have g2 : (what == 2) = false := by simpa using h2
  have g3 : (what == 3) = false := by simpa using h3
  have g4 : (what == 4) = false := by simpa using h4
  go_wp2
  refine over_loop HH2 HNN hle rfl _ ?_ _ _ _ _ _ _ _ _ _ _ _ _ _ _ _ _ _ _ _ _ _ _ _ _ _ _ _ _ _ _ _ _ _ _ _ _ _ _ _ _ _ _ _ _ _ _ _ _ _ _ _ _ _ _ _ _ _ _ _ _ _ _ _ _ _ _ _ _ _ _ _ _ _ _ _ _ _ _ _ _ _ _ _ _ _ _ _ _ _ _ _ _ _ _ _ _ _ _ _ _ _ _ _ _ _ _ _ _ _ _ _ _ _ _ _ _ _ _ _ _ _ _ _ _ _ _ _ _ _ _ _ _ _ _ _ _ _ _ _ _ _ _ _ _ _ _ _ _ _ _ _ _ _ _ _ _ _ _ _ _ _ _ _ _ _ _ _ _ _ _ _ _ _ _ _ _ _ _ _ _ _ _ _ _ _ _ _ _ _ _ _ _ _ _ _ _ _ _ _ _ _ _ _ _ _ _ _ _ _ _ _ _ _ _ _ _ _ _ _ _ _ _ _ _ _ _ _ _ _ _ _ _ _ _ _ _ _ _ _ _ _ _ _ _ _ _ _ _ _ _ _ _ _ _ _ _ _ _ _ _ _ _ _ _ _ _ _ _ _ _ _ _ _ _ _ _ _ _ _ _ _ _ _ _ _ _ _ _ _ _ _ _ _ _ _ _ _ _ _ _ _ _ _ _ _ _ _ _ _ _ _ _ _ _ _ _ _ _ _ _ _ _ _ _ _ _ _ _ _ _ _ _ _ _ _ _ _ _ _ _ _ _ _ _ _ _ _ _ _ _ _ _ _ _ _ _ _ _ _ _ _ _ _ _ _ _ _ _ _ _ _ _ _ _ _ _ _ _ _ _ _ _ _ _ _ _ _ _ _ _ _ _
  rintro a' w' ⟨hd, hT⟩
  go_wp2
  exact bodyPost_end (results_none rfl _ _ _) hd ⟨rfl, L, _, TL, _, Does.shut E t, hT, rfl, rfl⟩
end Go.Proofs.YtjefgmeejhakbaaGreatDoor
