/- keep's does: a sweep, a begin that is refused, nothing there; all acts. -/
import Derived.Test.YtjefgmeejhakbaaGreatDoorKtDoesAQ
import Derived.Test.YtjefgmeejhakbaaGreatDoorKtDoesRQ
import Derived.Test.YtjefgmeejhakbaaGreatDoorKtDoesWQ
namespace Go.Proofs.YtjefgmeejhakbaaGreatDoor
open Go.RowKit
set_option maxRecDepth 1000000 in
set_option maxHeartbeats 4000000 in
theorem does_sweep {w0 : Gr} {w : World} {L : EnL} {E : Eng} {TL : TalL} {t : Tal} (h : TaleAt w0 w L E TL t) (hf : Fits E) (hst : 0 ≤ t.steps ∧ t.steps ≤ 1000) (lv lev tx key : Int) :
    Calls Tryz.prog 24 #[.pointer (some ⟨TL.b, 0, none⟩), .agg #[.int .i64 5, .int .i64 lev, .int .i64 tx, .int .i64 key], .int .i64 lv] w fun e w' => e = .returned (.tuple #[]) ∧
      ∃ L' E' TL' t', Does lv E t E' t' ∧ TaleAt w0 w' L' E' TL' t' ∧ L'.s = L.s ∧ TL'.b = TL.b := by
  have hc7 := h.tal.cell 7
  simp only [talCells, List.getElem?_toArray, List.getElem?_cons_zero, List.getElem?_cons_succ] at hc7
  have hf7 := h.tal.free 7
  have hbl : TL.b < w.heap.size := h.tal.own_lt (.inl rfl)
  obtain ⟨H1, hbox, hsz⟩ := step_at h (5, lev, tx, key)
  have gst : IntKind.i64.wrap (t.steps + 1) = t.steps + 1 := IntWalk.i64_in _ (by omega)
  go_enter Tryz.func24, Tryz.ntmps24
  go_wp2_with fail
  obtain ⟨w1, hw1⟩ : ∃ w1, stepW w TL.b (5, lev, tx, key) (t.steps + 1) = w1 := ⟨_, rfl⟩
  simp only [stepW, actV] at hw1
  rw [hw1]
  rw [show stepW w TL.b (5, lev, tx, key) (t.steps + 1) = w1 from hw1] at H1 hbox hsz
  have b0 : w1.cell? ⟨w.heap.size, 0, none⟩ = some (.int .i64 5) := (cell_of_row w1 _ 0 _ _ (0, 0) hbox).trans rfl
  have b1 : w1.cell? ⟨w.heap.size, 1, none⟩ = some (.int .i64 lev) := (cell_of_row w1 _ 1 _ _ (0, 0) hbox).trans rfl
  have c0 := H1.tal.cell 0
  have c1 := H1.tal.cell 1
  simp only [talCells, List.getElem?_toArray, List.getElem?_cons_zero, List.getElem?_cons_succ] at c0 c1
  obtain ⟨ad, cap, hr0⟩ := row_form (H1.tal.rows 0 (by omega))
  rw [hr0] at c1
  have HH := hid H1
  clear hw1 h hc7 hf7 H1 hbox hr0
  refine (pick_eq _ _ _ (by decide) (by decide)).mono ?_
  rintro e w' ⟨rfl, hw'⟩
  rw [hw']
  clear hw' w'
  have HS := hid (sweepE_any HH.out.en hf)
  clear c1
  go_wp2_with fail
  refine HS.out.mono ?_
  rintro e w2 ⟨rfl, hP⟩
  obtain ⟨L2, hT2, hs2, _⟩ := HH.out.post hP
  have HT2 := hid hT2
  have HS2 := hid hs2
  clear hT2 hs2 hP
  go_wp2
  refine bodyPost_ret (v := .tuple #[]) (by simp [results, Tryz.results24, go_sem]) rfl ⟨rfl, L2, _, TL, _, Does.sweep E t, HT2.out, HS2.out, rfl⟩
set_option maxRecDepth 1000000 in
set_option maxHeartbeats 4000000 in
theorem does_idle {w0 : Gr} {w : World} {L : EnL} {E : Eng} {TL : TalL} {t : Tal} (h : TaleAt w0 w L E TL t) (hst : 0 ≤ t.steps ∧ t.steps ≤ 1000) (lv what lev tx key : Int) (hw0 : what ≠ 0) (hw5 : what ≠ 5) (hN : E.txs.length = 0) :
    Calls Tryz.prog 24 #[.pointer (some ⟨TL.b, 0, none⟩), .agg #[.int .i64 what, .int .i64 lev, .int .i64 tx, .int .i64 key], .int .i64 lv] w fun e w' => e = .returned (.tuple #[]) ∧
      ∃ L' E' TL' t', Does lv E t E' t' ∧ TaleAt w0 w' L' E' TL' t' ∧ L'.s = L.s ∧ TL'.b = TL.b := by
  have hc7 := h.tal.cell 7
  simp only [talCells, List.getElem?_toArray, List.getElem?_cons_zero, List.getElem?_cons_succ] at hc7
  have hf7 := h.tal.free 7
  have hbl : TL.b < w.heap.size := h.tal.own_lt (.inl rfl)
  obtain ⟨H1, hbox, hsz⟩ := step_at h (what, lev, tx, key)
  have gst : IntKind.i64.wrap (t.steps + 1) = t.steps + 1 := IntWalk.i64_in _ (by omega)
  go_enter Tryz.func24, Tryz.ntmps24
  go_wp2_with fail
  obtain ⟨w1, hw1⟩ : ∃ w1, stepW w TL.b (what, lev, tx, key) (t.steps + 1) = w1 := ⟨_, rfl⟩
  simp only [stepW, actV] at hw1
  rw [hw1]
  rw [show stepW w TL.b (what, lev, tx, key) (t.steps + 1) = w1 from hw1] at H1 hbox hsz
  have b0 : w1.cell? ⟨w.heap.size, 0, none⟩ = some (.int .i64 what) := (cell_of_row w1 _ 0 _ _ (0, 0) hbox).trans rfl
  have b1 : w1.cell? ⟨w.heap.size, 1, none⟩ = some (.int .i64 lev) := (cell_of_row w1 _ 1 _ _ (0, 0) hbox).trans rfl
  have c0 := H1.tal.cell 0
  have c1 := H1.tal.cell 1
  simp only [talCells, List.getElem?_toArray, List.getElem?_cons_zero, List.getElem?_cons_succ] at c0 c1
  obtain ⟨ad, cap, hr0⟩ := row_form (H1.tal.rows 0 (by omega))
  rw [hr0] at c1
  have HH := hid H1
  clear hw1 h hc7 hf7 H1 hbox hr0
  refine (pick_eq _ _ _ (by decide) (by decide)).mono ?_
  rintro e w' ⟨rfl, hw'⟩
  rw [hw']
  clear hw' w'
  have g0 : (what == 0) = false := by simpa using hw0
  have g5 : (what == 5) = false := by simpa using hw5
  rw [hN] at c1
  go_wp2
  refine bodyPost_ret (v := .tuple #[]) (by simp [results, Tryz.results24, go_sem]) rfl ⟨rfl, L, _, TL, _, Does.same E t, HH.out, rfl, rfl⟩
set_option maxRecDepth 1000000 in
set_option maxHeartbeats 4000000 in
theorem does_full {w0 : Gr} {w : World} {L : EnL} {E : Eng} {TL : TalL} {t : Tal} (h : TaleAt w0 w L E TL t) (hf : Fits E) (hst : 0 ≤ t.steps ∧ t.steps ≤ 1000) (lv lev tx key : Int) (hlv : lv < 0) (hb : 200 ≤ E.txs.length ∨ 6 ≤ (liveOnes E).length) :
    Calls Tryz.prog 24 #[.pointer (some ⟨TL.b, 0, none⟩), .agg #[.int .i64 0, .int .i64 lev, .int .i64 tx, .int .i64 key], .int .i64 lv] w fun e w' => e = .returned (.tuple #[]) ∧
      ∃ L' E' TL' t', Does lv E t E' t' ∧ TaleAt w0 w' L' E' TL' t' ∧ L'.s = L.s ∧ TL'.b = TL.b := by
  have hc7 := h.tal.cell 7
  simp only [talCells, List.getElem?_toArray, List.getElem?_cons_zero, List.getElem?_cons_succ] at hc7
  have hf7 := h.tal.free 7
  have hbl : TL.b < w.heap.size := h.tal.own_lt (.inl rfl)
  obtain ⟨H1, hbox, hsz⟩ := step_at h (0, lev, tx, key)
  have gst : IntKind.i64.wrap (t.steps + 1) = t.steps + 1 := IntWalk.i64_in _ (by omega)
  go_enter Tryz.func24, Tryz.ntmps24
  go_wp2_with fail
  obtain ⟨w1, hw1⟩ : ∃ w1, stepW w TL.b (0, lev, tx, key) (t.steps + 1) = w1 := ⟨_, rfl⟩
  simp only [stepW, actV] at hw1
  rw [hw1]
  rw [show stepW w TL.b (0, lev, tx, key) (t.steps + 1) = w1 from hw1] at H1 hbox hsz
  have b0 : w1.cell? ⟨w.heap.size, 0, none⟩ = some (.int .i64 0) := (cell_of_row w1 _ 0 _ _ (0, 0) hbox).trans rfl
  have b1 : w1.cell? ⟨w.heap.size, 1, none⟩ = some (.int .i64 lev) := (cell_of_row w1 _ 1 _ _ (0, 0) hbox).trans rfl
  have c0 := H1.tal.cell 0
  have c1 := H1.tal.cell 1
  simp only [talCells, List.getElem?_toArray, List.getElem?_cons_zero, List.getElem?_cons_succ] at c0 c1
  obtain ⟨ad, cap, hr0⟩ := row_form (H1.tal.rows 0 (by omega))
  rw [hr0] at c1
  have HH := hid H1
  clear hw1 h hc7 hf7 H1 hbox hr0
  refine (pick_eq _ _ _ (by decide) (by decide)).mono ?_
  rintro e w' ⟨rfl, hw'⟩
  rw [hw']
  clear hw' w'
  have hg : decide (lv < 0) = true := by simpa using hlv
  have HA := hid (allE_any HH.out.en hf)
  clear c1
  go_wp2_with fail
  refine (pick_eq _ _ _ (by decide) (by decide)).mono ?_
  rintro e w' ⟨rfl, hw'⟩
  rw [hw']
  clear hw' w'
  have hpk := pickP_in lev 3 (by decide) (by decide)
  obtain ⟨level, hlev⟩ : ∃ level, pickP lev 3 = level := ⟨_, rfl⟩
  rw [hlev] at hpk ⊢
  have h3 : level = 0 ∨ level = 1 ∨ level = 2 := by omega
  go_wp2_with fail
  refine HA.out.mono ?_
  rintro e w2 ⟨av, rfl, hav, hB2⟩
  have H2 := hid (HH.out.below hB2)
  have c0' := H2.out.tal.cell 0
  simp only [talCells, List.getElem?_toArray, List.getElem?_cons_zero] at c0'
  clear hav hB2 HA HH c0
  by_cases hl : 200 ≤ E.txs.length
  · have HB := hid (begin_full H2.out.en h3 hl)
    rw [show errV 12 = Value.iface 24 (.int .i64 12) from rfl] at HB
    go_wp2_with fail
    refine HB.out.mono ?_
    rintro e w3 ⟨rfl, hw3⟩
    rw [hw3]
    clear hw3
    go_wp2
    refine bodyPost_ret (v := .tuple #[]) (by simp [results, Tryz.results24, go_sem]) rfl ⟨rfl, L, _, TL, _, Does.same E t, H2.out, rfl, rfl⟩
  · have HB := hid (begin_limit H2.out.en h3 (by omega) (hb.resolve_left hl))
    rw [show errV 4 = Value.iface 24 (.int .i64 4) from rfl] at HB
    go_wp2_with fail
    refine HB.out.mono ?_
    rintro e w3 ⟨rfl, hB3⟩
    have H3 := hid (H2.out.below hB3)
    clear hB3
    go_wp2
    refine bodyPost_ret (v := .tuple #[]) (by simp [results, Tryz.results24, go_sem]) rfl ⟨rfl, L, _, TL, _, Does.same E t, H3.out, rfl, rfl⟩
structure TalOk (w0 : Gr) (E : Eng) (t : Tal) (n : Nat) : Prop where
  mid : Mid0 E
  steps : 0 ≤ t.steps ∧ t.steps ≤ n
  num : 0 ≤ t.n ∧ t.n ≤ n
  rd : ∀ u ∈ E.txs, u.reads.length ≤ n
  tr : ∀ l ∈ t.reads, l.length ≤ n
  ts : ∀ l ∈ t.snap, l.length ≤ 10
  hand : Handle w0.w ∧ w0.P 0
theorem does_rest {w0 : Gr} {w : World} {L : EnL} {E : Eng} {TL : TalL} {t : Tal} {n : Nat} (h : TaleAt w0 w L E TL t) (ho : TalOk w0 E t n) (hn : n ≤ 1000) (lv what lev tx key : Int) (hw : what ≠ 0) :
    Calls Tryz.prog 24 #[.pointer (some ⟨TL.b, 0, none⟩), .agg #[.int .i64 what, .int .i64 lev, .int .i64 tx, .int .i64 key], .int .i64 lv] w fun e w' => e = .returned (.tuple #[]) ∧
      ∃ L' E' TL' t', Does lv E t E' t' ∧ TaleAt w0 w' L' E' TL' t' ∧ L'.s = L.s ∧ TL'.b = TL.b := by
  have hs : 0 ≤ t.steps ∧ t.steps ≤ 1000 := by have := ho.steps; omega
  by_cases h5 : what = 5
  · subst h5
    exact does_sweep h ho.mid.fits hs lv lev tx key
  by_cases hN : E.txs.length = 0
  · exact does_idle h hs lv what lev tx key hw h5 hN
  have hN' : 0 < E.txs.length := by omega
  by_cases h1 : what = 1
  · subst h1
    exact does_read h ho.mid hs lv lev tx key hN' ho.hand (fun u hu => by have := ho.rd u hu; omega) (fun l hl => by have := ho.tr l hl; omega) (fun l hl => by have := ho.ts l hl; omega)
  by_cases h2 : what = 2
  · subst h2
    exact does_write h ho.mid hs lv lev tx key hN' (by have := ho.num; omega)
  by_cases h3 : what = 3
  · subst h3
    exact does_commit h ho.mid hs lv lev tx key hN'
  by_cases h4 : what = 4
  · subst h4
    exact does_abort h ho.mid hs lv lev tx key hN'
  exact does_none h hs lv what lev tx key hw h5 hN' h1 h2 h3 h4
end Go.Proofs.YtjefgmeejhakbaaGreatDoor
