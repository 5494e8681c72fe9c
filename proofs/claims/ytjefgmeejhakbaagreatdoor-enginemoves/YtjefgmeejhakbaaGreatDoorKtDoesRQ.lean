/- keep's does: a read. -/
import Derived.Test.YtjefgmeejhakbaaGreatDoorMgASQ
import Derived.Test.YtjefgmeejhakbaaGreatDoorKtRegQ
import Derived.Test.YtjefgmeejhakbaaGreatDoorMgADQ
namespace Go.Proofs.YtjefgmeejhakbaaGreatDoor
open Go.RowKit
set_option maxRecDepth 1000000 in
set_option maxHeartbeats 4000000 in
theorem does_read {w0 : Gr} {w : World} {L : EnL} {E : Eng} {TL : TalL} {t : Tal} (h : TaleAt w0 w L E TL t) (hM : Mid0 E) (hst : 0 ≤ t.steps ∧ t.steps ≤ 1000) (lv lev tx key : Int) (hN : 0 < E.txs.length) (hg0 : Handle w0.w ∧ w0.P 0) (hrd : ∀ u ∈ E.txs, u.reads.length ≤ 100000) (htr : ∀ l ∈ t.reads, l.length ≤ 1000) (hts : ∀ l ∈ t.snap, l.length ≤ 1000) :
    Calls Tryz.prog 24 #[.pointer (some ⟨TL.b, 0, none⟩), .agg #[.int .i64 1, .int .i64 lev, .int .i64 tx, .int .i64 key], .int .i64 lv] w fun e w' => e = .returned (.tuple #[]) ∧
      ∃ L' E' TL' t', Does lv E t E' t' ∧ TaleAt w0 w' L' E' TL' t' ∧ L'.s = L.s ∧ TL'.b = TL.b := by
  have hc7 := h.tal.cell 7
  simp only [talCells, List.getElem?_toArray, List.getElem?_cons_zero, List.getElem?_cons_succ] at hc7
  have hf7 := h.tal.free 7
  have hbl : TL.b < w.heap.size := h.tal.own_lt (.inl rfl)
  obtain ⟨H1, hbox, hsz⟩ := step_at h (1, lev, tx, key)
  have gst : IntKind.i64.wrap (t.steps + 1) = t.steps + 1 := IntWalk.i64_in _ (by omega)
  go_enter Tryz.func24, Tryz.ntmps24
  go_wp2_with fail
  obtain ⟨w1, hw1⟩ : ∃ w1, stepW w TL.b (1, lev, tx, key) (t.steps + 1) = w1 := ⟨_, rfl⟩
  simp only [stepW, actV] at hw1
  rw [hw1]
  rw [show stepW w TL.b (1, lev, tx, key) (t.steps + 1) = w1 from hw1] at H1 hbox hsz
  have b0 : w1.cell? ⟨w.heap.size, 0, none⟩ = some (.int .i64 1) := (cell_of_row w1 _ 0 _ _ (0, 0) hbox).trans rfl
  have b2 : w1.cell? ⟨w.heap.size, 2, none⟩ = some (.int .i64 tx) := (cell_of_row w1 _ 2 _ _ (0, 0) hbox).trans rfl
  have c1 := H1.tal.cell 1
  simp only [talCells, List.getElem?_toArray, List.getElem?_cons_zero, List.getElem?_cons_succ] at c1
  obtain ⟨ad, cap, hr0⟩ := row_form (H1.tal.rows 0 (by omega))
  rw [hr0] at c1
  have HH := hid H1
  have HBX := hid hbox
  have g0 : ((1 : Int) == 0) = false := by decide
  have g5 : ((1 : Int) == 5) = false := by decide
  have hle := H1.en.le
  obtain ⟨N, hNN⟩ : ∃ N, E.txs.length = N := ⟨_, rfl⟩
  rw [hNN] at c1 hN hle
  have HNN := hid hNN
  have gN : ((N : Int) == 0) = false := by simp; omega
  clear hw1 h hc7 hf7 H1 hbox hr0 hNN
  refine (pick_eq _ _ _ (by decide) (by decide)).mono ?_
  rintro e w' ⟨rfl, hw'⟩
  rw [hw']
  clear hw' w'
  have hpk := pickP_in key 4 (by decide) (by decide)
  obtain ⟨kk, hkk⟩ : ∃ kk, pickP key 4 = kk := ⟨_, rfl⟩
  rw [hkk] at hpk ⊢
  have hm6 : 1 ≤ min 6 (N : Int) ∧ min 6 (N : Int) ≤ 6 := by omega
  have HPK := hid (fun nq => pick_eq tx (min 6 (N : Int)) (w1.drewN nq) hm6.1 (by omega))
  go_wp2_with fail
  go_quiet (first | (go_at_call 35; refine Calls.quiet_of_same (HPK.out _)))
  have hp := pickP_in tx (min 6 (N : Int)) hm6.1 (by omega)
  obtain ⟨x, hx, hxN⟩ : ∃ x : Nat, (N : Int) - pickP tx (min 6 (N : Int)) = (x : Int) + 1 ∧ x < N := ⟨((N : Int) - pickP tx (min 6 (N : Int)) - 1).toNat, by omega, by omega⟩
  have gx : wrap64 ((N : Int) - pickP tx (min 6 (N : Int))) = (x : Int) + 1 := by rw [hx]; exact IntWalk.wrap64_in _ (by omega)
  rw [gx]
  obtain ⟨w2, hw2⟩ : ∃ w2, w1.drewN nq = w2 := ⟨_, rfl⟩
  have HH2 := hid (show TaleAt w0 w2 L E TL (stepT t) by rw [← hw2]; exact HH.out.drewN nq)
  have b0' : w2.cell? ⟨w.heap.size, 0, none⟩ = some (.int .i64 1) := by rw [← hw2, World.cell?_drewN]; exact b0
  rw [hw2]
  have HXN := hid hxN
  have gs : wrap64 ((x : Int) + 1 - 1) = (x : Int) := by rw [show (x : Int) + 1 - 1 = (x : Int) by omega]; exact IntWalk.wrap64_in _ (by omega)
  clear hw2 HH HPK hp hx gx b0 b2 c1 HBX
  obtain ⟨u, hu⟩ : ∃ u, E.txs[x]? = some u := ⟨E.txs[x]'(by have := HNN.out; have := HXN.out; omega), List.getElem?_eq_getElem _⟩
  have HU := hid hu
  have c0 := HH2.out.tal.cell 0
  simp only [talCells, List.getElem?_toArray, List.getElem?_cons_zero] at c0
  have HM := hid hM
  clear hu hM
  have HA := hid (allE_any HH2.out.en HM.out.fits)
  go_wp2_with fail
  refine HA.out.mono ?_
  rintro e w3 ⟨av, rfl, hav, hB3⟩
  have H3 := hid (HH2.out.below hB3)
  have HAV := hid hav
  have HAL := hid (show ∀ g, av.ownBlock = some g → ¬ L.own g from fun g hg hown => by have h1 := (hav.lt g hg).1; have h2 := HH2.out.en.own_lt hown; omega)
  have c0 := H3.out.tal.cell 0
  simp only [talCells, List.getElem?_toArray, List.getElem?_cons_zero] at c0
  clear hav hB3 HA HH2
  by_cases hs : u.state = 0
  · obtain ⟨⟨⟨v, c⟩, E'⟩, hR, hc⟩ := read_ends HM.out HU.out hs (key := kk) (by omega)
    have HC := hid (read_any H3.out.en (H3.out.handle hg0) HM.out hrd HU.out hs (by omega) hR)
    have HD := hid (Does.read (lv := lv) E t x u kk _ HU.out hs hpk hR)
    simp only at hc HC
    clear hR
    go_wp2_with fail
    refine HC.out.mono ?_
    rintro e w4 ⟨rfl, hP⟩
    have hav4 := row_post hP HAV.out HAL.out
    obtain ⟨L4, hT4, hs4, hl4⟩ := H3.out.post hP
    have HAV4 := hid hav4
    have HT4 := hid hT4
    have HS4 := hid hs4
    have HN4 := hid (hl4.trans HNN.out)
    have HTL := hid (tellV c w4 (hT4.handle hg0))
    clear hT4 hs4 hl4 hP hav4 HC H3 HAV HAL c0
    go_wp2_with fail
    refine HTL.out.mono ?_
    rintro e w5 ⟨rfl, hB5⟩
    have HT5 := hid (HT4.out.below hB5)
    have HAV5 := hid (owns_same HAV4.out (fun g hg => hB5.block g (owns_lt HAV4.out hg)))
    clear hB5 HTL HT4 HAV4
    rcases hc with hc | hc | hc
    · subst hc
      obtain ⟨ob, f, hob, hof⟩ := HT5.out.tal.getO (i := x) (by rw [HN4.out]; exact HXN.out)
      have hlk := (HT5.out.tal.om x ob f hob hof).1.look Tryz.underlying69 (zeroI w5) (a := kk) (by unfold I64; omega)
      have c3 := HT5.out.tal.cell 3
      simp only [talCells, List.getElem?_toArray, List.getElem?_cons_zero, List.getElem?_cons_succ] at c3
      rcases row_slice (HT5.out.tal.rows 2 (by omega)) with ⟨_, e0⟩ | ⟨q2, cap2, hr2, _, hcs2⟩
      · have := HN4.out; omega
      rw [HN4.out] at hr2
      rw [hr2] at c3
      have d2 : w5.cell? ⟨q2, x, none⟩ = some (.map (some ob)) := hcs2 x _ (show (TL.om.map mapV)[x]? = some (mapV ob) from by rw [List.getElem?_map, hob]; rfl)
      have g1 : (x : Int) < (N : Int) := by have := HXN.out; omega
      have g2 : (0 : Int) ≤ (x : Int) := by omega
      have hfx : ownT (stepT t) x = f := by unfold ownT; rw [show (stepT t).own[x]? = some f from hof]; rfl
      cases hfk : f kk with
      | some ow =>
        rw [hfk] at hlk
        simp only [Option.map_some, Option.getD_some, Option.isSome_some] at hlk
        have HF := hid (show ownT (stepT t) x kk = some ow from by rw [hfx]; exact hfk)
        clear hob hof hr2 hcs2 hfk hfx
        rw [show errV 0 = _ from rfl]
        have HRT := hid (show readT E (stepT t) x kk (v, 0) = { stepT t with broken := (stepT t).broken || (v != ow) } from by unfold readT; rw [if_neg (by simp), HF.out]; rfl)
        rw [HRT.out] at HD
        by_cases hq : v = ow
        · have gq : (v == ow) = true := by simpa using hq
          have e9 : ({ stepT t with broken := (stepT t).broken || (v != ow) } : Tal) = stepT t := by rw [show (v != ow) = false by simpa using hq, Bool.or_false]
          rw [e9] at HD
          clear e9 HRT hq
          go_wp2
          refine over_loop' HT5 HN4 hle rfl _ ?_ _ (by simp) rfl rfl rfl
          rintro a' w' ⟨hd, hT⟩
          go_wp2
          exact bodyPost_end (results_none rfl _ _ _) hd ⟨rfl, L4, _, TL, _, HD.out, hT, HS4.out, rfl⟩
        · have gq : (v == ow) = false := by simpa using hq
          have e9 : ({ stepT t with broken := (stepT t).broken || (v != ow) } : Tal) = { stepT t with broken := true } := by rw [show (v != ow) = true by simpa using hq, Bool.or_true]
          rw [e9] at HD
          obtain ⟨hT6, hK6⟩ := HT5.out.tal.setHead (o := 9) (u := .bool true) (steps := (stepT t).steps) (n := (stepT t).n) (broken := true) (by simp [talCells])
          have HT6 := hid (HT5.out.tale hT6 hK6)
          have c9 := HT5.out.tal.cell 9
          simp only [talCells, List.getElem?_toArray, List.getElem?_cons_zero, List.getElem?_cons_succ] at c9
          have f9 := HT5.out.tal.free 9
          clear e9 HRT hq hT6 hK6
          go_wp2
          refine over_loop' HT6 HN4 hle rfl _ ?_ _ (by simp) rfl rfl rfl
          rintro a' w' ⟨hd, hT⟩
          go_wp2
          exact bodyPost_end (results_none rfl _ _ _) hd ⟨rfl, L4, _, TL, _, HD.out, hT, HS4.out, rfl⟩
      | none =>
        rw [hfk] at hlk
        simp only [Option.map_none, Option.getD_none, Option.isSome_none] at hlk
        have HF := hid (show ownT (stepT t) x kk = none from by rw [hfx]; exact hfk)
        clear hob hof hr2 hcs2 hfk hfx
        obtain ⟨sv, sl, hsv, hsl⟩ := HT5.out.tal.getS (i := x) (by rw [HN4.out]; exact HXN.out)
        obtain ⟨rv, rl, hrv, hrl⟩ := HT5.out.tal.getR (i := x) (by rw [HN4.out]; exact HXN.out)
        obtain ⟨lvx, hlvx⟩ : ∃ lvx, (stepT t).level[x]? = some lvx := ⟨(stepT t).level[x]'(by rw [HT5.out.tal.len.level, HN4.out]; exact HXN.out), List.getElem?_eq_getElem _⟩
        have hsl2 : t.snap[x]? = some sl := hsl
        have HSL := hid hsl2
        have HLV := hid hlvx
        have HRV := hid hrv
        have HRL := hid hrl
        have HRN := hid (show rl.length ≤ 100000 from by have := htr rl (List.mem_of_getElem? hrl); omega)
        have HO1 := hid (of_any (HT5.out.tal.sn x sv sl hsv hsl) (by have := hts sl (List.mem_of_getElem? hsl2); omega) kk)
        have c1 := HT5.out.tal.cell 1
        have c2 := HT5.out.tal.cell 2
        simp only [talCells, List.getElem?_toArray, List.getElem?_cons_zero, List.getElem?_cons_succ] at c1 c2
        rcases row_slice (HT5.out.tal.rows 0 (by omega)) with ⟨_, e0⟩ | ⟨q0, cap0, hr0, _, hcs0⟩
        · have := HN4.out; omega
        rcases row_slice (HT5.out.tal.rows 1 (by omega)) with ⟨_, e0⟩ | ⟨q1, cap1, hr1, _, hcs1⟩
        · have := HN4.out; omega
        rcases row_slice (HT5.out.tal.rows 3 (by omega)) with ⟨_, e0⟩ | ⟨q3, cap3, hr3, _, _⟩
        · have := HN4.out; omega
        rw [HN4.out] at hr0 hr1 hr3
        rw [hr0] at c1
        rw [hr1] at c2
        have d0 : w5.cell? ⟨q0, x, none⟩ = some (.int .i64 lvx) := hcs0 x _ (intsV_get hlvx)
        have d1 : w5.cell? ⟨q1, x, none⟩ = some sv := hcs1 x _ hsv
        have g1 : (x : Int) < (N : Int) := by have := HXN.out; omega
        have g2 : (0 : Int) ≤ (x : Int) := by omega
        clear hsv hsl hsl2 hrv hrl hlvx hr0 hr1 hcs0 hcs1
        go_wp2_with fail
        refine HO1.out.mono ?_
        rintro e w6 ⟨rfl, hw6⟩
        rw [hw6]
        clear hw6 w6 HO1
        by_cases hl0 : lvx = 0
        · have gl : (lvx == 0) = true := by simpa using hl0
          obtain ⟨wt, hwt⟩ : ∃ wt, ofP (allE E) kk = wt := ⟨_, rfl⟩
          have HWT := hid (show wantT E (stepT t) x kk = wt from by rw [← hwt]; exact (by unfold wantT; rw [show (stepT t).level[x]? = some lvx from HLV.out]; simp only [Option.getD_some]; rw [if_pos hl0]))
          have HO2 := hid (of_any HAV5.out (by have := allK_length (fun k => rdP E.last (E.ks[k]?.getD [])) 10; have e : (allE E).length ≤ 10 := this; omega) kk)
          rw [hwt] at HO2
          have HRT := hid (show readT E (stepT t) x kk (v, 0) = { stepT t with broken := (stepT t).broken || (v != wt), reads := (stepT t).reads.set x (rl ++ [(kk, v)]) } from by unfold readT; rw [if_neg (by simp), HF.out]; simp only; rw [HWT.out, show (stepT t).reads[x]? = some rl from HRL.out]; rfl)
          rw [HRT.out] at HD
          clear hwt
          go_wp2_with fail
          refine HO2.out.mono ?_
          rintro e w6 ⟨rfl, hw6⟩
          rw [hw6]
          clear hw6 w6
          by_cases hq : v = wt
          · have gq : (v == wt) = true := by simpa using hq
            have e9 : ({ stepT t with broken := (stepT t).broken || (v != wt), reads := (stepT t).reads.set x (rl ++ [(kk, v)]) } : Tal) = { stepT t with reads := (stepT t).reads.set x (rl ++ [(kk, v)]) } := by rw [show (v != wt) = false by simpa using hq, Bool.or_false]
            rw [e9] at HD
            clear e9 HRT hq
            go_wp2
            refine reads_region HT5.out.tal HRV.out HRL.out (by rw [HN4.out]; exact hr3) (by rw [HN4.out]; exact HXN.out) HRN.out _ _ (by simp) rfl rfl rfl rfl rfl ?_
            intro a' w7 v' hsz7 hd7 h07 hTK
            have HT7 := hid (HT5.out.tale hTK.1 hTK.2)
            clear hTK
            go_wp2
            refine over_loop2 HT7 HN4 hle rfl _ ?_ a' hsz7 h07
            rintro a' w' ⟨hd, hT⟩
            go_wp2
            exact bodyPost_end (results_none rfl _ _ _) hd ⟨rfl, L4, _, { TL with rd := TL.rd.set x v' }, _, HD.out, hT, HS4.out, rfl⟩
          · have gq : (v == wt) = false := by simpa using hq
            have e9 : ({ stepT t with broken := (stepT t).broken || (v != wt), reads := (stepT t).reads.set x (rl ++ [(kk, v)]) } : Tal) = { stepT t with broken := true, reads := (stepT t).reads.set x (rl ++ [(kk, v)]) } := by rw [show (v != wt) = true by simpa using hq, Bool.or_true]
            rw [e9] at HD
            obtain ⟨hT6, hK6⟩ := HT5.out.tal.setHead (o := 9) (u := .bool true) (steps := (stepT t).steps) (n := (stepT t).n) (broken := true) (by simp [talCells])
            have HT6 := hid (HT5.out.tale hT6 hK6)
            have c9 := HT5.out.tal.cell 9
            simp only [talCells, List.getElem?_toArray, List.getElem?_cons_zero, List.getElem?_cons_succ] at c9
            have f9 := HT5.out.tal.free 9
            clear e9 HRT hq hT6 hK6
            go_wp2
            refine reads_region HT6.out.tal HRV.out HRL.out (by rw [HN4.out]; exact hr3) (by rw [HN4.out]; exact HXN.out) HRN.out _ _ (by simp) rfl rfl rfl rfl rfl ?_
            intro a' w7 v' hsz7 hd7 h07 hTK
            have HT7 := hid (HT6.out.tale hTK.1 hTK.2)
            clear hTK
            go_wp2
            refine over_loop2 HT7 HN4 hle rfl _ ?_ a' hsz7 h07
            rintro a' w' ⟨hd, hT⟩
            go_wp2
            exact bodyPost_end (results_none rfl _ _ _) hd ⟨rfl, L4, _, { TL with rd := TL.rd.set x v' }, _, HD.out, hT, HS4.out, rfl⟩
        · have gl : (lvx == 0) = false := by simpa using hl0
          obtain ⟨wt, hwt⟩ : ∃ wt, ofP sl kk = wt := ⟨_, rfl⟩
          have HWT := hid (show wantT E (stepT t) x kk = wt from by rw [← hwt]; exact (by unfold wantT; rw [show (stepT t).level[x]? = some lvx from HLV.out]; simp only [Option.getD_some]; rw [if_neg hl0]; rw [show (stepT t).snap[x]? = some sl from HSL.out]; rfl))
          rw [hwt]
          have HRT := hid (show readT E (stepT t) x kk (v, 0) = { stepT t with broken := (stepT t).broken || (v != wt), reads := (stepT t).reads.set x (rl ++ [(kk, v)]) } from by unfold readT; rw [if_neg (by simp), HF.out]; simp only; rw [HWT.out, show (stepT t).reads[x]? = some rl from HRL.out]; rfl)
          rw [HRT.out] at HD
          clear hwt
          by_cases hq : v = wt
          · have gq : (v == wt) = true := by simpa using hq
            have e9 : ({ stepT t with broken := (stepT t).broken || (v != wt), reads := (stepT t).reads.set x (rl ++ [(kk, v)]) } : Tal) = { stepT t with reads := (stepT t).reads.set x (rl ++ [(kk, v)]) } := by rw [show (v != wt) = false by simpa using hq, Bool.or_false]
            rw [e9] at HD
            clear e9 HRT hq
            go_wp2
            refine reads_region HT5.out.tal HRV.out HRL.out (by rw [HN4.out]; exact hr3) (by rw [HN4.out]; exact HXN.out) HRN.out _ _ (by simp) rfl rfl rfl rfl rfl ?_
            intro a' w7 v' hsz7 hd7 h07 hTK
            have HT7 := hid (HT5.out.tale hTK.1 hTK.2)
            clear hTK
            go_wp2
            refine over_loop2 HT7 HN4 hle rfl _ ?_ a' hsz7 h07
            rintro a' w' ⟨hd, hT⟩
            go_wp2
            exact bodyPost_end (results_none rfl _ _ _) hd ⟨rfl, L4, _, { TL with rd := TL.rd.set x v' }, _, HD.out, hT, HS4.out, rfl⟩
          · have gq : (v == wt) = false := by simpa using hq
            have e9 : ({ stepT t with broken := (stepT t).broken || (v != wt), reads := (stepT t).reads.set x (rl ++ [(kk, v)]) } : Tal) = { stepT t with broken := true, reads := (stepT t).reads.set x (rl ++ [(kk, v)]) } := by rw [show (v != wt) = true by simpa using hq, Bool.or_true]
            rw [e9] at HD
            obtain ⟨hT6, hK6⟩ := HT5.out.tal.setHead (o := 9) (u := .bool true) (steps := (stepT t).steps) (n := (stepT t).n) (broken := true) (by simp [talCells])
            have HT6 := hid (HT5.out.tale hT6 hK6)
            have c9 := HT5.out.tal.cell 9
            simp only [talCells, List.getElem?_toArray, List.getElem?_cons_zero, List.getElem?_cons_succ] at c9
            have f9 := HT5.out.tal.free 9
            clear e9 HRT hq hT6 hK6
            go_wp2
            refine reads_region HT6.out.tal HRV.out HRL.out (by rw [HN4.out]; exact hr3) (by rw [HN4.out]; exact HXN.out) HRN.out _ _ (by simp) rfl rfl rfl rfl rfl ?_
            intro a' w7 v' hsz7 hd7 h07 hTK
            have HT7 := hid (HT6.out.tale hTK.1 hTK.2)
            clear hTK
            go_wp2
            refine over_loop2 HT7 HN4 hle rfl _ ?_ a' hsz7 h07
            rintro a' w' ⟨hd, hT⟩
            go_wp2
            exact bodyPost_end (results_none rfl _ _ _) hd ⟨rfl, L4, _, { TL with rd := TL.rd.set x v' }, _, HD.out, hT, HS4.out, rfl⟩
    · subst hc
      obtain ⟨ob, f, hob, hof⟩ := HT5.out.tal.getO (i := x) (by rw [HN4.out]; exact HXN.out)
      have hlk := (HT5.out.tal.om x ob f hob hof).1.look Tryz.underlying69 (zeroI w5) (a := kk) (by unfold I64; omega)
      have c3 := HT5.out.tal.cell 3
      simp only [talCells, List.getElem?_toArray, List.getElem?_cons_zero, List.getElem?_cons_succ] at c3
      rcases row_slice (HT5.out.tal.rows 2 (by omega)) with ⟨_, e0⟩ | ⟨q2, cap2, hr2, _, hcs2⟩
      · have := HN4.out; omega
      rw [HN4.out] at hr2
      rw [hr2] at c3
      have d2 : w5.cell? ⟨q2, x, none⟩ = some (.map (some ob)) := hcs2 x _ (show (TL.om.map mapV)[x]? = some (mapV ob) from by rw [List.getElem?_map, hob]; rfl)
      have g1 : (x : Int) < (N : Int) := by have := HXN.out; omega
      have g2 : (0 : Int) ≤ (x : Int) := by omega
      have hfx : ownT (stepT t) x = f := by unfold ownT; rw [show (stepT t).own[x]? = some f from hof]; rfl
      cases hfk : f kk with
      | some ow =>
        rw [hfk] at hlk
        simp only [Option.map_some, Option.getD_some, Option.isSome_some] at hlk
        have HF := hid (show ownT (stepT t) x kk = some ow from by rw [hfx]; exact hfk)
        clear hob hof hr2 hcs2 hfk hfx
        rw [show errV 8 = _ from rfl]
        have HRT := hid (show readT E (stepT t) x kk (v, 8) = { stepT t with broken := (stepT t).broken || ((-1 : Int) != ow) } from by unfold readT; rw [if_neg (by simp), HF.out]; rfl)
        rw [HRT.out] at HD
        by_cases hq : (-1 : Int) = ow
        · have gq : ((-1 : Int) == ow) = true := by simpa using hq
          have e9 : ({ stepT t with broken := (stepT t).broken || ((-1 : Int) != ow) } : Tal) = stepT t := by rw [show ((-1 : Int) != ow) = false by simpa using hq, Bool.or_false]
          rw [e9] at HD
          clear e9 HRT hq
          go_wp2
          refine over_loop' HT5 HN4 hle rfl _ ?_ _ (by simp) rfl rfl rfl
          rintro a' w' ⟨hd, hT⟩
          go_wp2
          exact bodyPost_end (results_none rfl _ _ _) hd ⟨rfl, L4, _, TL, _, HD.out, hT, HS4.out, rfl⟩
        · have gq : ((-1 : Int) == ow) = false := by simpa using hq
          have e9 : ({ stepT t with broken := (stepT t).broken || ((-1 : Int) != ow) } : Tal) = { stepT t with broken := true } := by rw [show ((-1 : Int) != ow) = true by simpa using hq, Bool.or_true]
          rw [e9] at HD
          obtain ⟨hT6, hK6⟩ := HT5.out.tal.setHead (o := 9) (u := .bool true) (steps := (stepT t).steps) (n := (stepT t).n) (broken := true) (by simp [talCells])
          have HT6 := hid (HT5.out.tale hT6 hK6)
          have c9 := HT5.out.tal.cell 9
          simp only [talCells, List.getElem?_toArray, List.getElem?_cons_zero, List.getElem?_cons_succ] at c9
          have f9 := HT5.out.tal.free 9
          clear e9 HRT hq hT6 hK6
          go_wp2
          refine over_loop' HT6 HN4 hle rfl _ ?_ _ (by simp) rfl rfl rfl
          rintro a' w' ⟨hd, hT⟩
          go_wp2
          exact bodyPost_end (results_none rfl _ _ _) hd ⟨rfl, L4, _, TL, _, HD.out, hT, HS4.out, rfl⟩
      | none =>
        rw [hfk] at hlk
        simp only [Option.map_none, Option.getD_none, Option.isSome_none] at hlk
        have HF := hid (show ownT (stepT t) x kk = none from by rw [hfx]; exact hfk)
        clear hob hof hr2 hcs2 hfk hfx
        obtain ⟨sv, sl, hsv, hsl⟩ := HT5.out.tal.getS (i := x) (by rw [HN4.out]; exact HXN.out)
        obtain ⟨rv, rl, hrv, hrl⟩ := HT5.out.tal.getR (i := x) (by rw [HN4.out]; exact HXN.out)
        obtain ⟨lvx, hlvx⟩ : ∃ lvx, (stepT t).level[x]? = some lvx := ⟨(stepT t).level[x]'(by rw [HT5.out.tal.len.level, HN4.out]; exact HXN.out), List.getElem?_eq_getElem _⟩
        have hsl2 : t.snap[x]? = some sl := hsl
        have HSL := hid hsl2
        have HLV := hid hlvx
        have HRV := hid hrv
        have HRL := hid hrl
        have HRN := hid (show rl.length ≤ 100000 from by have := htr rl (List.mem_of_getElem? hrl); omega)
        have HO1 := hid (of_any (HT5.out.tal.sn x sv sl hsv hsl) (by have := hts sl (List.mem_of_getElem? hsl2); omega) kk)
        have c1 := HT5.out.tal.cell 1
        have c2 := HT5.out.tal.cell 2
        simp only [talCells, List.getElem?_toArray, List.getElem?_cons_zero, List.getElem?_cons_succ] at c1 c2
        rcases row_slice (HT5.out.tal.rows 0 (by omega)) with ⟨_, e0⟩ | ⟨q0, cap0, hr0, _, hcs0⟩
        · have := HN4.out; omega
        rcases row_slice (HT5.out.tal.rows 1 (by omega)) with ⟨_, e0⟩ | ⟨q1, cap1, hr1, _, hcs1⟩
        · have := HN4.out; omega
        rcases row_slice (HT5.out.tal.rows 3 (by omega)) with ⟨_, e0⟩ | ⟨q3, cap3, hr3, _, _⟩
        · have := HN4.out; omega
        rw [HN4.out] at hr0 hr1 hr3
        rw [hr0] at c1
        rw [hr1] at c2
        have d0 : w5.cell? ⟨q0, x, none⟩ = some (.int .i64 lvx) := hcs0 x _ (intsV_get hlvx)
        have d1 : w5.cell? ⟨q1, x, none⟩ = some sv := hcs1 x _ hsv
        have g1 : (x : Int) < (N : Int) := by have := HXN.out; omega
        have g2 : (0 : Int) ≤ (x : Int) := by omega
        clear hsv hsl hsl2 hrv hrl hlvx hr0 hr1 hcs0 hcs1
        go_wp2_with fail
        refine HO1.out.mono ?_
        rintro e w6 ⟨rfl, hw6⟩
        rw [hw6]
        clear hw6 w6 HO1
        by_cases hl0 : lvx = 0
        · have gl : (lvx == 0) = true := by simpa using hl0
          obtain ⟨wt, hwt⟩ : ∃ wt, ofP (allE E) kk = wt := ⟨_, rfl⟩
          have HWT := hid (show wantT E (stepT t) x kk = wt from by rw [← hwt]; exact (by unfold wantT; rw [show (stepT t).level[x]? = some lvx from HLV.out]; simp only [Option.getD_some]; rw [if_pos hl0]))
          have HO2 := hid (of_any HAV5.out (by have := allK_length (fun k => rdP E.last (E.ks[k]?.getD [])) 10; have e : (allE E).length ≤ 10 := this; omega) kk)
          rw [hwt] at HO2
          have HRT := hid (show readT E (stepT t) x kk (v, 8) = { stepT t with broken := (stepT t).broken || ((-1 : Int) != wt), reads := (stepT t).reads.set x (rl ++ [(kk, (-1 : Int))]) } from by unfold readT; rw [if_neg (by simp), HF.out]; simp only; rw [HWT.out, show (stepT t).reads[x]? = some rl from HRL.out]; rfl)
          rw [HRT.out] at HD
          clear hwt
          go_wp2_with fail
          refine HO2.out.mono ?_
          rintro e w6 ⟨rfl, hw6⟩
          rw [hw6]
          clear hw6 w6
          by_cases hq : (-1 : Int) = wt
          · have gq : ((-1 : Int) == wt) = true := by simpa using hq
            have e9 : ({ stepT t with broken := (stepT t).broken || ((-1 : Int) != wt), reads := (stepT t).reads.set x (rl ++ [(kk, (-1 : Int))]) } : Tal) = { stepT t with reads := (stepT t).reads.set x (rl ++ [(kk, (-1 : Int))]) } := by rw [show ((-1 : Int) != wt) = false by simpa using hq, Bool.or_false]
            rw [e9] at HD
            clear e9 HRT hq
            go_wp2
            refine reads_region HT5.out.tal HRV.out HRL.out (by rw [HN4.out]; exact hr3) (by rw [HN4.out]; exact HXN.out) HRN.out _ _ (by simp) rfl rfl rfl rfl rfl ?_
            intro a' w7 v' hsz7 hd7 h07 hTK
            have HT7 := hid (HT5.out.tale hTK.1 hTK.2)
            clear hTK
            go_wp2
            refine over_loop2 HT7 HN4 hle rfl _ ?_ a' hsz7 h07
            rintro a' w' ⟨hd, hT⟩
            go_wp2
            exact bodyPost_end (results_none rfl _ _ _) hd ⟨rfl, L4, _, { TL with rd := TL.rd.set x v' }, _, HD.out, hT, HS4.out, rfl⟩
          · have gq : ((-1 : Int) == wt) = false := by simpa using hq
            have e9 : ({ stepT t with broken := (stepT t).broken || ((-1 : Int) != wt), reads := (stepT t).reads.set x (rl ++ [(kk, (-1 : Int))]) } : Tal) = { stepT t with broken := true, reads := (stepT t).reads.set x (rl ++ [(kk, (-1 : Int))]) } := by rw [show ((-1 : Int) != wt) = true by simpa using hq, Bool.or_true]
            rw [e9] at HD
            obtain ⟨hT6, hK6⟩ := HT5.out.tal.setHead (o := 9) (u := .bool true) (steps := (stepT t).steps) (n := (stepT t).n) (broken := true) (by simp [talCells])
            have HT6 := hid (HT5.out.tale hT6 hK6)
            have c9 := HT5.out.tal.cell 9
            simp only [talCells, List.getElem?_toArray, List.getElem?_cons_zero, List.getElem?_cons_succ] at c9
            have f9 := HT5.out.tal.free 9
            clear e9 HRT hq hT6 hK6
            go_wp2
            refine reads_region HT6.out.tal HRV.out HRL.out (by rw [HN4.out]; exact hr3) (by rw [HN4.out]; exact HXN.out) HRN.out _ _ (by simp) rfl rfl rfl rfl rfl ?_
            intro a' w7 v' hsz7 hd7 h07 hTK
            have HT7 := hid (HT6.out.tale hTK.1 hTK.2)
            clear hTK
            go_wp2
            refine over_loop2 HT7 HN4 hle rfl _ ?_ a' hsz7 h07
            rintro a' w' ⟨hd, hT⟩
            go_wp2
            exact bodyPost_end (results_none rfl _ _ _) hd ⟨rfl, L4, _, { TL with rd := TL.rd.set x v' }, _, HD.out, hT, HS4.out, rfl⟩
        · have gl : (lvx == 0) = false := by simpa using hl0
          obtain ⟨wt, hwt⟩ : ∃ wt, ofP sl kk = wt := ⟨_, rfl⟩
          have HWT := hid (show wantT E (stepT t) x kk = wt from by rw [← hwt]; exact (by unfold wantT; rw [show (stepT t).level[x]? = some lvx from HLV.out]; simp only [Option.getD_some]; rw [if_neg hl0]; rw [show (stepT t).snap[x]? = some sl from HSL.out]; rfl))
          rw [hwt]
          have HRT := hid (show readT E (stepT t) x kk (v, 8) = { stepT t with broken := (stepT t).broken || ((-1 : Int) != wt), reads := (stepT t).reads.set x (rl ++ [(kk, (-1 : Int))]) } from by unfold readT; rw [if_neg (by simp), HF.out]; simp only; rw [HWT.out, show (stepT t).reads[x]? = some rl from HRL.out]; rfl)
          rw [HRT.out] at HD
          clear hwt
          by_cases hq : (-1 : Int) = wt
          · have gq : ((-1 : Int) == wt) = true := by simpa using hq
            have e9 : ({ stepT t with broken := (stepT t).broken || ((-1 : Int) != wt), reads := (stepT t).reads.set x (rl ++ [(kk, (-1 : Int))]) } : Tal) = { stepT t with reads := (stepT t).reads.set x (rl ++ [(kk, (-1 : Int))]) } := by rw [show ((-1 : Int) != wt) = false by simpa using hq, Bool.or_false]
            rw [e9] at HD
            clear e9 HRT hq
            go_wp2
            refine reads_region HT5.out.tal HRV.out HRL.out (by rw [HN4.out]; exact hr3) (by rw [HN4.out]; exact HXN.out) HRN.out _ _ (by simp) rfl rfl rfl rfl rfl ?_
            intro a' w7 v' hsz7 hd7 h07 hTK
            have HT7 := hid (HT5.out.tale hTK.1 hTK.2)
            clear hTK
            go_wp2
            refine over_loop2 HT7 HN4 hle rfl _ ?_ a' hsz7 h07
            rintro a' w' ⟨hd, hT⟩
            go_wp2
            exact bodyPost_end (results_none rfl _ _ _) hd ⟨rfl, L4, _, { TL with rd := TL.rd.set x v' }, _, HD.out, hT, HS4.out, rfl⟩
          · have gq : ((-1 : Int) == wt) = false := by simpa using hq
            have e9 : ({ stepT t with broken := (stepT t).broken || ((-1 : Int) != wt), reads := (stepT t).reads.set x (rl ++ [(kk, (-1 : Int))]) } : Tal) = { stepT t with broken := true, reads := (stepT t).reads.set x (rl ++ [(kk, (-1 : Int))]) } := by rw [show ((-1 : Int) != wt) = true by simpa using hq, Bool.or_true]
            rw [e9] at HD
            obtain ⟨hT6, hK6⟩ := HT5.out.tal.setHead (o := 9) (u := .bool true) (steps := (stepT t).steps) (n := (stepT t).n) (broken := true) (by simp [talCells])
            have HT6 := hid (HT5.out.tale hT6 hK6)
            have c9 := HT5.out.tal.cell 9
            simp only [talCells, List.getElem?_toArray, List.getElem?_cons_zero, List.getElem?_cons_succ] at c9
            have f9 := HT5.out.tal.free 9
            clear e9 HRT hq hT6 hK6
            go_wp2
            refine reads_region HT6.out.tal HRV.out HRL.out (by rw [HN4.out]; exact hr3) (by rw [HN4.out]; exact HXN.out) HRN.out _ _ (by simp) rfl rfl rfl rfl rfl ?_
            intro a' w7 v' hsz7 hd7 h07 hTK
            have HT7 := hid (HT6.out.tale hTK.1 hTK.2)
            clear hTK
            go_wp2
            refine over_loop2 HT7 HN4 hle rfl _ ?_ a' hsz7 h07
            rintro a' w' ⟨hd, hT⟩
            go_wp2
            exact bodyPost_end (results_none rfl _ _ _) hd ⟨rfl, L4, _, { TL with rd := TL.rd.set x v' }, _, HD.out, hT, HS4.out, rfl⟩
    · subst hc
      have e13 : readT E (stepT t) x kk (v, 13) = stepT t := by simp [readT]
      rw [e13] at HD
      go_wp2
      refine over_loop' HT5 HN4 hle rfl _ ?_ _ (by simp) rfl rfl rfl
      rintro a' w' ⟨hd, hT⟩
      go_wp2
      exact bodyPost_end (results_none rfl _ _ _) hd ⟨rfl, L4, _, TL, _, HD.out, hT, HS4.out, rfl⟩
  · have HC := hid (read_shut H3.out.en (n := (x : Int) + 1) (key := kk) (.inr ⟨rfl, x, u, rfl, HU.out, hs⟩))
    have HTL := hid (tellV 6 w3 (H3.out.handle hg0))
    go_wp2_with fail
    refine HC.out.mono ?_
    rintro e w4 ⟨rfl, hw4⟩
    rw [hw4]
    clear hw4
    go_wp2_with fail
    refine HTL.out.mono ?_
    rintro e w5 ⟨rfl, hB5⟩
    have HT5 := hid (H3.out.below hB5)
    clear hB5 HTL HC H3 HAV HAL c0
    go_wp2
    refine over_loop' HT5 HNN hle rfl _ ?_ _ (by simp) rfl rfl rfl
    rintro a' w' ⟨hd, hT⟩
    go_wp2
    exact bodyPost_end (results_none rfl _ _ _) hd ⟨rfl, L, _, TL, _, Does.shut E t, hT, rfl, rfl⟩
end Go.Proofs.YtjefgmeejhakbaaGreatDoor
