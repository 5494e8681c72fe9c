/- keep's does: one begins. -/
import Derived.Test.YtjefgmeejhakbaaGreatDoorMgASQ
namespace Go.Proofs.YtjefgmeejhakbaaGreatDoor
open Go.RowKit
set_option maxRecDepth 100000 in
set_option maxHeartbeats 4000000 in
theorem does_begin {w0 : Gr} {w : World} {L : EnL} {E : Eng} {TL : TalL} {t : Tal} (h : TaleAt w0 w L E TL t) (hf : Fits E) (hst : 0 ≤ t.steps ∧ t.steps ≤ 1000) (lv lev tx key : Int) (hlv : lv < 0) (hl : E.txs.length < 200) (ho : (liveOnes E).length < 6) :
    Calls Tryz.prog 24 #[.pointer (some ⟨TL.b, 0, none⟩), .agg #[.int .i64 0, .int .i64 lev, .int .i64 tx, .int .i64 key], .int .i64 lv] w fun e w' => e = .returned (.tuple #[]) ∧
      ∃ L' E' TL' t', Does lv E t E' t' ∧ TaleAt w0 w' L' E' TL' t' ∧ L'.s = L.s ∧ TL'.b = TL.b := by
  have hc7 := h.tal.cell 7
  simp only [talCells, List.getElem?_toArray, List.getElem?_cons_zero, List.getElem?_cons_succ] at hc7
  have hf7 := h.tal.free 7
  have hbl : TL.b < w.heap.size := h.tal.own_lt (.inl rfl)
  obtain ⟨H1, hbox, hsz⟩ := step_at h (0, lev, tx, key)
  have gst : IntKind.i64.wrap (t.steps + 1) = t.steps + 1 := IntWalk.i64_in _ (by omega)
  go_enter Tryz.func24, Tryz.ntmps24
  go_wp2_with fail
  obtain ⟨w1, hw1⟩ : ∃ w1, stepW w TL.b (0, lev, tx, key) (t.steps + 1) = w1 := ⟨_, rfl⟩
  simp only [stepW, actV] at hw1
  rw [hw1]
  rw [show stepW w TL.b (0, lev, tx, key) (t.steps + 1) = w1 from hw1] at H1 hbox hsz
  have hB := hbox
  have b0 : w1.cell? ⟨w.heap.size, 0, none⟩ = some (.int .i64 0) := (cell_of_row w1 _ 0 _ _ (0, 0) hbox).trans rfl
  have b1 : w1.cell? ⟨w.heap.size, 1, none⟩ = some (.int .i64 lev) := (cell_of_row w1 _ 1 _ _ (0, 0) hbox).trans rfl
  have c0 := H1.tal.cell 0
  have c1 := H1.tal.cell 1
  simp only [talCells, List.getElem?_toArray, List.getElem?_cons_zero, List.getElem?_cons_succ] at c0 c1
  obtain ⟨ad, cap, hr0⟩ := row_form (H1.tal.rows 0 (by omega))
  rw [hr0] at c1
  have HA := hid (allE_any H1.en hf)
  have HH := hid H1
  have hg : decide (lv < 0) = true := by simpa using hlv
  clear hw1 h hc7 hf7 H1 hbox hB hr0
  refine (pick_eq _ _ _ (by decide) (by decide)).mono ?_
  rintro e w' ⟨rfl, hw'⟩
  rw [hw']
  clear hw' w'
  go_wp2_with fail
  refine (pick_eq _ _ _ (by decide) (by decide)).mono ?_
  rintro e w' ⟨rfl, hw'⟩
  rw [hw']
  clear hw' w'
  go_wp2_with fail
  have hpk := pickP_in lev 3 (by decide) (by decide)
  obtain ⟨level, hlev⟩ : ∃ level, pickP lev 3 = level := ⟨_, rfl⟩
  rw [hlev] at hpk ⊢
  have h3 : level = 0 ∨ level = 1 ∨ level = 2 := by omega
  refine HA.out.mono ?_
  rintro e w2 ⟨av, rfl, hav, hB2⟩
  have H2 := HH.out.below hB2
  obtain ⟨ava, avc, hava⟩ := row_form hav
  obtain ⟨nav, hnav⟩ : ∃ nav, (allE E).length = nav := ⟨_, rfl⟩
  rw [hnav] at hav hava
  subst hava
  have HNAV := hid hnav
  have HAV := hid hav
  have hsz2 := hB2.size
  have c0' := H2.tal.cell 0
  simp only [talCells, List.getElem?_toArray, List.getElem?_cons_zero] at c0'
  have HH2 := hid H2
  have HB := hid (begin_ok H2.en h3 hl ho)
  have HAB := hid (show ∀ g, (Value.slice ava nav avc).ownBlock = some g → ¬ TL.own g ∧ ¬ L.own g ∧ ¬ w0.P g from fun g hg => by
    have h1 := (hav.lt g hg).1
    exact ⟨fun hown => by have h2 := HH.out.tal.own_lt hown; omega, fun hown => by have h2 := HH.out.en.own_lt hown; omega, HH.out.kept.new h1⟩)
  clear HA hav hB2 H2 hnav b0 b1 c0 c1 HH
  go_wp2_with fail
  refine HB.out.mono ?_
  rintro e w3 ⟨rfl, L3, b3, hE3, hK3, hs3, _⟩
  have H3 : TalAt w3 L.s TL (stepT t) E.txs.length := HH2.out.tal.same (fun g hg => hK3.block g (HH2.out.tal.own_lt hg) (HH2.out.apart g hg))
  have c1 := H3.cell 1
  simp only [talCells, List.getElem?_toArray, List.getElem?_cons_zero, List.getElem?_cons_succ] at c1
  obtain ⟨ad3, cap3, hr0⟩ := row_form (H3.rows 0 (by omega))
  rw [hr0] at c1
  have gl : IntKind.i64.wrap ((E.txs.length : Int) + 1) = (E.txs.length : Int) + 1 := IntWalk.i64_in _ (by omega)
  have HT3 := hid H3
  have HR3 := hid H3.rowsAt
  have HE3 := hid hE3
  have HK3 := hid hK3
  have HS3 := hid hs3
  clear HB hE3 hK3 hs3 H3 hr0
  go_wp2
  have hbl3 : TL.b < w3.heap.size := HT3.out.own_lt (.inl rfl)
  refine region_plan (by rfl) (p11 TL E.txs.length w3.heap.size t.level level (.slice ava nav avc))
    (Stage w3 L.s TL (stepT t).steps (stepT t).n (stepT t).broken 0 9 16 23 26 29 32 85 92 99)
    [(0, .pointer (some ⟨TL.b, 0, none⟩)), (2, .int .i64 level), (7, .slice ava nav avc)] 394 (by rfl) (by rfl) (Stage.start HR3.out _ _ _ _ _ _ _ _ _ _ _ _) ?fix rfl [] rfl ?step ?fin
  case fix =>
    intro q hq
    simp only [List.mem_cons, List.not_mem_nil, or_false] at hq
    rcases hq with rfl | rfl | rfl <;> rfl
  case step =>
    intro i o listed a W hi ho hls hcl haft hnd hG hL hF hsz4
    have hi' : i < 33 := hi
    have f0 : a.tmps.getD 0 undef = .pointer (some ⟨TL.b, 0, none⟩) := hF (0, .pointer (some ⟨TL.b, 0, none⟩)) (by simp)
    have f2 : a.tmps.getD 2 undef = .int .i64 level := hF (2, .int .i64 level) (by simp)
    have f7 : a.tmps.getD 7 undef = .slice ava nav avc := hF (7, .slice ava nav avc) (by simp)
    obtain rfl | rfl | rfl | rfl | rfl | rfl | rfl | rfl | rfl | rfl | rfl | rfl | rfl | rfl | rfl | rfl | rfl | rfl | rfl | rfl | rfl | rfl | rfl | rfl | rfl | rfl | rfl | rfl | rfl | rfl | rfl | rfl | rfl : i = 0 ∨ i = 1 ∨ i = 2 ∨ i = 3 ∨ i = 4 ∨ i = 5 ∨ i = 6 ∨ i = 7 ∨ i = 8 ∨ i = 9 ∨ i = 10 ∨ i = 11 ∨ i = 12 ∨ i = 13 ∨ i = 14 ∨ i = 15 ∨ i = 16 ∨ i = 17 ∨ i = 18 ∨ i = 19 ∨ i = 20 ∨ i = 21 ∨ i = 22 ∨ i = 23 ∨ i = 24 ∨ i = 25 ∨ i = 26 ∨ i = 27 ∨ i = 28 ∨ i = 29 ∨ i = 30 ∨ i = 31 ∨ i = 32 := by omega
    · obtain rfl := Option.some.inj ho
      exact wpOp_val ho rfl (v := a.tmps.getD 0 undef) (w' := W) rfl ⟨_, rfl, f0, hG.pure (by omega) (by omega) (Chg.refl _) hbl3, fun _ _ _ _ h => h⟩
    · obtain rfl := Option.some.inj ho
      exact wpOp_val ho rfl (v := a.tmps.getD 0 undef) (w' := W) rfl ⟨_, rfl, f0, hG.pure (by omega) (by omega) (Chg.refl _) hbl3, fun _ _ _ _ h => h⟩
    · obtain rfl := Option.some.inj ho
      exact wpOp_val ho rfl (v := a.tmps.getD 0 undef) (w' := W) rfl ⟨_, rfl, f0, hG.pure (by omega) (by omega) (Chg.refl _) hbl3, fun _ _ _ _ h => h⟩
    · obtain rfl := Option.some.inj ho
      exact wpOp_val ho rfl (v := a.tmps.getD 0 undef) (w' := W) rfl ⟨_, rfl, f0, hG.pure (by omega) (by omega) (Chg.refl _) hbl3, fun _ _ _ _ h => h⟩
    · obtain rfl := Option.some.inj ho
      have e : a.tmps.getD 79 undef = .pointer (some ⟨TL.b, 0, none⟩) := hL 3 _ 79 rfl rfl (haft ⟨3, .data⟩ (by simp) rfl)
      refine wpOp_val ho rfl (v := .pointer (some ⟨TL.b, 0, none⟩)) (w' := W) ?_ ⟨_, rfl, rfl, hG.pure (by omega) (by omega) (Chg.refl _) hbl3, fun _ _ _ _ h => h⟩
      simp [execOp, Act.eval, e, go_sem]
    · obtain rfl := Option.some.inj ho
      have e : a.tmps.getD 80 undef = .pointer (some ⟨TL.b, 0, none⟩) := hL 4 _ 80 rfl rfl (haft ⟨4, .data⟩ (by simp) rfl)
      refine wpOp_val ho rfl (v := .pointer (some ⟨TL.b, 1, none⟩)) (w' := W) ?_ ⟨_, rfl, rfl, hG.pure (by omega) (by omega) (Chg.refl _) hbl3, fun _ _ _ _ h => h⟩
      simp [execOp, Act.eval, e, go_sem]
    · obtain rfl := Option.some.inj ho
      have e : a.tmps.getD 81 undef = .pointer (some ⟨TL.b, 1, none⟩) := hL 5 _ 81 rfl rfl (haft ⟨5, .data⟩ (by simp) rfl)
      have hc := hG.cellAt (j := 0) (S := 26) (by simp) (by omega) (fun h => hnd (hcl 26 _ rfl h ⟨6, .phase⟩ (by simp) rfl))
      refine wpOp_val ho rfl (v := TL.row 0) (w' := W) ?_ ⟨_, rfl, rfl, hG.pure (by omega) (by omega) (Chg.refl _) hbl3, fun _ _ _ _ h => h⟩
      simp [execOp, Act.eval, e, hc, go_sem]
    · obtain rfl := Option.some.inj ho
      exact wpOp_val ho rfl (v := a.tmps.getD 2 undef) (w' := W) rfl ⟨_, rfl, f2, hG.pure (by omega) (by omega) (Chg.refl _) hbl3, fun _ _ _ _ h => h⟩
    · obtain rfl := Option.some.inj ho
      have e : a.tmps.getD 83 undef = .int .i64 level := hL 7 _ 83 rfl rfl (haft ⟨7, .data⟩ (by simp) rfl)
      refine wpOp_val ho rfl (v := .slice (some ⟨W.heap.size, 0, none⟩) 1 1) (w' := W.alloc (.cells #[.int .i64 level] 3)) ?_ ⟨_, rfl, ⟨_, rfl, heap_alloc_new W _, hG.size⟩, hG.pure (by omega) (by omega) (Chg.alloc _ _) hbl3, fun j u hj _ h => p11_stay (Chg.alloc _ _) (fun _ h => h.elim) j u hj h⟩
      rw [Array.getD_eq_getD_getElem?] at e
      simp [execOp, Act.eval, e, go_sem]
    · obtain rfl := Option.some.inj ho
      have e1 : a.tmps.getD 82 undef = TL.row 0 := hL 6 _ 82 rfl rfl (haft ⟨6, .data⟩ (by simp) rfl)
      have e2 := hL 8 _ 84 rfl rfl (haft ⟨8, .data⟩ (by simp) rfl)
      have hown := hG.rowAt HR3.out (j := 0) (A := 9) (by simp) (by omega) hnd
      refine wpOp_law ho rfl (app_arm rfl (.tmp 82) (.tmp 84) 29 rfl 8 Tryz.underlying29 infoI rfl (by omega) e1 hown rfl e2 rfl (by omega) hG.size ?_)
      intro v W' hv hc _
      exact ⟨v, rfl, hv, hG.app (j := 0) (by simp) ⟨fun h => hnd (hcl 26 _ rfl h ⟨9, .phase⟩ (by simp) rfl), fun h => hnd (hcl 29 _ rfl h ⟨9, .phase⟩ (by simp) rfl), fun h => hnd (hcl 32 _ rfl h ⟨9, .phase⟩ (by simp) rfl)⟩ (by omega) hc (by rw [hls]; exact hi) hbl3 (HR3.out.ne_b _ (by omega)), fun j u hj _ h => p11_stay hc (fun g hg => ⟨owns_lt (HR3.out.rows 0 (by omega)) hg, fun h => (h rfl).elim, fun _ h1 => absurd (HR3.out.ne _ _ g (by omega) (by omega) hg h1) (by omega), fun _ h1 => absurd (HR3.out.ne _ _ g (by omega) (by omega) hg h1) (by omega)⟩) j u hj h⟩
    · obtain rfl := Option.some.inj ho
      exact wpOp_val ho rfl (v := a.tmps.getD 0 undef) (w' := W) rfl ⟨_, rfl, f0, hG.pure (by omega) (by omega) (Chg.refl _) hbl3, fun _ _ _ _ h => h⟩
    · obtain rfl := Option.some.inj ho
      have e : a.tmps.getD 86 undef = .pointer (some ⟨TL.b, 0, none⟩) := hL 10 _ 86 rfl rfl (haft ⟨10, .data⟩ (by simp) rfl)
      refine wpOp_val ho rfl (v := .pointer (some ⟨TL.b, 0, none⟩)) (w' := W) ?_ ⟨_, rfl, rfl, hG.pure (by omega) (by omega) (Chg.refl _) hbl3, fun _ _ _ _ h => h⟩
      simp [execOp, Act.eval, e, go_sem]
    · obtain rfl := Option.some.inj ho
      have e : a.tmps.getD 87 undef = .pointer (some ⟨TL.b, 0, none⟩) := hL 11 _ 87 rfl rfl (haft ⟨11, .data⟩ (by simp) rfl)
      refine wpOp_val ho rfl (v := .pointer (some ⟨TL.b, 2, none⟩)) (w' := W) ?_ ⟨_, rfl, rfl, hG.pure (by omega) (by omega) (Chg.refl _) hbl3, fun _ _ _ _ h => h⟩
      simp [execOp, Act.eval, e, go_sem]
    · obtain rfl := Option.some.inj ho
      have e : a.tmps.getD 88 undef = .pointer (some ⟨TL.b, 2, none⟩) := hL 12 _ 88 rfl rfl (haft ⟨12, .data⟩ (by simp) rfl)
      have hc := hG.cellAt (j := 1) (S := 29) (by simp) (by omega) (fun h => hnd (hcl 29 _ rfl h ⟨13, .phase⟩ (by simp) rfl))
      refine wpOp_val ho rfl (v := TL.row 1) (w' := W) ?_ ⟨_, rfl, rfl, hG.pure (by omega) (by omega) (Chg.refl _) hbl3, fun _ _ _ _ h => h⟩
      simp [execOp, Act.eval, e, hc, go_sem]
    · obtain rfl := Option.some.inj ho
      exact wpOp_val ho rfl (v := a.tmps.getD 7 undef) (w' := W) rfl ⟨_, rfl, f7, hG.pure (by omega) (by omega) (Chg.refl _) hbl3, fun _ _ _ _ h => h⟩
    · obtain rfl := Option.some.inj ho
      have e : a.tmps.getD 90 undef = (.slice ava nav avc) := hL 14 _ 90 rfl rfl (haft ⟨14, .data⟩ (by simp) rfl)
      refine wpOp_val ho rfl (v := .slice (some ⟨W.heap.size, 0, none⟩) 1 1) (w' := W.alloc (.cells #[(.slice ava nav avc)] 23)) ?_ ⟨_, rfl, ⟨_, rfl, heap_alloc_new W _, hG.size⟩, hG.pure (by omega) (by omega) (Chg.alloc _ _) hbl3, fun j u hj _ h => p11_stay (Chg.alloc _ _) (fun _ h => h.elim) j u hj h⟩
      rw [Array.getD_eq_getD_getElem?] at e
      simp [execOp, Act.eval, e, go_sem]
    · obtain rfl := Option.some.inj ho
      have e1 : a.tmps.getD 89 undef = TL.row 1 := hL 13 _ 89 rfl rfl (haft ⟨13, .data⟩ (by simp) rfl)
      have e2 := hL 15 _ 91 rfl rfl (haft ⟨15, .data⟩ (by simp) rfl)
      have hown := hG.rowAt HR3.out (j := 1) (A := 16) (by simp) (by omega) hnd
      refine wpOp_law ho rfl (app_arm rfl (.tmp 89) (.tmp 91) 63 rfl 24 Tryz.underlying63 infoWs rfl (by omega) e1 hown rfl e2 rfl (by omega) hG.size ?_)
      intro v W' hv hc _
      exact ⟨v, rfl, hv, hG.app (j := 1) (by simp) ⟨fun h => hnd (hcl 26 _ rfl h ⟨16, .phase⟩ (by simp) rfl), fun h => hnd (hcl 29 _ rfl h ⟨16, .phase⟩ (by simp) rfl), fun h => hnd (hcl 32 _ rfl h ⟨16, .phase⟩ (by simp) rfl)⟩ (by omega) hc (by rw [hls]; exact hi) hbl3 (HR3.out.ne_b _ (by omega)), fun j u hj _ h => p11_stay hc (fun g hg => ⟨owns_lt (HR3.out.rows 1 (by omega)) hg, fun _ h1 => absurd (HR3.out.ne _ _ g (by omega) (by omega) hg h1) (by omega), fun h => (h rfl).elim, fun _ h1 => absurd (HR3.out.ne _ _ g (by omega) (by omega) hg h1) (by omega)⟩) j u hj h⟩
    · obtain rfl := Option.some.inj ho
      exact wpOp_val ho rfl (v := a.tmps.getD 0 undef) (w' := W) rfl ⟨_, rfl, f0, hG.pure (by omega) (by omega) (Chg.refl _) hbl3, fun _ _ _ _ h => h⟩
    · obtain rfl := Option.some.inj ho
      have e : a.tmps.getD 93 undef = .pointer (some ⟨TL.b, 0, none⟩) := hL 17 _ 93 rfl rfl (haft ⟨17, .data⟩ (by simp) rfl)
      refine wpOp_val ho rfl (v := .pointer (some ⟨TL.b, 0, none⟩)) (w' := W) ?_ ⟨_, rfl, rfl, hG.pure (by omega) (by omega) (Chg.refl _) hbl3, fun _ _ _ _ h => h⟩
      simp [execOp, Act.eval, e, go_sem]
    · obtain rfl := Option.some.inj ho
      have e : a.tmps.getD 94 undef = .pointer (some ⟨TL.b, 0, none⟩) := hL 18 _ 94 rfl rfl (haft ⟨18, .data⟩ (by simp) rfl)
      refine wpOp_val ho rfl (v := .pointer (some ⟨TL.b, 3, none⟩)) (w' := W) ?_ ⟨_, rfl, rfl, hG.pure (by omega) (by omega) (Chg.refl _) hbl3, fun _ _ _ _ h => h⟩
      simp [execOp, Act.eval, e, go_sem]
    · obtain rfl := Option.some.inj ho
      have e : a.tmps.getD 95 undef = .pointer (some ⟨TL.b, 3, none⟩) := hL 19 _ 95 rfl rfl (haft ⟨19, .data⟩ (by simp) rfl)
      have hc := hG.cellAt (j := 2) (S := 32) (by simp) (by omega) (fun h => hnd (hcl 32 _ rfl h ⟨20, .phase⟩ (by simp) rfl))
      refine wpOp_val ho rfl (v := TL.row 2) (w' := W) ?_ ⟨_, rfl, rfl, hG.pure (by omega) (by omega) (Chg.refl _) hbl3, fun _ _ _ _ h => h⟩
      simp [execOp, Act.eval, e, hc, go_sem]
    · obtain rfl := Option.some.inj ho
      refine wpOp_val ho rfl (v := mapV W.heap.size) (w' := W.alloc (.map #[] 0)) ?_ ⟨_, rfl, ⟨_, rfl, IMap.made W, hG.size⟩, hG.pure (by omega) (by omega) (Chg.alloc _ _) hbl3, fun j u hj _ h => p11_stay (Chg.alloc _ _) (fun _ h => h.elim) j u hj h⟩
      simp [execOp, run_makeMap, mapV, go_sem]
    · obtain rfl := Option.some.inj ho
      obtain ⟨m, e, hm, hBm⟩ : pM w3.heap.size (a.tmps.getD 97 undef) W := hL 21 _ 97 rfl rfl (haft ⟨21, .data⟩ (by simp) rfl)
      refine wpOp_val ho rfl (v := .slice (some ⟨W.heap.size, 0, none⟩) 1 1) (w' := W.alloc (.cells #[mapV m] 69)) ?_ ⟨_, rfl, ⟨m, ⟨_, rfl, heap_alloc_new W _, hG.size⟩, imap_stay hm hBm (Chg.alloc _ _) (fun _ h => h.elim), hBm⟩, hG.pure (by omega) (by omega) (Chg.alloc _ _) hbl3, fun j u hj _ h => p11_stay (Chg.alloc _ _) (fun _ h => h.elim) j u hj h⟩
      rw [Array.getD_eq_getD_getElem?, mapV] at e
      simp [execOp, Act.eval, e, mapV, go_sem]
    · obtain rfl := Option.some.inj ho
      have e1 : a.tmps.getD 96 undef = TL.row 2 := hL 20 _ 96 rfl rfl (haft ⟨20, .data⟩ (by simp) rfl)
      obtain ⟨m, e2, hm, hBm⟩ : pMB w3.heap.size 69 (a.tmps.getD 98 undef) W := hL 22 _ 98 rfl rfl (haft ⟨22, .data⟩ (by simp) rfl)
      have hown := hG.rowAt HR3.out (j := 2) (A := 23) (by simp) (by omega) hnd
      refine wpOp_law ho rfl (app_arm rfl (.tmp 96) (.tmp 98) 64 rfl 8 Tryz.underlying64 infoMp rfl (by omega) e1 hown rfl e2 rfl (by omega) hG.size ?_)
      intro v W' hv hc _
      exact ⟨v, rfl, ⟨m, hv, imap_stay hm hBm hc (fun g hg => owns_lt (HR3.out.rows 2 (by omega)) hg), hBm⟩, hG.app (j := 2) (by simp) ⟨fun h => hnd (hcl 26 _ rfl h ⟨23, .phase⟩ (by simp) rfl), fun h => hnd (hcl 29 _ rfl h ⟨23, .phase⟩ (by simp) rfl), fun h => hnd (hcl 32 _ rfl h ⟨23, .phase⟩ (by simp) rfl)⟩ (by omega) hc (by rw [hls]; exact hi) hbl3 (HR3.out.ne_b _ (by omega)), fun j u hj _ h => p11_stay hc (fun g hg => ⟨owns_lt (HR3.out.rows 2 (by omega)) hg, fun _ h1 => absurd (HR3.out.ne _ _ g (by omega) (by omega) hg h1) (by omega), fun _ h1 => absurd (HR3.out.ne _ _ g (by omega) (by omega) hg h1) (by omega), fun h => (h rfl).elim⟩) j u hj h⟩
    · obtain rfl := Option.some.inj ho
      have e : a.tmps.getD 76 undef = .pointer (some ⟨TL.b, 0, none⟩) := hL 0 _ 76 rfl rfl (haft ⟨0, .data⟩ (by simp) rfl)
      refine wpOp_val ho rfl (v := .pointer (some ⟨TL.b, 0, none⟩)) (w' := W) ?_ ⟨_, rfl, rfl, hG.pure (by omega) (by omega) (Chg.refl _) hbl3, fun _ _ _ _ h => h⟩
      simp [execOp, Act.eval, e, go_sem]
    · obtain rfl := Option.some.inj ho
      have e : a.tmps.getD 100 undef = .pointer (some ⟨TL.b, 0, none⟩) := hL 24 _ 100 rfl rfl (haft ⟨24, .data⟩ (by simp) rfl)
      refine wpOp_val ho rfl (v := .pointer (some ⟨TL.b, 1, none⟩)) (w' := W) ?_ ⟨_, rfl, rfl, hG.pure (by omega) (by omega) (Chg.refl _) hbl3, fun _ _ _ _ h => h⟩
      simp [execOp, Act.eval, e, go_sem]
    · obtain rfl := Option.some.inj ho
      have e1 : a.tmps.getD 101 undef = .pointer (some ⟨TL.b, 1, none⟩) := hL 25 _ 101 rfl rfl (haft ⟨25, .data⟩ (by simp) rfl)
      have e2 : pA w3.heap.size _ (TL.row 0) E.txs.length _ _ (a.tmps.getD 85 undef) W := hL 9 _ 85 rfl rfl (haft ⟨9, .data⟩ (by simp) rfl)
      obtain ⟨vad, vcap, hv⟩ := row_form e2.1
      have hc := hG.cellAt (j := 0) (S := 26) (by simp) (by omega) hnd
      have hfz := hG.free 1
      refine wpOp_skip ho rfl (w' := W.setCell ⟨TL.b, 1, none⟩ (a.tmps.getD 85 undef)) ?_ ⟨undef, rfl, trivial, hG.store (j := 0) (by simp) (by omega) (by rw [hls]; exact hi) (by omega), fun j u hj _ h => p11_stay (Chg.store W TL.b 1 _) (fun g hg => ⟨by rw [hg]; exact hbl3, fun _ => by rw [hg]; exact HR3.out.ne_b _ (by omega), fun _ => by rw [hg]; exact HR3.out.ne_b _ (by omega), fun _ => by rw [hg]; exact HR3.out.ne_b _ (by omega)⟩) j u hj h⟩
      simp [execOp, Act.eval, e1, hv, hc, hfz, go_sem]
    · obtain rfl := Option.some.inj ho
      have e : a.tmps.getD 77 undef = .pointer (some ⟨TL.b, 0, none⟩) := hL 1 _ 77 rfl rfl (haft ⟨1, .data⟩ (by simp) rfl)
      refine wpOp_val ho rfl (v := .pointer (some ⟨TL.b, 0, none⟩)) (w' := W) ?_ ⟨_, rfl, rfl, hG.pure (by omega) (by omega) (Chg.refl _) hbl3, fun _ _ _ _ h => h⟩
      simp [execOp, Act.eval, e, go_sem]
    · obtain rfl := Option.some.inj ho
      have e : a.tmps.getD 102 undef = .pointer (some ⟨TL.b, 0, none⟩) := hL 27 _ 102 rfl rfl (haft ⟨27, .data⟩ (by simp) rfl)
      refine wpOp_val ho rfl (v := .pointer (some ⟨TL.b, 2, none⟩)) (w' := W) ?_ ⟨_, rfl, rfl, hG.pure (by omega) (by omega) (Chg.refl _) hbl3, fun _ _ _ _ h => h⟩
      simp [execOp, Act.eval, e, go_sem]
    · obtain rfl := Option.some.inj ho
      have e1 : a.tmps.getD 103 undef = .pointer (some ⟨TL.b, 2, none⟩) := hL 28 _ 103 rfl rfl (haft ⟨28, .data⟩ (by simp) rfl)
      have e2 : pA w3.heap.size _ (TL.row 1) E.txs.length _ _ (a.tmps.getD 92 undef) W := hL 16 _ 92 rfl rfl (haft ⟨16, .data⟩ (by simp) rfl)
      obtain ⟨vad, vcap, hv⟩ := row_form e2.1
      have hc := hG.cellAt (j := 1) (S := 29) (by simp) (by omega) hnd
      have hfz := hG.free 2
      refine wpOp_skip ho rfl (w' := W.setCell ⟨TL.b, 2, none⟩ (a.tmps.getD 92 undef)) ?_ ⟨undef, rfl, trivial, hG.store (j := 1) (by simp) (by omega) (by rw [hls]; exact hi) (by omega), fun j u hj _ h => p11_stay (Chg.store W TL.b 2 _) (fun g hg => ⟨by rw [hg]; exact hbl3, fun _ => by rw [hg]; exact HR3.out.ne_b _ (by omega), fun _ => by rw [hg]; exact HR3.out.ne_b _ (by omega), fun _ => by rw [hg]; exact HR3.out.ne_b _ (by omega)⟩) j u hj h⟩
      simp [execOp, Act.eval, e1, hv, hc, hfz, go_sem]
    · obtain rfl := Option.some.inj ho
      have e : a.tmps.getD 78 undef = .pointer (some ⟨TL.b, 0, none⟩) := hL 2 _ 78 rfl rfl (haft ⟨2, .data⟩ (by simp) rfl)
      refine wpOp_val ho rfl (v := .pointer (some ⟨TL.b, 0, none⟩)) (w' := W) ?_ ⟨_, rfl, rfl, hG.pure (by omega) (by omega) (Chg.refl _) hbl3, fun _ _ _ _ h => h⟩
      simp [execOp, Act.eval, e, go_sem]
    · obtain rfl := Option.some.inj ho
      have e : a.tmps.getD 104 undef = .pointer (some ⟨TL.b, 0, none⟩) := hL 30 _ 104 rfl rfl (haft ⟨30, .data⟩ (by simp) rfl)
      refine wpOp_val ho rfl (v := .pointer (some ⟨TL.b, 3, none⟩)) (w' := W) ?_ ⟨_, rfl, rfl, hG.pure (by omega) (by omega) (Chg.refl _) hbl3, fun _ _ _ _ h => h⟩
      simp [execOp, Act.eval, e, go_sem]
    · obtain rfl := Option.some.inj ho
      have e1 : a.tmps.getD 105 undef = .pointer (some ⟨TL.b, 3, none⟩) := hL 31 _ 105 rfl rfl (haft ⟨31, .data⟩ (by simp) rfl)
      obtain ⟨m, e2, _⟩ : pMA w3.heap.size _ (TL.row 2) E.txs.length _ (a.tmps.getD 99 undef) W := hL 23 _ 99 rfl rfl (haft ⟨23, .data⟩ (by simp) rfl)
      obtain ⟨vad, vcap, hv⟩ := row_form e2.1
      have hc := hG.cellAt (j := 2) (S := 32) (by simp) (by omega) hnd
      have hfz := hG.free 3
      refine wpOp_skip ho rfl (w' := W.setCell ⟨TL.b, 3, none⟩ (a.tmps.getD 99 undef)) ?_ ⟨undef, rfl, trivial, hG.store (j := 2) (by simp) (by omega) (by rw [hls]; exact hi) (by omega), fun j u hj _ h => p11_stay (Chg.store W TL.b 3 _) (fun g hg => ⟨by rw [hg]; exact hbl3, fun _ => by rw [hg]; exact HR3.out.ne_b _ (by omega), fun _ => by rw [hg]; exact HR3.out.ne_b _ (by omega), fun _ => by rw [hg]; exact HR3.out.ne_b _ (by omega)⟩) j u hj h⟩
      simp [execOp, Act.eval, e1, hv, hc, hfz, go_sem]
  case fin =>
    intro listed a W hdn hG hL hF hsz4 hdf
    have d : ∀ i, i < 33 → DoneAt listed i := hdn
    have q0 : pA w3.heap.size 3 (TL.row 0) E.txs.length (intsV t.level) (.int .i64 level) (a.tmps.getD 85 undef) W := hL 9 _ 85 rfl rfl (d 9 (by omega))
    have q1 : pA w3.heap.size 23 (TL.row 1) E.txs.length TL.sn (.slice ava nav avc) (a.tmps.getD 92 undef) W := hL 16 _ 92 rfl rfl (d 16 (by omega))
    obtain ⟨m, q2, hm, hBm⟩ : pMA w3.heap.size 69 (TL.row 2) E.txs.length (TL.om.map mapV) (a.tmps.getD 99 undef) W := hL 23 _ 99 rfl rfl (d 23 (by omega))
    obtain ⟨hr4, hc4⟩ := hG.done HR3.out (.inl rfl) ⟨d 26 (by omega), d 29 (by omega), d 32 (by omega)⟩ (fun j => if j = 0 then a.tmps.getD 85 undef else if j = 1 then a.tmps.getD 92 undef else a.tmps.getD 99 undef) (newX level (t.steps + 1) (.slice ava nav avc) m) rfl rfl rfl
      (fun j _ hj => by
        obtain rfl | rfl | rfl : j = 0 ∨ j = 1 ∨ j = 2 := by omega
        · exact q0
        · exact q1
        · exact q2)
      (fun i j g hi hj h1 h2 => by
        obtain rfl | rfl | rfl : i = 0 ∨ i = 1 ∨ i = 2 := by omega
        all_goals obtain rfl | rfl | rfl : j = 0 ∨ j = 1 ∨ j = 2 := by omega
        · rfl
        · exact absurd (q0.typ q1 h1 h2) (by decide)
        · exact absurd (q0.typ q2 h1 h2) (by decide)
        · exact absurd (q1.typ q0 h1 h2) (by decide)
        · rfl
        · exact absurd (q1.typ q2 h1 h2) (by decide)
        · exact absurd (q2.typ q0 h1 h2) (by decide)
        · exact absurd (q2.typ q1 h1 h2) (by decide)
        · rfl)
    have HR4 := hid hr4
    have HC4 := hid hc4
    have HQ0 := hid q0.2
    have HQ1 := hid q1.2
    have HQ2 := hid q2.2
    have HM := hid hm
    have f0 : a.tmps.getD 0 undef = .pointer (some ⟨TL.b, 0, none⟩) := hF (0, .pointer (some ⟨TL.b, 0, none⟩)) (by simp)
    have hsz5 : a.tmps.size = 394 := hsz4
    obtain ⟨v0, hv0⟩ : ∃ v, a.tmps.getD 85 undef = v := ⟨_, rfl⟩
    obtain ⟨v1, hv1⟩ : ∃ v, a.tmps.getD 92 undef = v := ⟨_, rfl⟩
    obtain ⟨v2, hv2⟩ : ∃ v, a.tmps.getD 99 undef = v := ⟨_, rfl⟩
    rw [hv0, hv1, hv2] at HR4
    rw [hv0] at HQ0
    rw [hv1] at HQ1
    rw [hv2] at HQ2
    obtain ⟨TL1, hTL1⟩ : ∃ x : TalL, ({ TL with row := fun j => if 0 ≤ j ∧ j ≤ 0 + 2 then (if j = 0 then v0 else if j = 1 then v1 else v2) else TL.row j } : TalL) = x := ⟨_, rfl⟩
    rw [hTL1] at HR4
    have hb1 : TL1.b = TL.b := by rw [← hTL1]
    have HTL1 := hid hTL1
    rw [← hb1] at f0
    obtain ⟨W4, hW4⟩ : ∃ W4, W4 = W := ⟨_, rfl⟩
    rw [← hW4] at HR4 HC4 HM ⊢
    have HR4b := hid HR4.out.rows
    have hbl4 : TL1.b < W4.heap.size := by rw [hb1]; exact Nat.lt_of_lt_of_le hbl3 HC4.out.size
    clear hr4 hc4 hG hL hF hdn d q0 q1 q2 hm hsz4 hv0 hv1 hv2 hW4 W hTL1
    go_wp2
    refine region_plan (by rfl) (p12 TL1 TL.rd E.txs.length W4.heap.size t.begun t.over (t.steps + 1))
      (fun listed a w => Stage W4 L.s TL1 (stepT t).steps (stepT t).n (stepT t).broken 3 8 18 24 27 30 33 114 124 130 listed a w ∧ TwoNe listed a)
      [(0, .pointer (some ⟨TL1.b, 0, none⟩))] 394 (by rfl) (by rfl) ⟨Stage.start HR4.out _ _ _ _ _ _ _ _ _ _ _ _, fun h => (not_done_replicate _ _ h).elim⟩ ?fix2 hsz5 [] hdf ?step2 ?fin2
    case fix2 =>
      intro q hq
      rw [List.mem_singleton.1 hq]
      exact f0
    case step2 =>
      clear f0 hsz5 hdf
      intro i o listed a W hi ho hls hcl haft hnd hG hL hF hsz4
      have hi' : i < 34 := hi
      have f0 : a.tmps.getD 0 undef = .pointer (some ⟨TL1.b, 0, none⟩) := hF (0, .pointer (some ⟨TL1.b, 0, none⟩)) (by simp)
      obtain rfl | rfl | rfl | rfl | rfl | rfl | rfl | rfl | rfl | rfl | rfl | rfl | rfl | rfl | rfl | rfl | rfl | rfl | rfl | rfl | rfl | rfl | rfl | rfl | rfl | rfl | rfl | rfl | rfl | rfl | rfl | rfl | rfl | rfl : i = 0 ∨ i = 1 ∨ i = 2 ∨ i = 3 ∨ i = 4 ∨ i = 5 ∨ i = 6 ∨ i = 7 ∨ i = 8 ∨ i = 9 ∨ i = 10 ∨ i = 11 ∨ i = 12 ∨ i = 13 ∨ i = 14 ∨ i = 15 ∨ i = 16 ∨ i = 17 ∨ i = 18 ∨ i = 19 ∨ i = 20 ∨ i = 21 ∨ i = 22 ∨ i = 23 ∨ i = 24 ∨ i = 25 ∨ i = 26 ∨ i = 27 ∨ i = 28 ∨ i = 29 ∨ i = 30 ∨ i = 31 ∨ i = 32 ∨ i = 33 := by omega
      · obtain rfl := Option.some.inj ho
        exact wpOp_val ho rfl (v := a.tmps.getD 0 undef) (w' := W) rfl ⟨_, rfl, f0, ⟨hG.1.pure (by omega) (by omega) (Chg.refl _) hbl4, gkeep hG.2 (by omega) (by omega)⟩, fun _ _ _ _ h => h⟩
      · obtain rfl := Option.some.inj ho
        exact wpOp_val ho rfl (v := a.tmps.getD 0 undef) (w' := W) rfl ⟨_, rfl, f0, ⟨hG.1.pure (by omega) (by omega) (Chg.refl _) hbl4, gkeep hG.2 (by omega) (by omega)⟩, fun _ _ _ _ h => h⟩
      · obtain rfl := Option.some.inj ho
        exact wpOp_val ho rfl (v := a.tmps.getD 0 undef) (w' := W) rfl ⟨_, rfl, f0, ⟨hG.1.pure (by omega) (by omega) (Chg.refl _) hbl4, gkeep hG.2 (by omega) (by omega)⟩, fun _ _ _ _ h => h⟩
      · obtain rfl := Option.some.inj ho
        exact wpOp_val ho rfl (v := a.tmps.getD 0 undef) (w' := W) rfl ⟨_, rfl, f0, ⟨hG.1.pure (by omega) (by omega) (Chg.refl _) hbl4, gkeep hG.2 (by omega) (by omega)⟩, fun _ _ _ _ h => h⟩
      · obtain rfl := Option.some.inj ho
        have e : a.tmps.getD 109 undef = .pointer (some ⟨TL1.b, 0, none⟩) := hL 3 _ 109 rfl rfl (haft ⟨3, .data⟩ (by simp) rfl)
        refine wpOp_val ho rfl (v := .pointer (some ⟨TL1.b, 0, none⟩)) (w' := W) ?_ ⟨_, rfl, rfl, ⟨hG.1.pure (by omega) (by omega) (Chg.refl _) hbl4, gkeep hG.2 (by omega) (by omega)⟩, fun _ _ _ _ h => h⟩
        simp [execOp, Act.eval, e, go_sem]
      · obtain rfl := Option.some.inj ho
        have e : a.tmps.getD 110 undef = .pointer (some ⟨TL1.b, 0, none⟩) := hL 4 _ 110 rfl rfl (haft ⟨4, .data⟩ (by simp) rfl)
        refine wpOp_val ho rfl (v := .pointer (some ⟨TL1.b, 4, none⟩)) (w' := W) ?_ ⟨_, rfl, rfl, ⟨hG.1.pure (by omega) (by omega) (Chg.refl _) hbl4, gkeep hG.2 (by omega) (by omega)⟩, fun _ _ _ _ h => h⟩
        simp [execOp, Act.eval, e, go_sem]
      · obtain rfl := Option.some.inj ho
        have e : a.tmps.getD 111 undef = .pointer (some ⟨TL1.b, 4, none⟩) := hL 5 _ 111 rfl rfl (haft ⟨5, .data⟩ (by simp) rfl)
        have hc := hG.1.cellAt (j := 3) (S := 27) (by simp) (by omega) (fun h => hnd (hcl 27 _ rfl h ⟨6, .phase⟩ (by simp) rfl))
        refine wpOp_val ho rfl (v := TL1.row 3) (w' := W) ?_ ⟨_, rfl, rfl, ⟨hG.1.pure (by omega) (by omega) (Chg.refl _) hbl4, gkeep hG.2 (by omega) (by omega)⟩, fun _ _ _ _ h => h⟩
        simp [execOp, Act.eval, e, hc, go_sem]
      · obtain rfl := Option.some.inj ho
        refine wpOp_val ho rfl (v := .slice (some ⟨W.heap.size, 0, none⟩) 1 1) (w' := W.alloc (.cells #[.slice none 0 0] 73)) ?_ ⟨_, rfl, ⟨_, rfl, heap_alloc_new W _, hG.1.size⟩, ⟨hG.1.pure (by omega) (by omega) (Chg.alloc _ _) hbl4, gkeep hG.2 (by omega) (by omega)⟩, fun j u hj _ h => p12_stay (Chg.alloc _ _) (fun _ h => h.elim) j u hj h⟩
        simp [execOp, Act.eval, go_sem]
      · obtain rfl := Option.some.inj ho
        have e1 : a.tmps.getD 112 undef = TL1.row 3 := hL 6 _ 112 rfl rfl (haft ⟨6, .data⟩ (by simp) rfl)
        have e2 := hL 7 _ 113 rfl rfl (haft ⟨7, .data⟩ (by simp) rfl)
        have hown : W.ownsRow 0 _ 1 (TL1.row 3) E.txs.length TL.rd := hG.1.rowAt HR4.out (j := 3) (A := 8) (by simp) (by omega) hnd
        refine wpOp_law ho rfl (app_arm rfl (.tmp 112) (.tmp 113) 65 rfl 24 Tryz.underlying65 infoSs rfl (by omega) e1 hown rfl e2 rfl (by omega) hG.1.size ?_)
        intro v W' hv hc _
        exact ⟨v, rfl, hv, ⟨hG.1.app (j := 3) (by simp) ⟨fun h => hnd (hcl 27 _ rfl h ⟨8, .phase⟩ (by simp) rfl), fun h => hnd (hcl 30 _ rfl h ⟨8, .phase⟩ (by simp) rfl), fun h => hnd (hcl 33 _ rfl h ⟨8, .phase⟩ (by simp) rfl)⟩ (by omega) hc (by rw [hls]; exact hi) hbl4 (HR4.out.ne_b _ (by omega)), gkeep hG.2 (by omega) (by omega)⟩, fun j u hj _ h => p12_stay hc (fun g hg => ⟨owns_lt (HR4.out.rows 3 (by omega)) hg, fun h => (h rfl).elim, fun _ h1 => absurd (HR4.out.ne _ _ g (by omega) (by omega) hg h1) (by omega), fun _ h1 => absurd (HR4.out.ne _ _ g (by omega) (by omega) hg h1) (by omega)⟩) j u hj h⟩
      · obtain rfl := Option.some.inj ho
        exact wpOp_val ho rfl (v := a.tmps.getD 0 undef) (w' := W) rfl ⟨_, rfl, f0, ⟨hG.1.pure (by omega) (by omega) (Chg.refl _) hbl4, gkeep hG.2 (by omega) (by omega)⟩, fun _ _ _ _ h => h⟩
      · obtain rfl := Option.some.inj ho
        have e : a.tmps.getD 115 undef = .pointer (some ⟨TL1.b, 0, none⟩) := hL 9 _ 115 rfl rfl (haft ⟨9, .data⟩ (by simp) rfl)
        refine wpOp_val ho rfl (v := .pointer (some ⟨TL1.b, 0, none⟩)) (w' := W) ?_ ⟨_, rfl, rfl, ⟨hG.1.pure (by omega) (by omega) (Chg.refl _) hbl4, gkeep hG.2 (by omega) (by omega)⟩, fun _ _ _ _ h => h⟩
        simp [execOp, Act.eval, e, go_sem]
      · obtain rfl := Option.some.inj ho
        have e : a.tmps.getD 116 undef = .pointer (some ⟨TL1.b, 0, none⟩) := hL 10 _ 116 rfl rfl (haft ⟨10, .data⟩ (by simp) rfl)
        refine wpOp_val ho rfl (v := .pointer (some ⟨TL1.b, 5, none⟩)) (w' := W) ?_ ⟨_, rfl, rfl, ⟨hG.1.pure (by omega) (by omega) (Chg.refl _) hbl4, gkeep hG.2 (by omega) (by omega)⟩, fun _ _ _ _ h => h⟩
        simp [execOp, Act.eval, e, go_sem]
      · obtain rfl := Option.some.inj ho
        have e : a.tmps.getD 117 undef = .pointer (some ⟨TL1.b, 5, none⟩) := hL 11 _ 117 rfl rfl (haft ⟨11, .data⟩ (by simp) rfl)
        have hc := hG.1.cellAt (j := 4) (S := 30) (by simp) (by omega) (fun h => hnd (hcl 30 _ rfl h ⟨12, .phase⟩ (by simp) rfl))
        refine wpOp_val ho rfl (v := TL1.row 4) (w' := W) ?_ ⟨_, rfl, rfl, ⟨hG.1.pure (by omega) (by omega) (Chg.refl _) hbl4, gkeep hG.2 (by omega) (by omega)⟩, fun _ _ _ _ h => h⟩
        simp [execOp, Act.eval, e, hc, go_sem]
      · obtain rfl := Option.some.inj ho
        exact wpOp_val ho rfl (v := a.tmps.getD 0 undef) (w' := W) rfl ⟨_, rfl, f0, ⟨hG.1.pure (by omega) (by omega) (Chg.refl _) hbl4, gkeep hG.2 (by omega) (by omega)⟩, fun _ _ _ _ h => h⟩
      · obtain rfl := Option.some.inj ho
        have e : a.tmps.getD 119 undef = .pointer (some ⟨TL1.b, 0, none⟩) := hL 13 _ 119 rfl rfl (haft ⟨13, .data⟩ (by simp) rfl)
        refine wpOp_val ho rfl (v := .pointer (some ⟨TL1.b, 0, none⟩)) (w' := W) ?_ ⟨_, rfl, rfl, ⟨hG.1.pure (by omega) (by omega) (Chg.refl _) hbl4, gkeep hG.2 (by omega) (by omega)⟩, fun _ _ _ _ h => h⟩
        simp [execOp, Act.eval, e, go_sem]
      · obtain rfl := Option.some.inj ho
        have e : a.tmps.getD 120 undef = .pointer (some ⟨TL1.b, 0, none⟩) := hL 14 _ 120 rfl rfl (haft ⟨14, .data⟩ (by simp) rfl)
        refine wpOp_val ho rfl (v := .pointer (some ⟨TL1.b, 7, none⟩)) (w' := W) ?_ ⟨_, rfl, rfl, ⟨hG.1.pure (by omega) (by omega) (Chg.refl _) hbl4, gkeep hG.2 (by omega) (by omega)⟩, fun _ _ _ _ h => h⟩
        simp [execOp, Act.eval, e, go_sem]
      · obtain rfl := Option.some.inj ho
        have e : a.tmps.getD 121 undef = .pointer (some ⟨TL1.b, 7, none⟩) := hL 15 _ 121 rfl rfl (haft ⟨15, .data⟩ (by simp) rfl)
        have hc := hG.1.cellN
        refine wpOp_val ho rfl (v := .int .i64 (t.steps + 1)) (w' := W) ?_ ⟨_, rfl, rfl, ⟨hG.1.pure (by omega) (by omega) (Chg.refl _) hbl4, gkeep hG.2 (by omega) (by omega)⟩, fun _ _ _ _ h => h⟩
        simp [execOp, Act.eval, e, hc, stepT, go_sem]
      · obtain rfl := Option.some.inj ho
        have e : a.tmps.getD 122 undef = .int .i64 (t.steps + 1) := hL 16 _ 122 rfl rfl (haft ⟨16, .data⟩ (by simp) rfl)
        refine wpOp_val ho rfl (v := .slice (some ⟨W.heap.size, 0, none⟩) 1 1) (w' := W.alloc (.cells #[.int .i64 (t.steps + 1)] 3)) ?_ ⟨_, rfl, ⟨_, rfl, heap_alloc_new W _, hG.1.size⟩, ⟨hG.1.pure (by omega) (by omega) (Chg.alloc _ _) hbl4, gkeep hG.2 (by omega) (by omega)⟩, fun j u hj _ h => p12_stay (Chg.alloc _ _) (fun _ h => h.elim) j u hj h⟩
        rw [Array.getD_eq_getD_getElem?] at e
        simp [execOp, Act.eval, e, go_sem]
      · obtain rfl := Option.some.inj ho
        have e1 : a.tmps.getD 118 undef = TL1.row 4 := hL 12 _ 118 rfl rfl (haft ⟨12, .data⟩ (by simp) rfl)
        have e2 := hL 17 _ 123 rfl rfl (haft ⟨17, .data⟩ (by simp) rfl)
        have hown : W.ownsRow 0 _ 1 (TL1.row 4) E.txs.length (intsV t.begun) := hG.1.rowAt HR4.out (j := 4) (A := 18) (by simp) (by omega) hnd
        refine wpOp_law ho rfl (app_arm rfl (.tmp 118) (.tmp 123) 29 rfl 8 Tryz.underlying29 infoI rfl (by omega) e1 hown rfl e2 rfl (by omega) hG.1.size ?_)
        intro v W' hv hc _
        exact ⟨v, rfl, hv, ⟨hG.1.app (j := 4) (by simp) ⟨fun h => hnd (hcl 27 _ rfl h ⟨18, .phase⟩ (by simp) rfl), fun h => hnd (hcl 30 _ rfl h ⟨18, .phase⟩ (by simp) rfl), fun h => hnd (hcl 33 _ rfl h ⟨18, .phase⟩ (by simp) rfl)⟩ (by omega) hc (by rw [hls]; exact hi) hbl4 (HR4.out.ne_b _ (by omega)), fun h1 h2 => absurd (done_set h2) (by rintro (h3 | h3); exact absurd h3 (by omega); exact hnd (hcl 24 _ rfl h3 ⟨18, .chain⟩ (by simp) rfl))⟩, fun j u hj _ h => p12_stay hc (fun g hg => ⟨owns_lt (HR4.out.rows 4 (by omega)) hg, fun _ h1 => absurd (HR4.out.ne _ _ g (by omega) (by omega) hg h1) (by omega), fun h => (h rfl).elim, fun _ h1 => absurd (HR4.out.ne _ _ g (by omega) (by omega) hg h1) (by omega)⟩) j u hj h⟩
      · obtain rfl := Option.some.inj ho
        exact wpOp_val ho rfl (v := a.tmps.getD 0 undef) (w' := W) rfl ⟨_, rfl, f0, ⟨hG.1.pure (by omega) (by omega) (Chg.refl _) hbl4, gkeep hG.2 (by omega) (by omega)⟩, fun _ _ _ _ h => h⟩
      · obtain rfl := Option.some.inj ho
        have e : a.tmps.getD 125 undef = .pointer (some ⟨TL1.b, 0, none⟩) := hL 19 _ 125 rfl rfl (haft ⟨19, .data⟩ (by simp) rfl)
        refine wpOp_val ho rfl (v := .pointer (some ⟨TL1.b, 0, none⟩)) (w' := W) ?_ ⟨_, rfl, rfl, ⟨hG.1.pure (by omega) (by omega) (Chg.refl _) hbl4, gkeep hG.2 (by omega) (by omega)⟩, fun _ _ _ _ h => h⟩
        simp [execOp, Act.eval, e, go_sem]
      · obtain rfl := Option.some.inj ho
        have e : a.tmps.getD 126 undef = .pointer (some ⟨TL1.b, 0, none⟩) := hL 20 _ 126 rfl rfl (haft ⟨20, .data⟩ (by simp) rfl)
        refine wpOp_val ho rfl (v := .pointer (some ⟨TL1.b, 6, none⟩)) (w' := W) ?_ ⟨_, rfl, rfl, ⟨hG.1.pure (by omega) (by omega) (Chg.refl _) hbl4, gkeep hG.2 (by omega) (by omega)⟩, fun _ _ _ _ h => h⟩
        simp [execOp, Act.eval, e, go_sem]
      · obtain rfl := Option.some.inj ho
        have e : a.tmps.getD 127 undef = .pointer (some ⟨TL1.b, 6, none⟩) := hL 21 _ 127 rfl rfl (haft ⟨21, .data⟩ (by simp) rfl)
        have hc := hG.1.cellAt (j := 5) (S := 33) (by simp) (by omega) (fun h => hnd (hcl 33 _ rfl h ⟨22, .phase⟩ (by simp) rfl))
        refine wpOp_val ho rfl (v := TL1.row 5) (w' := W) ?_ ⟨_, rfl, rfl, ⟨hG.1.pure (by omega) (by omega) (Chg.refl _) hbl4, gkeep hG.2 (by omega) (by omega)⟩, fun _ _ _ _ h => h⟩
        simp [execOp, Act.eval, e, hc, go_sem]
      · obtain rfl := Option.some.inj ho
        refine wpOp_val ho rfl (v := .slice (some ⟨W.heap.size, 0, none⟩) 1 1) (w' := W.alloc (.cells #[.int .i64 0] 3)) ?_ ⟨_, rfl, ⟨_, rfl, heap_alloc_new W _, hG.1.size⟩, ⟨hG.1.pure (by omega) (by omega) (Chg.alloc _ _) hbl4, gkeep hG.2 (by omega) (by omega)⟩, fun j u hj _ h => p12_stay (Chg.alloc _ _) (fun _ h => h.elim) j u hj h⟩
        simp [execOp, Act.eval, go_sem]
      · obtain rfl := Option.some.inj ho
        have e1 : a.tmps.getD 128 undef = TL1.row 5 := hL 22 _ 128 rfl rfl (haft ⟨22, .data⟩ (by simp) rfl)
        have e2 := hL 23 _ 129 rfl rfl (haft ⟨23, .data⟩ (by simp) rfl)
        have hown : W.ownsRow 0 _ 1 (TL1.row 5) E.txs.length (intsV t.over) := hG.1.rowAt HR4.out (j := 5) (A := 24) (by simp) (by omega) hnd
        refine wpOp_law ho rfl (app_arm rfl (.tmp 128) (.tmp 129) 29 rfl 8 Tryz.underlying29 infoI rfl (by omega) e1 hown rfl e2 rfl (by omega) hG.1.size ?_)
        intro v W' hv hc hnew
        have e4 : pA W4.heap.size _ (TL1.row 4) E.txs.length _ _ (a.tmps.getD 124 undef) W := hL 18 _ 124 rfl rfl (haft ⟨18, .chain⟩ (by simp) rfl)
        have gnew : ∀ g, ((a.put (some 130) v).tmps.getD 124 undef).ownBlock = some g → ((a.put (some 130) v).tmps.getD 130 undef).ownBlock = some g → False := fun g hg1 hg2 => by
          rw [getD_put_ne (d := 124) (e := 130) (by decide)] at hg1
          rw [getD_put_same (d := 130) (by rw [hsz4]; decide)] at hg2
          have hlt := owns_lt e4.1 hg1
          rcases hnew g hg2 with h5 | h5
          · rcases e4.2 g hg1 with h6 | h6
            · exact absurd (HR4.out.ne _ _ g (by omega) (by omega) h6 h5) (by omega)
            · have := owns_lt (HR4.out.rows 5 (by omega)) h5
              omega
          · omega
        exact ⟨v, rfl, hv, ⟨hG.1.app (j := 5) (by simp) ⟨fun h => hnd (hcl 27 _ rfl h ⟨24, .phase⟩ (by simp) rfl), fun h => hnd (hcl 30 _ rfl h ⟨24, .phase⟩ (by simp) rfl), fun h => hnd (hcl 33 _ rfl h ⟨24, .phase⟩ (by simp) rfl)⟩ (by omega) hc (by rw [hls]; exact hi) hbl4 (HR4.out.ne_b _ (by omega)), fun _ _ g hg1 hg2 => gnew g hg1 hg2⟩, fun j u hj _ h => p12_stay hc (fun g hg => ⟨owns_lt (HR4.out.rows 5 (by omega)) hg, fun _ h1 => absurd (HR4.out.ne _ _ g (by omega) (by omega) hg h1) (by omega), fun _ h1 => absurd (HR4.out.ne _ _ g (by omega) (by omega) hg h1) (by omega), fun h => (h rfl).elim⟩) j u hj h⟩
      · obtain rfl := Option.some.inj ho
        have e : a.tmps.getD 106 undef = .pointer (some ⟨TL1.b, 0, none⟩) := hL 0 _ 106 rfl rfl (haft ⟨0, .data⟩ (by simp) rfl)
        refine wpOp_val ho rfl (v := .pointer (some ⟨TL1.b, 0, none⟩)) (w' := W) ?_ ⟨_, rfl, rfl, ⟨hG.1.pure (by omega) (by omega) (Chg.refl _) hbl4, gkeep hG.2 (by omega) (by omega)⟩, fun _ _ _ _ h => h⟩
        simp [execOp, Act.eval, e, go_sem]
      · obtain rfl := Option.some.inj ho
        have e : a.tmps.getD 131 undef = .pointer (some ⟨TL1.b, 0, none⟩) := hL 25 _ 131 rfl rfl (haft ⟨25, .data⟩ (by simp) rfl)
        refine wpOp_val ho rfl (v := .pointer (some ⟨TL1.b, 4, none⟩)) (w' := W) ?_ ⟨_, rfl, rfl, ⟨hG.1.pure (by omega) (by omega) (Chg.refl _) hbl4, gkeep hG.2 (by omega) (by omega)⟩, fun _ _ _ _ h => h⟩
        simp [execOp, Act.eval, e, go_sem]
      · obtain rfl := Option.some.inj ho
        have e1 : a.tmps.getD 132 undef = .pointer (some ⟨TL1.b, 4, none⟩) := hL 26 _ 132 rfl rfl (haft ⟨26, .data⟩ (by simp) rfl)
        have e2 : pA W4.heap.size _ (TL1.row 3) E.txs.length _ _ (a.tmps.getD 114 undef) W := hL 8 _ 114 rfl rfl (haft ⟨8, .data⟩ (by simp) rfl)
        obtain ⟨vad, vcap, hv⟩ := row_form e2.1
        have hc := hG.1.cellAt (j := 3) (S := 27) (by simp) (by omega) hnd
        have hfz := hG.1.free 4
        refine wpOp_skip ho rfl (w' := W.setCell ⟨TL1.b, 4, none⟩ (a.tmps.getD 114 undef)) ?_ ⟨undef, rfl, trivial, ⟨hG.1.store (j := 3) (by simp) (by omega) (by rw [hls]; exact hi) (by omega), gkeepN hG.2 (by omega)⟩, fun j u hj _ h => p12_stay (Chg.store W TL1.b 4 _) (fun g hg => ⟨by rw [hg]; exact hbl4, fun _ => by rw [hg]; exact HR4.out.ne_b _ (by omega), fun _ => by rw [hg]; exact HR4.out.ne_b _ (by omega), fun _ => by rw [hg]; exact HR4.out.ne_b _ (by omega)⟩) j u hj h⟩
        simp [execOp, Act.eval, e1, hv, hc, hfz, go_sem]
      · obtain rfl := Option.some.inj ho
        have e : a.tmps.getD 107 undef = .pointer (some ⟨TL1.b, 0, none⟩) := hL 1 _ 107 rfl rfl (haft ⟨1, .data⟩ (by simp) rfl)
        refine wpOp_val ho rfl (v := .pointer (some ⟨TL1.b, 0, none⟩)) (w' := W) ?_ ⟨_, rfl, rfl, ⟨hG.1.pure (by omega) (by omega) (Chg.refl _) hbl4, gkeep hG.2 (by omega) (by omega)⟩, fun _ _ _ _ h => h⟩
        simp [execOp, Act.eval, e, go_sem]
      · obtain rfl := Option.some.inj ho
        have e : a.tmps.getD 133 undef = .pointer (some ⟨TL1.b, 0, none⟩) := hL 28 _ 133 rfl rfl (haft ⟨28, .data⟩ (by simp) rfl)
        refine wpOp_val ho rfl (v := .pointer (some ⟨TL1.b, 5, none⟩)) (w' := W) ?_ ⟨_, rfl, rfl, ⟨hG.1.pure (by omega) (by omega) (Chg.refl _) hbl4, gkeep hG.2 (by omega) (by omega)⟩, fun _ _ _ _ h => h⟩
        simp [execOp, Act.eval, e, go_sem]
      · obtain rfl := Option.some.inj ho
        have e1 : a.tmps.getD 134 undef = .pointer (some ⟨TL1.b, 5, none⟩) := hL 29 _ 134 rfl rfl (haft ⟨29, .data⟩ (by simp) rfl)
        have e2 : pA W4.heap.size _ (TL1.row 4) E.txs.length _ _ (a.tmps.getD 124 undef) W := hL 18 _ 124 rfl rfl (haft ⟨18, .data⟩ (by simp) rfl)
        obtain ⟨vad, vcap, hv⟩ := row_form e2.1
        have hc := hG.1.cellAt (j := 4) (S := 30) (by simp) (by omega) hnd
        have hfz := hG.1.free 5
        refine wpOp_skip ho rfl (w' := W.setCell ⟨TL1.b, 5, none⟩ (a.tmps.getD 124 undef)) ?_ ⟨undef, rfl, trivial, ⟨hG.1.store (j := 4) (by simp) (by omega) (by rw [hls]; exact hi) (by omega), gkeepN hG.2 (by omega)⟩, fun j u hj _ h => p12_stay (Chg.store W TL1.b 5 _) (fun g hg => ⟨by rw [hg]; exact hbl4, fun _ => by rw [hg]; exact HR4.out.ne_b _ (by omega), fun _ => by rw [hg]; exact HR4.out.ne_b _ (by omega), fun _ => by rw [hg]; exact HR4.out.ne_b _ (by omega)⟩) j u hj h⟩
        simp [execOp, Act.eval, e1, hv, hc, hfz, go_sem]
      · obtain rfl := Option.some.inj ho
        have e : a.tmps.getD 108 undef = .pointer (some ⟨TL1.b, 0, none⟩) := hL 2 _ 108 rfl rfl (haft ⟨2, .data⟩ (by simp) rfl)
        refine wpOp_val ho rfl (v := .pointer (some ⟨TL1.b, 0, none⟩)) (w' := W) ?_ ⟨_, rfl, rfl, ⟨hG.1.pure (by omega) (by omega) (Chg.refl _) hbl4, gkeep hG.2 (by omega) (by omega)⟩, fun _ _ _ _ h => h⟩
        simp [execOp, Act.eval, e, go_sem]
      · obtain rfl := Option.some.inj ho
        have e : a.tmps.getD 135 undef = .pointer (some ⟨TL1.b, 0, none⟩) := hL 31 _ 135 rfl rfl (haft ⟨31, .data⟩ (by simp) rfl)
        refine wpOp_val ho rfl (v := .pointer (some ⟨TL1.b, 6, none⟩)) (w' := W) ?_ ⟨_, rfl, rfl, ⟨hG.1.pure (by omega) (by omega) (Chg.refl _) hbl4, gkeep hG.2 (by omega) (by omega)⟩, fun _ _ _ _ h => h⟩
        simp [execOp, Act.eval, e, go_sem]
      · obtain rfl := Option.some.inj ho
        have e1 : a.tmps.getD 136 undef = .pointer (some ⟨TL1.b, 6, none⟩) := hL 32 _ 136 rfl rfl (haft ⟨32, .data⟩ (by simp) rfl)
        have e2 : pA W4.heap.size _ (TL1.row 5) E.txs.length _ _ (a.tmps.getD 130 undef) W := hL 24 _ 130 rfl rfl (haft ⟨24, .data⟩ (by simp) rfl)
        obtain ⟨vad, vcap, hv⟩ := row_form e2.1
        have hc := hG.1.cellAt (j := 5) (S := 33) (by simp) (by omega) hnd
        have hfz := hG.1.free 6
        refine wpOp_skip ho rfl (w' := W.setCell ⟨TL1.b, 6, none⟩ (a.tmps.getD 130 undef)) ?_ ⟨undef, rfl, trivial, ⟨hG.1.store (j := 5) (by simp) (by omega) (by rw [hls]; exact hi) (by omega), gkeepN hG.2 (by omega)⟩, fun j u hj _ h => p12_stay (Chg.store W TL1.b 6 _) (fun g hg => ⟨by rw [hg]; exact hbl4, fun _ => by rw [hg]; exact HR4.out.ne_b _ (by omega), fun _ => by rw [hg]; exact HR4.out.ne_b _ (by omega), fun _ => by rw [hg]; exact HR4.out.ne_b _ (by omega)⟩) j u hj h⟩
        simp [execOp, Act.eval, e1, hv, hc, hfz, go_sem]
    case fin2 =>
      clear f0 hsz5 hdf
      intro listed a W hdn hG hL hF hsz4 hdf
      have d : ∀ i, i < 34 → DoneAt listed i := hdn
      have q3 : pA W4.heap.size 73 (TL1.row 3) E.txs.length TL.rd (.slice none 0 0) (a.tmps.getD 114 undef) W := hL 8 _ 114 rfl rfl (d 8 (by omega))
      have q4 : pA W4.heap.size 3 (TL1.row 4) E.txs.length (intsV t.begun) (.int .i64 (t.steps + 1)) (a.tmps.getD 124 undef) W := hL 18 _ 124 rfl rfl (d 18 (by omega))
      have q5 : pA W4.heap.size 3 (TL1.row 5) E.txs.length (intsV t.over) (.int .i64 0) (a.tmps.getD 130 undef) W := hL 24 _ 130 rfl rfl (d 24 (by omega))
      obtain ⟨hr5, hc5⟩ := hG.1.done HR4.out (.inr rfl) ⟨d 27 (by omega), d 30 (by omega), d 33 (by omega)⟩ (fun j => if j = 3 then a.tmps.getD 114 undef else if j = 4 then a.tmps.getD 124 undef else a.tmps.getD 130 undef) (newX level (t.steps + 1) (.slice ava nav avc) m) rfl rfl rfl
        (fun j h1 hj => by
          obtain rfl | rfl | rfl : j = 3 ∨ j = 4 ∨ j = 5 := by omega
          · exact q3
          · exact q4
          · exact q5)
        (fun i j g hi hj h1 h2 => by
          obtain rfl | rfl | rfl : i = 3 ∨ i = 4 ∨ i = 5 := by omega
          all_goals obtain rfl | rfl | rfl : j = 3 ∨ j = 4 ∨ j = 5 := by omega
          · rfl
          · exact absurd (q3.typ q4 h1 h2) (by decide)
          · exact absurd (q3.typ q5 h1 h2) (by decide)
          · exact absurd (q4.typ q3 h1 h2) (by decide)
          · rfl
          · exact (hG.2 (d 18 (by omega)) (d 24 (by omega)) g h1 h2).elim
          · exact absurd (q5.typ q3 h1 h2) (by decide)
          · exact (hG.2 (d 18 (by omega)) (d 24 (by omega)) g h2 h1).elim
          · rfl)
      have HQ3 := hid q3.2
      have HQ4 := hid q4.2
      have HQ5 := hid q5.2
      obtain ⟨v3, hv3⟩ : ∃ v, a.tmps.getD 114 undef = v := ⟨_, rfl⟩
      obtain ⟨v4, hv4⟩ : ∃ v, a.tmps.getD 124 undef = v := ⟨_, rfl⟩
      obtain ⟨v5, hv5⟩ : ∃ v, a.tmps.getD 130 undef = v := ⟨_, rfl⟩
      rw [hv3, hv4, hv5] at hr5
      rw [hv3] at HQ3
      rw [hv4] at HQ4
      rw [hv5] at HQ5
      have HR5 := hid hr5
      have HC5 := hid hc5
      clear hr5 hc5 q3 q4 q5 hG hL hF hdn d hsz4 hv3 hv4 hv5
      go_wp2
      refine bodyPost_ret (v := .tuple #[]) (by simp [results, Tryz.results24, go_sem]) hdf ⟨rfl, L3, _, moreL TL (fun j => if 3 ≤ j ∧ j ≤ 3 + 2 then (if j = 3 then v3 else if j = 4 then v4 else v5) else TL1.row j) (.slice ava nav avc) m, _, Does.begin E t level ⟨h3, fun h => absurd h (by omega)⟩ hl ho, ?_, HS3.out, rfl⟩
      have hr1 : ∀ j, 3 ≤ j → TL1.row j = TL.row j := fun j hj => by rw [← HTL1.out]; exact if_neg (by omega)
      have hrT : ∀ j g, j < 6 → (TL.row j).ownBlock = some g → g < w3.heap.size := fun j g hj hg => owns_lt (HR3.out.rows j hj) hg
      refine HH2.out.begun (row' := fun j => if 3 ≤ j ∧ j ≤ 3 + 2 then (if j = 3 then v3 else if j = 4 then v4 else v5) else TL1.row j) (m := m) (av := .slice ava nav avc) HE3.out (by simp) HK3.out HS3.out (by have := HAV.out; rw [HNAV.out]; exact owns_base this (Nat.zero_le _)) HAB.out ?_ ?_ HR5.out.ne ?_ hBm ?_
      · have := HR5.out.blk
        rw [← hb1]
        exact this
      · intro j hj
        obtain rfl | rfl | rfl | rfl | rfl | rfl : j = 0 ∨ j = 1 ∨ j = 2 ∨ j = 3 ∨ j = 4 ∨ j = 5 := by omega
        · refine ⟨HR5.out.rows 0 (by omega), fun g hg => HQ0.out g ?_⟩
          rw [← hg, ← HTL1.out]
          rfl
        · refine ⟨HR5.out.rows 1 (by omega), fun g hg => HQ1.out g ?_⟩
          rw [← hg, ← HTL1.out]
          rfl
        · refine ⟨HR5.out.rows 2 (by omega), fun g hg => HQ2.out g ?_⟩
          rw [← hg, ← HTL1.out]
          rfl
        · exact ⟨HR5.out.rows 3 (by omega), fun g hg => (HQ3.out g hg).imp (fun h => by rw [← hr1 3 (by omega)]; exact h) (fun h => Nat.le_trans HC4.out.size h)⟩
        · exact ⟨HR5.out.rows 4 (by omega), fun g hg => (HQ4.out g hg).imp (fun h => by rw [← hr1 4 (by omega)]; exact h) (fun h => Nat.le_trans HC4.out.size h)⟩
        · exact ⟨HR5.out.rows 5 (by omega), fun g hg => (HQ5.out g hg).imp (fun h => by rw [← hr1 5 (by omega)]; exact h) (fun h => Nat.le_trans HC4.out.size h)⟩
      · refine (HM.out.same (HC5.out.block m HM.out.lt (fun h => ?_))).upTo 10 (fun a ha => (ha rfl).elim)
        rcases h with e | ⟨j, hj, e⟩
        · rw [hb1] at e; omega
        · rw [hr1 j hj.1] at e
          have := hrT j m (by omega) e
          omega
      · refine ⟨HC5.out.os.trans HC4.out.os, HC5.out.tape.trans HC4.out.tape, HC5.out.output.trans HC4.out.output, Nat.le_trans HC4.out.size HC5.out.size, fun g hg hn => ?_⟩
        refine (HC5.out.block g (Nat.lt_of_lt_of_le hg HC4.out.size) (fun h => hn ?_)).trans (HC4.out.block g hg (fun h => hn ?_))
        · rcases h with e | ⟨j, hj, e⟩
          · exact .inl (e.trans hb1)
          · exact .inr ⟨j, by omega, by rw [← hr1 j hj.1]; exact e⟩
        · rcases h with e | ⟨j, hj, e⟩
          · exact .inl e
          · exact .inr ⟨j, by omega, e⟩
end Go.Proofs.YtjefgmeejhakbaaGreatDoor
