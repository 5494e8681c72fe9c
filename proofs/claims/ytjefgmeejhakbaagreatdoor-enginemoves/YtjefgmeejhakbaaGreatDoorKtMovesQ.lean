/- keep's EngineMoves: its closure moves. -/
import Derived.Test.YtjefgmeejhakbaaGreatDoorMgARQ
namespace Go.Proofs.YtjefgmeejhakbaaGreatDoor
open Go.RowKit
theorem drewN_drewN (w : World) (a b : Nat) : (w.drewN a).drewN b = w.drewN (a + b) := by
  unfold World.drewN
  simp only [Nat.add_assoc]
def cntS (E : Eng) (s : Int) (i : Nat) : Nat := (E.txs.take i).countP (fun t => t.state == s)
theorem cntS_step {E : Eng} {s : Int} {i : Nat} {u : Tx} (h : E.txs[i]? = some u) : cntS E s (i + 1) = cntS E s i + (if u.state = s then 1 else 0) := by
  unfold cntS
  rw [List.take_add_one, h, List.countP_append]
  simp [List.countP_cons]
theorem cntS_le (E : Eng) (s : Int) (i : Nat) : cntS E s i ≤ i := by
  unfold cntS
  exact Nat.le_trans List.countP_le_length (by simp; omega)
theorem cntS_live (E : Eng) : cntS E 0 E.txs.length + cntS E 1 E.txs.length = E.ce.live := by
  unfold cntS CE.live Eng.ce
  rw [List.take_length]
  simp only [List.countP_map]
  induction E.txs with
  | nil => rfl
  | cons a r ih =>
    simp only [List.countP_cons, Function.comp]
    have : (if liveB (cor a).state = true then 1 else 0) = (if (a.state == 0) = true then 1 else 0) + (if (a.state == 1) = true then (1 : Nat) else 0) := by
      show (if liveB a.state = true then 1 else 0) = _
      unfold liveB
      by_cases h0 : a.state = 0
      · simp [h0]
      · by_cases h1 : a.state = 1
        · simp [h1]
        · simp [h0, h1]
    rw [this]
    omega
theorem cntS_pos {E : Eng} {s : Int} {i : Nat} (h : 0 < cntS E s i) : ∃ (j : Nat) (u : Tx), E.txs[j]? = some u ∧ u.state = s := by
  unfold cntS at h
  obtain ⟨u, hu, hs⟩ := List.countP_pos_iff.1 h
  obtain ⟨j, hj, e⟩ := List.mem_iff_getElem.1 (List.mem_of_mem_take hu)
  exact ⟨j, u, by rw [List.getElem?_eq_getElem hj, e], by simpa using hs⟩
theorem cntS_of {E : Eng} {s : Int} {j : Nat} {u : Tx} (hu : E.txs[j]? = some u) (hs : u.state = s) : 0 < cntS E s E.txs.length := by
  unfold cntS
  rw [List.take_length]
  exact List.countP_pos_iff.2 ⟨u, List.mem_of_getElem? hu, by simpa using hs⟩
set_option maxRecDepth 100000 in
set_option maxHeartbeats 4000000 in
theorem moves_any {w0 : Gr} {w : World} {L : EnL} {E : Eng} {TL : TalL} {t : Tal} {vb : Nat} (h : TaleAt w0 w L E TL t) (hM : Mid0 E) (hb : w.cell? ⟨vb, 0, none⟩ = some (.pointer (some ⟨TL.b, 0, none⟩))) :
    Calls Tryz.prog 31 #[.pointer (some ⟨vb, 0, none⟩)] w fun e w' => e = .returned (.tuple #[.int .i64 (cntS E 0 E.txs.length : Nat), .int .i64 (cntS E 1 E.txs.length : Nat), .bool true]) ∧ ∃ q, w' = w.drewN q := by
  obtain ⟨N, hN⟩ : ∃ N, E.txs.length = N := ⟨_, rfl⟩
  have hle := h.en.le
  rw [hN] at hle
  have HM := hid hM
  have HH := hid h
  have HN := hid hN
  have c0 := h.tal.cell 0
  simp only [talCells, List.getElem?_toArray, List.getElem?_cons_zero] at c0
  have HTX := hid (fun q => txsE_any (h.drewN q).en)
  rw [hN] at HTX ⊢
  clear h hM hN
  go_enter Tryz.func31, Tryz.ntmps31
  go_wp2
  go_loopw [1, 2, 4] (fun ov av iv wr => ∃ i q : Nat, ov = .int .i64 (cntS E 0 i : Nat) ∧ av = .int .i64 (cntS E 1 i : Nat) ∧ iv = .int .i64 ((i : Int) + 1) ∧ i ≤ N ∧ wr = w.drewN q) (fun _ _ iv _ => N + 1 - (intOf iv).toNat)
  case atStart => exact ⟨0, 0, rfl, rfl, rfl, Nat.zero_le _, rfl⟩
  case round =>
    obtain ⟨i, q, rfl, rfl, rfl, hi, rfl⟩ := hrel
    have c0q : (w.drewN q).cell? ⟨TL.b, 0, none⟩ = some (ptrV L.s) := by rw [World.cell?_drewN]; exact c0
    have hbq : (w.drewN q).cell? ⟨vb, 0, none⟩ = some (.pointer (some ⟨TL.b, 0, none⟩)) := by rw [World.cell?_drewN]; exact hb
    obtain ⟨wq, hwq⟩ : ∃ wq, w.drewN q = wq := ⟨_, rfl⟩
    have HT := HTX.out q
    rw [hwq] at HT c0q hbq ⊢
    have HTQ := hid HT
    have HQ := hid hwq
    clear HT
    go_wp2_with fail
    refine HTQ.out.mono ?_
    rintro e w1 ⟨rfl, hw1⟩
    rw [hw1]
    clear hw1 w1
    by_cases hlt : i < N
    · obtain ⟨u, hu⟩ : ∃ u, E.txs[i]? = some u := ⟨E.txs[i]'(by have := HN.out; omega), List.getElem?_eq_getElem _⟩
      have hHq : TaleAt w0 wq L E TL t := by rw [← hwq]; exact HH.out.drewN q
      have HST := hid (state_ok hHq.en hu)
      have HWA := hid (fun q2 => waitsE_any (hHq.drewN q2).en (n := (i : Int) + 1) (by unfold I64; omega))
      have e0 := cntS_step (s := 0) hu
      have e1 := cntS_step (s := 1) hu
      have b0 := cntS_le E 0 i
      have b1 := cntS_le E 1 i
      have HSQ := hid (fun (j : Nat) (v : Tx) (hv : E.txs[j]? = some v) q2 => state_ok (hHq.drewN q2).en hv)
      have hcase : (u.state = 1 ∧ ∃ (j : Nat) (v : Tx), waitsE E ((i : Int) + 1) = (j : Int) + 1 ∧ E.txs[j]? = some v ∧ liveB v.state = true) ∨ (u.state ≠ 1 ∧ waitsE E ((i : Int) + 1) = 0) := by
        by_cases hs : u.state = 1
        · exact .inl ⟨hs, HM.out.waits_for hu hs⟩
        · exact .inr ⟨hs, HM.out.waits_not hu hs⟩
      obtain ⟨st, hst⟩ : ∃ st, u.state = st := ⟨_, rfl⟩
      obtain ⟨wa, hwa⟩ : ∃ wa, waitsE E ((i : Int) + 1) = wa := ⟨_, rfl⟩
      rw [hst] at HST e0 e1 hcase
      rw [hwa] at HWA hcase
      obtain ⟨n0, hn0⟩ : ∃ n0, cntS E 0 i = n0 := ⟨_, rfl⟩
      obtain ⟨n1, hn1⟩ : ∃ n1, cntS E 1 i = n1 := ⟨_, rfl⟩
      obtain ⟨m0, hm0⟩ : ∃ m0, cntS E 0 (i + 1) = m0 := ⟨_, rfl⟩
      obtain ⟨m1, hm1⟩ : ∃ m1, cntS E 1 (i + 1) = m1 := ⟨_, rfl⟩
      rw [hn0] at b0
      rw [hn1] at b1
      rw [hm0, hn0] at e0
      rw [hm1, hn1] at e1
      rw [hn0, hn1]
      have HM0 := hid hm0
      have HM1 := hid hm1
      have g1 : (i : Int) + 1 ≤ (N : Int) := by omega
      have gi : IntKind.i64.wrap ((i : Int) + 1 + 1) = (i : Int) + 1 + 1 := IntWalk.i64_in _ (by omega)
      have hc2 : ∀ q2, (wq.drewN q2).cell? ⟨TL.b, 0, none⟩ = some (ptrV L.s) := fun q2 => by rw [World.cell?_drewN]; exact c0q
      have hb2 : ∀ q2, (wq.drewN q2).cell? ⟨vb, 0, none⟩ = some (.pointer (some ⟨TL.b, 0, none⟩)) := fun q2 => by rw [World.cell?_drewN]; exact hbq
      have HC2 := hid hc2
      have HB2 := hid hb2
      clear hu hst hwa hn0 hn1 hm0 hm1 hHq hwq hc2 hb2
      go_wp2_with fail
      refine HST.out.mono ?_
      rintro e w1 ⟨rfl, q1, hw1⟩
      rw [hw1]
      clear hw1 w1
      have d0 := HC2.out q1
      have d1 := HB2.out q1
      go_wp2_with fail
      refine (HWA.out q1).mono ?_
      rintro e w2 ⟨rfl, q2, hw2⟩
      have ew : w2 = wq.drewN (q1 + q2) := by rw [hw2, drewN_drewN]
      rw [ew]
      clear ew hw2 w2 d0 d1
      have d0 := HC2.out (q1 + q2)
      have d1 := HB2.out (q1 + q2)
      rcases hcase with ⟨hs, j, v, hj, hv, hlv⟩ | ⟨hs, hw0⟩
      · subst hs
        subst hj
        have HSJ := hid (HSQ.out j v hv (q1 + q2))
        obtain ⟨sv, hsv⟩ : ∃ sv, v.state = sv := ⟨_, rfl⟩
        rw [hsv] at HSJ hlv
        have g2 : decide (sv > 1) = false := by rcases live_iff.1 hlv with e | e <;> simp [e]
        have g3 : decide ((j : Int) + 1 > 0) = true := decide_eq_true (by omega)
        have gw : IntKind.i64.wrap ((n1 : Int) + 1) = (n1 : Int) + 1 := IntWalk.i64_in _ (by omega)
        clear hsv hv hlv
        go_wp2_with fail
        refine HSJ.out.mono ?_
        rintro e w3 ⟨rfl, q3, hw3⟩
        have ew : w3 = wq.drewN (q1 + q2 + q3) := by rw [hw3, drewN_drewN]
        rw [ew]
        clear ew hw3 w3
        go_wp2
        go_roundw
        case rel =>
          refine ⟨i + 1, q + (q1 + q2 + q3), ?_, ?_, by go_num, by omega, ?_⟩
          · rw [HM0.out]; simp [e0]
          · rw [HM1.out]; simp [e1]
          · rw [← HQ.out, drewN_drewN]
        case measure => simp [intOf]; omega
      · subst hw0
        have g3 : (st == 1) = false := by simpa using hs
        by_cases hz : st = 0
        · subst hz
          have gw : IntKind.i64.wrap ((n0 : Int) + 1) = (n0 : Int) + 1 := IntWalk.i64_in _ (by omega)
          go_wp2
          go_roundw
          case rel =>
            refine ⟨i + 1, q + (q1 + q2), ?_, ?_, by go_num, by omega, ?_⟩
            · rw [HM0.out]; simp [e0]
            · rw [HM1.out]; simp [e1]
            · rw [← HQ.out, drewN_drewN]
          case measure => simp [intOf]; omega
        · have g4 : (st == 0) = false := by simpa using hz
          go_wp2
          go_roundw
          case rel =>
            refine ⟨i + 1, q + (q1 + q2), ?_, ?_, by go_num, by omega, ?_⟩
            · rw [HM0.out]; simp [e0, hz]
            · rw [HM1.out]; simp [e1, hs]
            · rw [← HQ.out, drewN_drewN]
          case measure => simp [intOf]; omega
    · have hiN : i = N := by omega
      have g1 : ¬ (i : Int) + 1 ≤ (N : Int) := by omega
      subst hiN
      have hpos : cntS E 1 i = 0 ∨ (0 < cntS E 1 i ∧ 0 < cntS E 0 i) := by
        rcases Nat.eq_zero_or_pos (cntS E 1 i) with hz | hz
        · exact .inl hz
        · obtain ⟨j, v, hv, hs⟩ := cntS_pos hz
          obtain ⟨k, x, hx, hxs⟩ := HM.out.open_one j v hv hs
          have := cntS_of hx hxs
          rw [HN.out] at this
          exact .inr ⟨hz, this⟩
      obtain ⟨n0, hn0⟩ : ∃ n0, cntS E 0 i = n0 := ⟨_, rfl⟩
      obtain ⟨n1, hn1⟩ : ∃ n1, cntS E 1 i = n1 := ⟨_, rfl⟩
      rw [hn0, hn1] at hpos ⊢
      have HN0 := hid hn0
      have HN1 := hid hn1
      clear hn0 hn1
      rcases hpos with hz | ⟨hz, ho⟩
      · subst hz
        go_wp2
        exact bodyPost_ret (v := .tuple #[.int .i64 (n0 : Int), .int .i64 ((0 : Nat) : Int), .bool true]) (by simp [results, Tryz.results31, go_sem]) rfl ⟨by rw [HN0.out, HN1.out], q, HQ.out.symm⟩
      · have g2 : ((n1 : Int) == 0) = false := by simp; omega
        have g3 : decide ((n0 : Int) > 0) = true := decide_eq_true (by omega)
        go_wp2
        exact bodyPost_ret (v := .tuple #[.int .i64 (n0 : Int), .int .i64 (n1 : Int), .bool true]) (by simp [results, Tryz.results31, go_sem]) rfl ⟨by rw [HN0.out, HN1.out], q, HQ.out.symm⟩
end Go.Proofs.YtjefgmeejhakbaaGreatDoor
