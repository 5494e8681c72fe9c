/- engine.Write, Ready, Abort. -/
import Derived.Test.YtjefgmeejhakbaaGreatDoorEnReadQ
namespace Go.Proofs.YtjefgmeejhakbaaGreatDoor
open Go.RowKit
variable {w w' : World} {L : EnL} {E : Eng}
theorem mem_ask {T : Tab} {q : Int → Nat} {tx key k x : Int} (h : x ∈ (askP T q tx key).2.2 k) : x ∈ T k ∨ x = tx := by
  unfold askP at h
  split at h
  · exact .inl h
  split at h
  · exact .inl h
  split at h
  · exact .inl h
  split at h
  · by_cases e : k = key
    · subst e; simp only [updT_same, List.mem_singleton] at h; exact .inr h
    · simp only [updT_other _ _ e] at h; exact .inl h
  split at h
  · exact .inl h
  · by_cases e : k = key
    · subst e
      simp only [updT_same, List.mem_append, List.mem_singleton] at h
      exact h
    · simp only [updT_other _ _ e] at h; exact .inl h
noncomputable def writeE (f : Nat) (q : Int → Nat) (E : Eng) (i : Nat) (key val : Int) : Option ((Bool × Int) × Eng) := match E.txs[i]? with
  | some t =>
    if key < 0 ∨ 10 ≤ key then some ((false, 2), E) else
    if val < -1099511627776 ∨ 1099511627776 < val then some ((false, 1), E) else
    if (askP E.T q ((i : Int) + 1) key).2.1 ≠ 0 then (endF f (loseE { (E.setTx i { t with wk := key, wv := val }) with T := (askP E.T q ((i : Int) + 1) key).2.2 } i 11) i 3).map (fun E' => ((false, 11), E')) else
    if (askP E.T q ((i : Int) + 1) key).1 = false then some ((false, 0), Eng.setTx { (E.setTx i { t with wk := key, wv := val }) with T := (askP E.T q ((i : Int) + 1) key).2.2 } i { t with wk := key, wv := val, state := 1 }) else
    (writeR (endF f) { (E.setTx i { t with wk := key, wv := val }) with T := (askP E.T q ((i : Int) + 1) key).2.2 } i).map (fun R => ((decide (R.1 = 0), R.1), R.2))
  | none => none
theorem txCells_wk (n : Int) (l : TxL) (t : Tx) (v : Int) : (txCells n l t).setIfInBounds 6 (.int .i64 v) = txCells n l { t with wk := v } := by unfold txCells; simp
theorem txCells_wv (n : Int) (l : TxL) (t : Tx) (v : Int) : (txCells n l t).setIfInBounds 7 (.int .i64 v) = txCells n l { t with wv := v } := by unfold txCells; simp
set_option maxRecDepth 100000 in
set_option maxHeartbeats 1000000 in
theorem write_shut (h : EnAt w L E) {n key val c : Int} (hc : (c = 7 ∧ (n < 1 ∨ (E.txs.length : Int) < n)) ∨ (c = 6 ∧ ∃ (i : Nat) (t : Tx), n = (i : Int) + 1 ∧ E.txs[i]? = some t ∧ t.state ≠ 0)) :
    Calls Tryz.prog 53 #[.pointer (some ⟨L.s, 0, none⟩), .int .i64 n, .int .i64 key, .int .i64 val] w fun e w' => e = .returned (.tuple #[.bool false, errV c]) ∧ w' = w := by
  have HO : Hid (Calls Tryz.prog 102 #[.pointer (some ⟨L.s, 0, none⟩), .int .i64 n] w fun e w' => e = .returned (.tuple #[.pointer none, errV c]) ∧ w' = w) := by
    rcases hc with ⟨rfl, hn⟩ | ⟨rfl, i, t, rfl, ht, hs⟩
    · exact open_err h hn
    · obtain ⟨l, hl, _⟩ := h.get ht
      exact open_state h hl ht hs
  have h0 : c ≠ 0 := by rcases hc with ⟨rfl, _⟩ | ⟨rfl, _⟩ <;> decide
  rw [show errV c = Value.iface 24 (.int .i64 c) from if_neg h0] at HO ⊢
  clear h hc h0
  go_enter Tryz.func53, Tryz.ntmps53
  go_wp2_with fail
  refine HO.out.mono ?_
  rintro e w1 ⟨rfl, rfl⟩
  go_wp2
  go_ret2
  exact ⟨rfl, rfl⟩
set_option maxRecDepth 100000 in
set_option maxHeartbeats 4000000 in
theorem write_main (h : EnAt w L E) (hf : Fits E) {f : Nat} {q : Int → Nat} (hq : Ranked E.T q) {i : Nat} {t : Tx} (ht : E.txs[i]? = some t) (hs : t.state = 0) {key val : Int} (hk : 0 ≤ key ∧ key < 10) (hv : -1099511627776 ≤ val ∧ val ≤ 1099511627776)
    {R : (Bool × Int) × Eng} (hR : writeE f q E i key val = some R) :
    Calls Tryz.prog 53 #[.pointer (some ⟨L.s, 0, none⟩), .int .i64 ((i : Int) + 1), .int .i64 key, .int .i64 val] w fun e w' => e = .returned (.tuple #[.bool R.1.1, errV R.1.2]) ∧ EnPost L R.2 w w' := by
  obtain ⟨l, hl, hA⟩ := h.get ht
  have HO := hid (open_ok h hl ht hs)
  have hi := (List.getElem?_eq_some_iff.1 ht).1
  have hle := h.le
  obtain ⟨h1, k1⟩ := h.setCell hl ht (txCells_wk _ l t key) rfl rfl hA.sl rfl rfl hk
  have hA1 := h1.txs i l _ hl (setTx_get ht)
  obtain ⟨h2, k2⟩ := h1.setCell hl (setTx_get ht) (txCells_wv _ l _ val) rfl rfl hA1.sl rfl rfl hk
  rw [setTx_twice] at h2
  have c6 := hA.c6
  have c7 := hA.c7
  have f6 := hA.free 6
  have f7 := hA.free 7
  have d7 := hA1.c7
  have e7 := hA1.free 7
  obtain ⟨w2, hw2⟩ : ∃ w2, (w.setCell ⟨l.b, 6, none⟩ (.int .i64 key)).setCell ⟨l.b, 7, none⟩ (.int .i64 val) = w2 := ⟨_, rfl⟩
  rw [hw2] at h2 k2
  have hask := ask_any (C := L.C E.last) L.s 201 L.M E.T q ((i : Int) + 1) key w2 h2.loc h.good hq (by unfold I64; omega) (by unfold I64; omega) (by omega)
  rw [h.o] at hask
  have hgood := h.good.ask hq ((i : Int) + 1) key (by omega)
  have HSET := hid (fun (w3 : World) (M' : LkM) (N : Nat) (hT : TabAt (L.C E.last) w3 L.s N M' (askP E.T q ((i : Int) + 1) key).2.2) (hK : KeptO (L.M.own L.s) (M'.own L.s) w2 w3) =>
    h2.setLock hT hK hgood (fun k x hx => by
      rw [setTx_len]
      rcases mem_ask hx with h3 | h3
      · exact h.mem k x h3
      · omega))
  unfold writeE at hR
  rw [ht] at hR
  simp only at hR
  rw [if_neg (by omega), if_neg (by omega)] at hR
  obtain ⟨ab, ac, aT, haq⟩ : ∃ ab ac aT, askP E.T q ((i : Int) + 1) key = (ab, ac, aT) := ⟨_, _, _, rfl⟩
  rw [haq] at hask hR HSET
  unfold AskPost at hask
  simp only at hask hR HSET
  obtain ⟨E2, hE2⟩ : ∃ E2 : Eng, ({ (E.setTx i { t with wk := key, wv := val }) with T := aT } : Eng) = E2 := ⟨_, rfl⟩
  have htx2 : E2.txs[i]? = some { t with wk := key, wv := val } := by rw [← hE2]; exact setTx_get ht
  have hks2 : E2.ks = E.ks := by rw [← hE2]; rfl
  rw [hE2] at hR HSET
  have HASK := hid hask
  have HK := hid (k1.trans k2)
  have HL := hid hl
  have HF := hid hf
  have HTX := hid htx2
  have HKS := hid hks2
  have g1 : ¬ key < 0 := by omega
  have g2 : ¬ 10 ≤ key := by omega
  have g3 : ¬ val < -1099511627776 := by omega
  have g4 : ¬ 1099511627776 < val := by omega
  have HRR := hid hR
  clear h hl ht hs hA h1 k1 hA1 h2 k2 hask hgood haq hE2 htx2 hks2 hR hf hq
  go_enter Tryz.func53, Tryz.ntmps53
  go_wp2_with fail
  refine HO.out.mono ?_
  rintro e w1 ⟨rfl, hw1⟩
  rw [hw1]
  clear hw1 w1
  go_wp2_with fail
  try rw [hw2]
  refine HASK.out.mono ?_
  rintro e w3 ⟨rfl, M', hT3, hK3⟩
  obtain ⟨hE3, hKE3⟩ := HSET.out w3 M' _ hT3 hK3
  have HE3 := hid hE3
  have HKE3 := hid (HK.out.trans hKE3)
  clear hT3 hK3 hE3 hKE3 HASK HSET
  by_cases hc : ac = 0
  · subst hc
    have hRR := HRR.out
    rw [if_neg (by simp)] at hRR
    rw [show errV 0 = Value.nilIface from rfl]
    cases ab with
    | false =>
      rw [if_pos rfl] at hRR
      injection hRR with hRR
      have hA3 := HE3.out.txs (L := { L with M := M' }) i l _ HL.out HTX.out
      obtain ⟨h4, k4⟩ := HE3.out.setCell (L := { L with M := M' }) HL.out HTX.out (txCells_state _ l _ 1) rfl rfl hA3.sl rfl rfl hA3.wkr
      have z3 := hA3.c3
      have zf := hA3.free 3
      have HP := hid (show EnPost L R.2 w _ from ⟨{ L with M := M' }, by rw [← hRR]; exact h4, HKE3.out.trans k4, rfl, rfl⟩)
      have HR2 := hid (show R.1 = (false, 0) from by rw [← hRR])
      clear hRR hA3 h4 k4
      go_wp2
      go_ret2
      rw [HR2.out]
      exact ⟨rfl, HP.out⟩
    | true =>
      rw [if_neg (by simp)] at hRR
      rcases hwr : writeR (endF f) E2 i with _ | ⟨why, E5⟩
      · rw [hwr] at hRR; cases hRR
      rw [hwr] at hRR
      simp only [Option.map_some, Option.some.injEq] at hRR
      have HC := hid (write_any (L := { L with M := M' }) (end_ok f) HE3.out HL.out HTX.out (by rw [HKS.out]; exact HF.out.len) hwr)
      clear hwr
      go_wp2_with fail
      refine HC.out.mono ?_
      rintro e w4 ⟨rfl, L4, hE4, hK4, hs4, hb4⟩
      have HP := hid (show EnPost L R.2 w w4 from ⟨L4, by rw [← hRR]; exact hE4, HKE3.out.trans hK4, hs4, hb4⟩)
      have HR2 := hid (show R.1 = (decide (why = 0), why) from by rw [← hRR])
      clear hRR hE4 hK4 hs4 hb4 HC
      by_cases h0 : why = 0
      · subst h0
        go_wp2
        go_ret2
        rw [HR2.out]
        exact ⟨rfl, HP.out⟩
      · have e0 : (why != 0) = true := by simpa using h0
        have hr2 := HR2.out
        rw [show decide (why = 0) = false from by simpa using h0] at hr2
        have HE := hid (show errV why = Value.iface 24 (.int .i64 why) from if_neg h0)
        clear h0
        go_wp2
        go_ret2
        rw [hr2, HE.out]
        exact ⟨rfl, HP.out⟩
  · have hRR := HRR.out
    rw [if_pos hc] at hRR
    obtain ⟨E9, hE9, hR2⟩ : ∃ E9, endF f (loseE E2 i 11) i 3 = some E9 ∧ R = ((false, 11), E9) := by
      cases he : endF f (loseE E2 i 11) i 3 with
      | none => rw [he] at hRR; cases hRR
      | some E9 => rw [he] at hRR; simp at hRR; exact ⟨E9, rfl, hRR.symm⟩
    have HC := hid (lose_any (L := { L with M := M' }) (end_ok f) HE3.out HL.out HTX.out 11 (by rw [HKS.out]; exact HF.out.len) hE9)
    have HR2 := hid hR2
    rw [show errV ac = Value.iface 24 (.int .i64 ac) from if_neg hc]
    clear hRR hR2 hE9 hc
    go_wp2_with fail
    refine HC.out.mono ?_
    rintro e w4 ⟨rfl, L4, hE4, hK4, hs4, hb4⟩
    have HP := hid (show EnPost L E9 w w4 from ⟨L4, hE4, HKE3.out.trans hK4, hs4, hb4⟩)
    clear hE4 hK4 hs4 hb4 HC
    go_wp2
    go_ret2
    rw [HR2.out]
    exact ⟨rfl, HP.out⟩
end Go.Proofs.YtjefgmeejhakbaaGreatDoor
