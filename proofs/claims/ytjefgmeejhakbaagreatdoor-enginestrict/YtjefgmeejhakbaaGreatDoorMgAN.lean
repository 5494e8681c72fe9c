/- EnWrite EnRest OrQueue: put together for a claim. -/
import Derived.Test.YtjefgmeejhakbaaGreatDoorEnRead
import Derived.Test.YtjefgmeejhakbaaGreatDoorMgAA
import Derived.Test.YtjefgmeejhakbaaGreatDoorMgAJ
/- engine.Write, Ready, Abort. -/
namespace Go.Proofs.YtjefgmeejhakbaaGreatDoor
open Go.RowKit

variable {w w' : World} {L : EnL} {E : Eng}
theorem mem_ask {T : Tab} {q : Int → Nat} {tx key k x : Int} (h : x ∈ (askP T q tx key).2.2 k) : x ∈ T k ∨ x = tx := by
  unfold askP at h
  split at h
  · exact .inl h
  split at h
  · exact .inl h
  split at h
  · exact .inl h
  split at h
  · by_cases e : k = key
    · subst e; simp only [updT_same, List.mem_singleton] at h; exact .inr h
    · simp only [updT_other _ _ e] at h; exact .inl h
  split at h
  · exact .inl h
  · by_cases e : k = key
    · subst e
      simp only [updT_same, List.mem_append, List.mem_singleton] at h
      exact h
    · simp only [updT_other _ _ e] at h; exact .inl h
noncomputable def writeE (f : Nat) (q : Int → Nat) (E : Eng) (i : Nat) (key val : Int) : Option ((Bool × Int) × Eng) := match E.txs[i]? with
  | some t =>
    if key < 0 ∨ 10 ≤ key then some ((false, 2), E) else
    if val < -1099511627776 ∨ 1099511627776 < val then some ((false, 1), E) else
    if (askP E.T q ((i : Int) + 1) key).2.1 ≠ 0 then (endF f (loseE { (E.setTx i { t with wk := key, wv := val }) with T := (askP E.T q ((i : Int) + 1) key).2.2 } i 11) i 3).map (fun E' => ((false, 11), E')) else
    if (askP E.T q ((i : Int) + 1) key).1 = false then some ((false, 0), Eng.setTx { (E.setTx i { t with wk := key, wv := val }) with T := (askP E.T q ((i : Int) + 1) key).2.2 } i { t with wk := key, wv := val, state := 1 }) else
    (writeR (endF f) { (E.setTx i { t with wk := key, wv := val }) with T := (askP E.T q ((i : Int) + 1) key).2.2 } i).map (fun R => ((decide (R.1 = 0), R.1), R.2))
  | none => none
theorem txCells_wk (n : Int) (l : TxL) (t : Tx) (v : Int) : (txCells n l t).setIfInBounds 6 (.int .i64 v) = txCells n l { t with wk := v } := by unfold txCells; simp
theorem txCells_wv (n : Int) (l : TxL) (t : Tx) (v : Int) : (txCells n l t).setIfInBounds 7 (.int .i64 v) = txCells n l { t with wv := v } := by unfold txCells; simp

set_option maxRecDepth 100000 in
set_option maxHeartbeats 1000000 in
theorem write_shut (h : EnAt w L E) {n key val c : Int} (hc : (c = 7 ∧ (n < 1 ∨ (E.txs.length : Int) < n)) ∨ (c = 6 ∧ ∃ (i : Nat) (t : Tx), n = (i : Int) + 1 ∧ E.txs[i]? = some t ∧ t.state ≠ 0)) :
    Calls Tryz.prog 53 #[.pointer (some ⟨L.s, 0, none⟩), .int .i64 n, .int .i64 key, .int .i64 val] w fun e w' => e = .returned (.tuple #[.bool false, errV c]) ∧ w' = w := by
  have HO : Hid (Calls Tryz.prog 102 #[.pointer (some ⟨L.s, 0, none⟩), .int .i64 n] w fun e w' => e = .returned (.tuple #[.pointer none, errV c]) ∧ w' = w) := by
    rcases hc with ⟨rfl, hn⟩ | ⟨rfl, i, t, rfl, ht, hs⟩
    · exact open_err h hn
    · obtain ⟨l, hl, _⟩ := h.get ht
      exact open_state h hl ht hs
  have h0 : c ≠ 0 := by rcases hc with ⟨rfl, _⟩ | ⟨rfl, _⟩ <;> decide
  rw [show errV c = Value.iface 24 (.int .i64 c) from if_neg h0] at HO ⊢
  clear h hc h0
  go_enter Tryz.func53, Tryz.ntmps53
  go_wp2_with fail
  refine HO.out.mono ?_
  rintro e w1 ⟨rfl, rfl⟩
  go_wp2
  go_ret2
  exact ⟨rfl, rfl⟩

set_option maxRecDepth 100000 in
set_option maxHeartbeats 1000000 in
theorem write_bad (h : EnAt w L E) {i : Nat} {t : Tx} {key val c : Int} (ht : E.txs[i]? = some t) (hs : t.state = 0) (hc : ((key < 0 ∨ 10 ≤ key) ∧ c = 2) ∨ ((0 ≤ key ∧ key < 10) ∧ (val < -1099511627776 ∨ 1099511627776 < val) ∧ c = 1)) :
    Calls Tryz.prog 53 #[.pointer (some ⟨L.s, 0, none⟩), .int .i64 ((i : Int) + 1), .int .i64 key, .int .i64 val] w fun e w' => e = .returned (.tuple #[.bool false, errV c]) ∧ w' = w := by
  obtain ⟨l, hl, _⟩ := h.get ht
  have HO := hid (open_ok h hl ht hs)
  clear h ht hs hl
  rcases hc with ⟨hk, rfl⟩ | ⟨hk, hv, rfl⟩
  · by_cases g1 : key < 0
    · clear hk
      go_enter Tryz.func53, Tryz.ntmps53
      go_wp2_with fail
      refine HO.out.mono ?_
      rintro e w1 ⟨rfl, rfl⟩
      go_wp2
      go_ret2
      exact ⟨rfl, rfl⟩
    · have g2 : decide (10 ≤ key) = true := by simp; omega
      clear hk
      go_enter Tryz.func53, Tryz.ntmps53
      go_wp2_with fail
      refine HO.out.mono ?_
      rintro e w1 ⟨rfl, rfl⟩
      go_wp2
      go_ret2
      exact ⟨rfl, rfl⟩
  · have g1 : ¬ key < 0 := by omega
    have g2 : ¬ 10 ≤ key := by omega
    by_cases g3 : val < -1099511627776
    · clear hk hv
      go_enter Tryz.func53, Tryz.ntmps53
      go_wp2_with fail
      refine HO.out.mono ?_
      rintro e w1 ⟨rfl, rfl⟩
      go_wp2
      go_ret2
      exact ⟨rfl, rfl⟩
    · have g4 : decide (1099511627776 < val) = true := by simp; omega
      clear hk hv
      go_enter Tryz.func53, Tryz.ntmps53
      go_wp2_with fail
      refine HO.out.mono ?_
      rintro e w1 ⟨rfl, rfl⟩
      go_wp2
      go_ret2
      exact ⟨rfl, rfl⟩

set_option maxRecDepth 100000 in
set_option maxHeartbeats 4000000 in
theorem write_main (h : EnAt w L E) (hf : Fits E) {f : Nat} {q : Int → Nat} (hq : Ranked E.T q) {i : Nat} {t : Tx} (ht : E.txs[i]? = some t) (hs : t.state = 0) {key val : Int} (hk : 0 ≤ key ∧ key < 10) (hv : -1099511627776 ≤ val ∧ val ≤ 1099511627776)
    {R : (Bool × Int) × Eng} (hR : writeE f q E i key val = some R) :
    Calls Tryz.prog 53 #[.pointer (some ⟨L.s, 0, none⟩), .int .i64 ((i : Int) + 1), .int .i64 key, .int .i64 val] w fun e w' => e = .returned (.tuple #[.bool R.1.1, errV R.1.2]) ∧ EnPost L R.2 w w' := by
  obtain ⟨l, hl, hA⟩ := h.get ht
  have HO := hid (open_ok h hl ht hs)
  have hi := (List.getElem?_eq_some_iff.1 ht).1
  have hle := h.le
  obtain ⟨h1, k1⟩ := h.setCell hl ht (txCells_wk _ l t key) rfl rfl hA.sl rfl rfl hk
  have hA1 := h1.txs i l _ hl (setTx_get ht)
  obtain ⟨h2, k2⟩ := h1.setCell hl (setTx_get ht) (txCells_wv _ l _ val) rfl rfl hA1.sl rfl rfl hk
  rw [setTx_twice] at h2
  have c6 := hA.c6
  have c7 := hA.c7
  have f6 := hA.free 6
  have f7 := hA.free 7
  have d7 := hA1.c7
  have e7 := hA1.free 7
  obtain ⟨w2, hw2⟩ : ∃ w2, (w.setCell ⟨l.b, 6, none⟩ (.int .i64 key)).setCell ⟨l.b, 7, none⟩ (.int .i64 val) = w2 := ⟨_, rfl⟩
  rw [hw2] at h2 k2
  have hask := ask_any (C := L.C E.last) L.s 201 L.M E.T q ((i : Int) + 1) key w2 h2.loc h.good hq (by unfold I64; omega) (by unfold I64; omega) (by omega)
  rw [h.o] at hask
  have hgood := h.good.ask hq ((i : Int) + 1) key (by omega)
  have HSET := hid (fun (w3 : World) (M' : LkM) (N : Nat) (hT : TabAt (L.C E.last) w3 L.s N M' (askP E.T q ((i : Int) + 1) key).2.2) (hK : KeptO (L.M.own L.s) (M'.own L.s) w2 w3) =>
    h2.setLock hT hK hgood (fun k x hx => by
      rw [setTx_len]
      rcases mem_ask hx with h3 | h3
      · exact h.mem k x h3
      · omega))
  unfold writeE at hR
  rw [ht] at hR
  simp only at hR
  rw [if_neg (by omega), if_neg (by omega)] at hR
  obtain ⟨ab, ac, aT, haq⟩ : ∃ ab ac aT, askP E.T q ((i : Int) + 1) key = (ab, ac, aT) := ⟨_, _, _, rfl⟩
  rw [haq] at hask hR HSET
  unfold AskPost at hask
  simp only at hask hR HSET
  obtain ⟨E2, hE2⟩ : ∃ E2 : Eng, ({ (E.setTx i { t with wk := key, wv := val }) with T := aT } : Eng) = E2 := ⟨_, rfl⟩
  have htx2 : E2.txs[i]? = some { t with wk := key, wv := val } := by rw [← hE2]; exact setTx_get ht
  have hks2 : E2.ks = E.ks := by rw [← hE2]; rfl
  rw [hE2] at hR HSET
  have HASK := hid hask
  have HK := hid (k1.trans k2)
  have HL := hid hl
  have HF := hid hf
  have HTX := hid htx2
  have HKS := hid hks2
  have g1 : ¬ key < 0 := by omega
  have g2 : ¬ 10 ≤ key := by omega
  have g3 : ¬ val < -1099511627776 := by omega
  have g4 : ¬ 1099511627776 < val := by omega
  have HRR := hid hR
  clear h hl ht hs hA h1 k1 hA1 h2 k2 hask hgood haq hE2 htx2 hks2 hR hf hq
  go_enter Tryz.func53, Tryz.ntmps53
  go_wp2_with fail
  refine HO.out.mono ?_
  rintro e w1 ⟨rfl, hw1⟩
  rw [hw1]
  clear hw1 w1
  go_wp2_with fail
  try rw [hw2]
  refine HASK.out.mono ?_
  rintro e w3 ⟨rfl, M', hT3, hK3⟩
  obtain ⟨hE3, hKE3⟩ := HSET.out w3 M' _ hT3 hK3
  have HE3 := hid hE3
  have HKE3 := hid (HK.out.trans hKE3)
  clear hT3 hK3 hE3 hKE3 HASK HSET
  by_cases hc : ac = 0
  · subst hc
    have hRR := HRR.out
    rw [if_neg (by simp)] at hRR
    rw [show errV 0 = Value.nilIface from rfl]
    cases ab with
    | false =>
      rw [if_pos rfl] at hRR
      injection hRR with hRR
      have hA3 := HE3.out.txs (L := { L with M := M' }) i l _ HL.out HTX.out
      obtain ⟨h4, k4⟩ := HE3.out.setCell (L := { L with M := M' }) HL.out HTX.out (txCells_state _ l _ 1) rfl rfl hA3.sl rfl rfl hA3.wkr
      have z3 := hA3.c3
      have zf := hA3.free 3
      have HP := hid (show EnPost L R.2 w _ from ⟨{ L with M := M' }, by rw [← hRR]; exact h4, HKE3.out.trans k4, rfl, rfl⟩)
      have HR2 := hid (show R.1 = (false, 0) from by rw [← hRR])
      clear hRR hA3 h4 k4
      go_wp2
      go_ret2
      rw [HR2.out]
      exact ⟨rfl, HP.out⟩
    | true =>
      rw [if_neg (by simp)] at hRR
      rcases hwr : writeR (endF f) E2 i with _ | ⟨why, E5⟩
      · rw [hwr] at hRR; cases hRR
      rw [hwr] at hRR
      simp only [Option.map_some, Option.some.injEq] at hRR
      have HC := hid (write_any (L := { L with M := M' }) (end_ok f) HE3.out HL.out HTX.out (by rw [HKS.out]; exact HF.out.len) hwr)
      clear hwr
      go_wp2_with fail
      refine HC.out.mono ?_
      rintro e w4 ⟨rfl, L4, hE4, hK4, hs4, hb4⟩
      have HP := hid (show EnPost L R.2 w w4 from ⟨L4, by rw [← hRR]; exact hE4, HKE3.out.trans hK4, hs4, hb4⟩)
      have HR2 := hid (show R.1 = (decide (why = 0), why) from by rw [← hRR])
      clear hRR hE4 hK4 hs4 hb4 HC
      by_cases h0 : why = 0
      · subst h0
        go_wp2
        go_ret2
        rw [HR2.out]
        exact ⟨rfl, HP.out⟩
      · have e0 : (why != 0) = true := by simpa using h0
        have hr2 := HR2.out
        rw [show decide (why = 0) = false from by simpa using h0] at hr2
        have HE := hid (show errV why = Value.iface 24 (.int .i64 why) from if_neg h0)
        clear h0
        go_wp2
        go_ret2
        rw [hr2, HE.out]
        exact ⟨rfl, HP.out⟩
  · have hRR := HRR.out
    rw [if_pos hc] at hRR
    obtain ⟨E9, hE9, hR2⟩ : ∃ E9, endF f (loseE E2 i 11) i 3 = some E9 ∧ R = ((false, 11), E9) := by
      cases he : endF f (loseE E2 i 11) i 3 with
      | none => rw [he] at hRR; cases hRR
      | some E9 => rw [he] at hRR; simp at hRR; exact ⟨E9, rfl, hRR.symm⟩
    have HC := hid (lose_any (L := { L with M := M' }) (end_ok f) HE3.out HL.out HTX.out 11 (by rw [HKS.out]; exact HF.out.len) hE9)
    have HR2 := hid hR2
    rw [show errV ac = Value.iface 24 (.int .i64 ac) from if_neg hc]
    clear hRR hR2 hE9 hc
    go_wp2_with fail
    refine HC.out.mono ?_
    rintro e w4 ⟨rfl, L4, hE4, hK4, hs4, hb4⟩
    have HP := hid (show EnPost L E9 w w4 from ⟨L4, hE4, HKE3.out.trans hK4, hs4, hb4⟩)
    clear hE4 hK4 hs4 hb4 HC
    go_wp2
    go_ret2
    rw [HR2.out]
    exact ⟨rfl, HP.out⟩

end Go.Proofs.YtjefgmeejhakbaaGreatDoor

/- engine.Abort, Ready, State, All, Last, Many, Txs, Waits. -/
namespace Go.Proofs.YtjefgmeejhakbaaGreatDoor
open Go.RowKit

variable {w w' : World} {L : EnL} {E : Eng}
set_option maxRecDepth 100000 in
set_option maxHeartbeats 1000000 in
theorem abort_miss (h : EnAt w L E) {n : Int} (hn : n < 1 ∨ (E.txs.length : Int) < n) :
    Calls Tryz.prog 36 #[.pointer (some ⟨L.s, 0, none⟩), .int .i64 n] w fun e w' => e = .returned (errV 7) ∧ w' = w := by
  have HO := hid (find_err h hn)
  rw [show errV 7 = Value.iface 24 (.int .i64 7) from rfl] at HO ⊢
  clear h hn
  go_enter Tryz.func36, Tryz.ntmps36
  go_wp2_with fail
  refine HO.out.mono ?_
  rintro e w1 ⟨rfl, rfl⟩
  go_wp2
  go_ret
  exact ⟨rfl, rfl⟩
set_option maxRecDepth 100000 in
set_option maxHeartbeats 1000000 in
theorem abort_over (h : EnAt w L E) {i : Nat} {t : Tx} (ht : E.txs[i]? = some t) (hs : liveB t.state = false) :
    Calls Tryz.prog 36 #[.pointer (some ⟨L.s, 0, none⟩), .int .i64 ((i : Int) + 1)] w fun e w' => e = .returned (errV 6) ∧ w' = w := by
  obtain ⟨l, hl, hA⟩ := h.get ht
  have HO := hid (find_ok h hl)
  have HL := hid (lives_any l.b t.state w hA.c3)
  rw [hs] at HL
  clear h ht hs hl hA
  go_enter Tryz.func36, Tryz.ntmps36
  go_wp2_with fail
  refine HO.out.mono ?_
  rintro e w1 ⟨rfl, rfl⟩
  go_wp2_with fail
  refine HL.out.mono ?_
  rintro e w1 ⟨rfl, rfl⟩
  go_wp2
  go_ret
  exact ⟨rfl, rfl⟩
set_option maxRecDepth 100000 in
set_option maxHeartbeats 1000000 in
theorem abort_main (h : EnAt w L E) (hf : Fits E) {f : Nat} {i : Nat} {t : Tx} (ht : E.txs[i]? = some t) (hs : liveB t.state = true) {E' : Eng} (hE : endF f (loseE E i 0) i 3 = some E') :
    Calls Tryz.prog 36 #[.pointer (some ⟨L.s, 0, none⟩), .int .i64 ((i : Int) + 1)] w fun e w' => e = .returned (errV 0) ∧ EnPost L E' w w' := by
  obtain ⟨l, hl, hA⟩ := h.get ht
  have HO := hid (find_ok h hl)
  have HL := hid (lives_any l.b t.state w hA.c3)
  rw [hs] at HL
  have HC := hid (lose_any (end_ok f) h hl ht 0 hf.len hE)
  clear h ht hs hl hA hE hf
  go_enter Tryz.func36, Tryz.ntmps36
  go_wp2_with fail
  refine HO.out.mono ?_
  rintro e w1 ⟨rfl, hw1⟩
  rw [hw1]
  clear hw1 w1
  go_wp2_with fail
  refine HL.out.mono ?_
  rintro e w1 ⟨rfl, hw1⟩
  rw [hw1]
  clear hw1 w1
  go_wp2_with fail
  refine HC.out.mono ?_
  rintro e w1 ⟨rfl, hP⟩
  have HP := hid hP
  clear hP HC
  go_wp2
  go_ret
  exact ⟨rfl, HP.out⟩

set_option maxRecDepth 100000 in
set_option maxHeartbeats 1000000 in
theorem state_ok (h : EnAt w L E) {i : Nat} {t : Tx} (ht : E.txs[i]? = some t) :
    Calls Tryz.prog 33 #[.pointer (some ⟨L.s, 0, none⟩), .int .i64 ((i : Int) + 1)] w fun e w' => e = .returned (.tuple #[.int .i64 t.state, .int .i64 t.why, .nilIface]) ∧ ∃ q, w' = w.drewN q := by
  obtain ⟨l, hl, hA⟩ := h.get ht
  have c3 := hA.c3
  have c4 := hA.c4
  have HO := hid (find_ok h hl)
  clear h ht hl hA
  go_enter Tryz.func33, Tryz.ntmps33
  go_wp2_with fail
  refine HO.out.mono ?_
  rintro e w1 ⟨rfl, hw1⟩
  rw [hw1]
  clear hw1 w1
  go_wp2
  go_quiet (fail)
  go_wp2
  go_ret3
  exact ⟨rfl, _, rfl⟩
set_option maxRecDepth 100000 in
set_option maxHeartbeats 1000000 in
theorem state_err (h : EnAt w L E) {n : Int} (hn : n < 1 ∨ (E.txs.length : Int) < n) :
    Calls Tryz.prog 33 #[.pointer (some ⟨L.s, 0, none⟩), .int .i64 n] w fun e w' => e = .returned (.tuple #[.int .i64 0, .int .i64 0, errV 7]) ∧ w' = w := by
  have HO := hid (find_err h hn)
  rw [show errV 7 = Value.iface 24 (.int .i64 7) from rfl] at HO ⊢
  clear h hn
  go_enter Tryz.func33, Tryz.ntmps33
  go_wp2_with fail
  refine HO.out.mono ?_
  rintro e w1 ⟨rfl, rfl⟩
  go_wp2
  go_ret3
  exact ⟨rfl, rfl⟩

def allE (E : Eng) : List (Int × Int) := allK (fun k => rdP E.last (E.ks[k]?.getD [])) 10
set_option maxRecDepth 100000 in
set_option maxHeartbeats 1000000 in
theorem allE_any (h : EnAt w L E) (hf : Fits E) :
    Calls Tryz.prog 29 #[.pointer (some ⟨L.s, 0, none⟩)] w fun e w' => ∃ tv, e = .returned tv ∧ w'.ownsRow w.heap.size 78 2 tv (allE E).length (vrow (allE E)) ∧ Below w.heap.size w w' := by
  have HL := hid (fun q => last_any _ _ _ _ _ (w.drewN q) (h.below (below_drewN (Below.refl _ w) q)).sto)
  have HA := hid (fun q => all_any _ _ _ E.last _ _ (w.drewN q) (h.below (below_drewN (Below.refl _ w) q)).sto (fun l hl => Nat.le_trans (hf.len l hl) (by omega)))
  unfold allE
  clear h hf
  go_enter Tryz.func29, Tryz.ntmps29
  go_wp2
  go_region_held3 (fun W => True)
    (first | go_keep | trivial)
    (first | (go_at_call 97
              refine (HL.out 1).mono ?_
              rintro e w2 ⟨rfl, hw2⟩
              rw [hw2]
              clear hw2 w2)
           | (go_at_call 96
              refine (HA.out 1).mono ?_
              rintro e w2 ⟨tv, rfl, ho, hB⟩
              have HO := hid (And.intro ho hB)
              clear ho hB))
  go_wp2
  go_ret
  exact ⟨_, rfl, HO.out.1, (below_drewN (Below.refl _ w) 1).trans HO.out.2⟩
set_option maxRecDepth 100000 in
set_option maxHeartbeats 1000000 in
theorem lastE_any (h : EnAt w L E) :
    Calls Tryz.prog 86 #[.pointer (some ⟨L.s, 0, none⟩)] w fun e w' => e = .returned (.int .i64 E.last) ∧ w' = w := by
  have HL := hid (last_any _ _ _ _ _ w h.sto)
  clear h
  go_enter Tryz.func86, Tryz.ntmps86
  go_wp2_with fail
  refine HL.out.mono ?_
  rintro e w1 ⟨rfl, rfl⟩
  go_wp2
  go_ret
  exact ⟨rfl, rfl⟩
set_option maxRecDepth 100000 in
set_option maxHeartbeats 1000000 in
theorem txsE_any (h : EnAt w L E) :
    Calls Tryz.prog 32 #[.pointer (some ⟨L.s, 0, none⟩)] w fun e w' => e = .returned (.int .i64 (E.txs.length : Int)) ∧ w' = w := by
  have c14 := h.c14
  obtain ⟨ad, cap, e⟩ := row_form h.all
  rw [h.len] at e
  rw [e] at c14
  have hle := h.le
  clear h e
  go_enter Tryz.func32, Tryz.ntmps32
  go_wp2
  go_ret
  exact ⟨rfl, rfl⟩
def waitsE (E : Eng) (n : Int) : Int := holdsP E.T (waitsP E.T n)
set_option maxRecDepth 100000 in
set_option maxHeartbeats 1000000 in
theorem waitsE_any (h : EnAt w L E) {n : Int} (hn : I64 n) :
    Calls Tryz.prog 34 #[.pointer (some ⟨L.s, 0, none⟩), .int .i64 n] w fun e w' => e = .returned (.int .i64 (waitsE E n)) ∧ ∃ q, w' = w.drewN q := by
  have ho := h.o
  obtain ⟨hh, wa, ln, r, R⟩ := h.loc
  have HW := hid (fun q => waitsR L.s 201 L.M R n (w.drewN q) (r.below (below_drewN (Below.refl _ w) q)) hn)
  have HH := hid (fun q => holdsR L.s 201 L.M R (waitsP E.T n) (w.drewN q) (r.below (below_drewN (Below.refl _ w) q)) (waits_i64 E.T n))
  rw [ho] at HW HH
  unfold waitsE
  clear h r R ho
  go_enter Tryz.func34, Tryz.ntmps34
  go_wp2
  go_quiet (first | (go_at_call 99; refine Calls.quiet_of_same (HW.out _)) | (go_at_call 98; refine Calls.quiet_of_same (HH.out _)))
  go_wp2
  go_ret
  exact ⟨rfl, _, rfl⟩

end Go.Proofs.YtjefgmeejhakbaaGreatDoor

/- The queue and its methods. -/
namespace Go.Proofs.YtjefgmeejhakbaaGreatDoor
open Go.RowKit
open Go.Sort (swp swp_left swp_right swp_other size_swp)

structure QAt (w : World) (Q : Nat) (v : Value) (d : Array Int) : Prop where
  blk : w.heap[Q]? = some (.cells #[v] 144 (0, 0))
  row : w.ownsRow 0 3 1 v d.size (intsV d.toList)
  ne : v.ownBlock ≠ some Q
def qOwn (Q : Nat) (v : Value) (b : Nat) : Prop := b = Q ∨ v.ownBlock = some b

section
variable {w w' : World} {Q : Nat} {v : Value} {d : Array Int}
theorem QAt.lt (h : QAt w Q v d) : Q < w.heap.size := (Array.getElem?_eq_some_iff.1 h.blk).1
theorem QAt.cell (h : QAt w Q v d) : w.cell? ⟨Q, 0, none⟩ = some v := (cell_of_row w Q 0 _ 144 (0, 0) h.blk).trans rfl
theorem QAt.free (h : QAt w Q v d) : w.frozen? ⟨Q, 0, none⟩ = false := by simp [World.frozen?, h.blk]
theorem QAt.same (h : QAt w Q v d) (hs : ∀ b, qOwn Q v b → w'.heap[b]? = w.heap[b]?) : QAt w' Q v d :=
  ⟨(hs Q (.inl rfl)).trans h.blk, owns_same h.row (fun g e => hs g (.inr e)), h.ne⟩
theorem QAt.own_lt (h : QAt w Q v d) {b : Nat} (hb : qOwn Q v b) : b < w.heap.size := by
  rcases hb with rfl | e
  · exact h.lt
  · exact (h.row.lt b e).2
theorem QAt.below (h : QAt w Q v d) (hB : Below w.heap.size w w') : QAt w' Q v d := h.same (fun b hb => hB.block b (h.own_lt hb))
theorem QAt.rowAt (h : QAt w Q v d) (hd : 0 < d.size) : ∃ g cap, v = .slice (some ⟨g, 0, none⟩) d.size cap ∧ g < w.heap.size ∧ (∀ j, w.frozen? ⟨g, j, none⟩ = false) ∧ ∀ j, j < d.size → w.cell? ⟨g, j, none⟩ = some (.int .i64 d[j]!) := by
  rcases h.row.2 with ⟨e, e0⟩ | ⟨g, cap, cur, e, hb, hg, _⟩
  · omega
  · refine ⟨g, cap, e, (Array.getElem?_eq_some_iff.1 hg).1, fun j => by simp [World.frozen?, hg], fun j hj => ?_⟩
    have := h.row.cells (g := g) (by rw [e]; rfl) j (.int .i64 d[j]!) (intsV_get (by simp [hj]))
    rwa [addr_add] at this
theorem QAt.form (h : QAt w Q v d) : ∃ ad cap, v = .slice ad d.size cap := row_form h.row
end

set_option maxRecDepth 10000 in
theorem mVal (name : String) (f : Nat) (hn : ((Tryz.prog.info? 148).bind (fun i => i.methods.find? (·.name == name))).map (fun m => (m.path, m.func)) = some (#[], some (f, false))) (Q : Nat) (v : Value) (w : World) (hc : w.cell? ⟨Q, 0, none⟩ = some v) :
    (method 464 148 (.pointer (some ⟨Q, 0, none⟩)) name).run Tryz.prog w = .ok (f, v) w := by
  have h2 : ∀ s w, (receiverAt 148 (.val (.pointer (some ⟨Q, 0, none⟩))) false (some s)).run Tryz.prog w = (loadVar 144 ⟨Q, 0, none⟩).run Tryz.prog w := fun s w => by kernel_rfl
  have h3 : ∀ w, (isAgg 144).run Tryz.prog w = .ok false w := fun w => by kernel_rfl
  have h4 : ∀ w, (loadVar 144 ⟨Q, 0, none⟩).run Tryz.prog w = (Go.load ⟨Q, 0, none⟩).run Tryz.prog w := fun w => by simp [loadVar, h3]
  obtain ⟨i, hi⟩ : ∃ i, Tryz.prog.info? 148 = some i := by
    cases h : Tryz.prog.info? 148 with
    | none => rw [h] at hn; simp at hn
    | some i => exact ⟨i, rfl⟩
  rw [hi] at hn
  simp only [Option.bind_some, Option.map_eq_some_iff, Prod.mk.injEq] at hn
  obtain ⟨m, hm, hp, hf⟩ := hn
  rw [show (464 : Nat) = 463 + 1 from rfl, method]
  simp [typeInfo, hi, hm, hp, hf, follow, h2, h4, hc]
set_option maxRecDepth 10000 in
theorem mPtr (name : String) (f : Nat) (hn : ((Tryz.prog.info? 148).bind (fun i => i.methods.find? (·.name == name))).map (fun m => (m.path, m.func)) = some (#[], some (f, true))) (Q : Nat) (w : World) :
    (method 464 148 (.pointer (some ⟨Q, 0, none⟩)) name).run Tryz.prog w = .ok (f, .pointer (some ⟨Q, 0, none⟩)) w := by
  have h2 : ∀ s w, (receiverAt 148 (.val (.pointer (some ⟨Q, 0, none⟩))) true (some s)).run Tryz.prog w = .ok (.pointer (some ⟨Q, 0, none⟩)) w := fun s w => by kernel_rfl
  obtain ⟨i, hi⟩ : ∃ i, Tryz.prog.info? 148 = some i := by
    cases h : Tryz.prog.info? 148 with
    | none => rw [h] at hn; simp at hn
    | some i => exact ⟨i, rfl⟩
  rw [hi] at hn
  simp only [Option.bind_some, Option.map_eq_some_iff, Prod.mk.injEq] at hn
  obtain ⟨m, hm, hp, hf⟩ := hn
  rw [show (464 : Nat) = 463 + 1 from rfl, method]
  simp [typeInfo, hi, hm, hp, hf, follow, h2]
theorem mLen {Q : Nat} {v : Value} {w : World} (hc : w.cell? ⟨Q, 0, none⟩ = some v) : (method 464 148 (.pointer (some ⟨Q, 0, none⟩)) "Len").run Tryz.prog w = .ok (268, v) w := mVal "Len" _ (by kernel_rfl) Q v w hc
theorem mLess {Q : Nat} {v : Value} {w : World} (hc : w.cell? ⟨Q, 0, none⟩ = some v) : (method 464 148 (.pointer (some ⟨Q, 0, none⟩)) "Less").run Tryz.prog w = .ok (269, v) w := mVal "Less" _ (by kernel_rfl) Q v w hc
theorem mSwap {Q : Nat} {v : Value} {w : World} (hc : w.cell? ⟨Q, 0, none⟩ = some v) : (method 464 148 (.pointer (some ⟨Q, 0, none⟩)) "Swap").run Tryz.prog w = .ok (270, v) w := mVal "Swap" _ (by kernel_rfl) Q v w hc
theorem mPush (Q : Nat) (w : World) : (method 464 148 (.pointer (some ⟨Q, 0, none⟩)) "Push").run Tryz.prog w = .ok (272, .pointer (some ⟨Q, 0, none⟩)) w := mPtr "Push" _ (by kernel_rfl) Q w
theorem mPop (Q : Nat) (w : World) : (method 464 148 (.pointer (some ⟨Q, 0, none⟩)) "Pop").run Tryz.prog w = .ok (271, .pointer (some ⟨Q, 0, none⟩)) w := mPtr "Pop" _ (by kernel_rfl) Q w

set_option maxHeartbeats 1000000 in
theorem qLen (ad : Option Addr) (n c : Nat) (w : World) : Calls Tryz.prog 268 #[.slice ad n c] w fun e w' => e = .returned (.int .i64 n) ∧ w' = w := by
  go_enter Tryz.func268, Tryz.ntmps268
  go_wp2
  go_ret
  exact ⟨rfl, rfl⟩
set_option maxHeartbeats 1000000 in
theorem qLess (g n c i j : Nat) (x y : Int) (w : World) (hi : i < n) (hj : j < n) (c1 : w.cell? ⟨g, i, none⟩ = some (.int .i64 x)) (c2 : w.cell? ⟨g, j, none⟩ = some (.int .i64 y)) :
    Calls Tryz.prog 269 #[.slice (some ⟨g, 0, none⟩) n c, .int .i64 i, .int .i64 j] w fun e w' => e = .returned (.bool (decide (x < y))) ∧ ∃ q, w' = w.drewN q := by
  have hi0 : (0 : Int) ≤ (i : Int) := by omega
  have hi1 : (i : Int) < (n : Int) := by omega
  have hj0 : (0 : Int) ≤ (j : Int) := by omega
  have hj1 : (j : Int) < (n : Int) := by omega
  go_enter Tryz.func269, Tryz.ntmps269
  go_wp2
  go_quiet (fail)
  go_wp2
  go_ret
  exact ⟨rfl, _, rfl⟩

set_option maxHeartbeats 2000000 in
theorem qSwap (g n c i j : Nat) (x y : Int) (w : World) (hi : i < n) (hj : j < n) (c1 : w.cell? ⟨g, i, none⟩ = some (.int .i64 x)) (c2 : w.cell? ⟨g, j, none⟩ = some (.int .i64 y)) (f1 : w.frozen? ⟨g, i, none⟩ = false) (f2 : w.frozen? ⟨g, j, none⟩ = false) :
    Calls Tryz.prog 270 #[.slice (some ⟨g, 0, none⟩) n c, .int .i64 i, .int .i64 j] w fun e w' => e = .returned (.tuple #[]) ∧ ∃ q, w' = ((w.setCell ⟨g, i, none⟩ (.int .i64 y)).setCell ⟨g, j, none⟩ (.int .i64 x)).drewN q := by
  obtain ⟨v', hy'⟩ := cell?_setCell_some (w := w) (p := ⟨g, i, none⟩) (x := .int .i64 y) (q := ⟨g, j, none⟩) c2
  have hi0 : (0 : Int) ≤ (i : Int) := by omega
  have hi1 : (i : Int) < (n : Int) := by omega
  have hj0 : (0 : Int) ≤ (j : Int) := by omega
  have hj1 : (j : Int) < (n : Int) := by omega
  go_enter Tryz.func270, Tryz.ntmps270
  go_wp2
  go_region
  all_goals (try go_wp2)
  all_goals go_end0
  all_goals exact ⟨rfl, 1, rfl⟩

theorem owns_setCell {w : World} {base : Nat} {e : TypeId} {v : Value} {n g : Nat} {xs : List Value} (h : w.ownsRow base e 1 v n xs) (hv : v.ownBlock = some g) (j : Nat) (u : Value) : (w.setCell ⟨g, j, none⟩ u).ownsRow base e 1 v n (xs.set j u) := by
  refine ⟨by rw [List.length_set]; exact h.1, ?_⟩
  rcases h.2 with ⟨e1, _⟩ | ⟨g', cap, cur, e1, hb, hg, h1, h2, h3, h4⟩
  · rw [e1] at hv; cases hv
  · rw [e1] at hv; cases hv
    refine .inr ⟨g', cap, _, e1, hb, heap_setCell_same w g' j cur e u hg, h1, h2, by simpa using h3, ?_⟩
    rw [← h4]
    simp [List.take_set]
theorem QAt.swapped {w : World} {Q : Nat} {v : Value} {d : Array Int} (h : QAt w Q v d) {g : Nat} (hg : v.ownBlock = some g) {i j : Nat} (q : Nat) :
    QAt (((w.setCell ⟨g, i, none⟩ (.int .i64 d[j]!)).setCell ⟨g, j, none⟩ (.int .i64 d[i]!)).drewN q) Q v (swp d i j) ∧ KeptO (qOwn Q v) (qOwn Q v) w (((w.setCell ⟨g, i, none⟩ (.int .i64 d[j]!)).setCell ⟨g, j, none⟩ (.int .i64 d[i]!)).drewN q) := by
  have hk : ∀ b, b ≠ g → ((w.setCell ⟨g, i, none⟩ (.int .i64 d[j]!)).setCell ⟨g, j, none⟩ (.int .i64 d[i]!)).heap[b]? = w.heap[b]? := fun b hb => by
    rw [heap_setCell_other _ ⟨g, j, none⟩ b _ hb, heap_setCell_other _ ⟨g, i, none⟩ b _ hb]
  have hQg : Q ≠ g := fun e => h.ne (by rw [hg, e])
  have hK : KeptO (qOwn Q v) (qOwn Q v) w ((w.setCell ⟨g, i, none⟩ (.int .i64 d[j]!)).setCell ⟨g, j, none⟩ (.int .i64 d[i]!)) := ⟨rfl, rfl, rfl, by simp, fun b _ hn => hk b (fun e => hn (.inr (by rw [hg, e]))), fun _ h => .inl h⟩
  suffices hs : QAt ((w.setCell ⟨g, i, none⟩ (.int .i64 d[j]!)).setCell ⟨g, j, none⟩ (.int .i64 d[i]!)) Q v (swp d i j) from ⟨hs.below (below_drewN (Below.refl _ _) q), hK.drewN q⟩
  refine ⟨(hk Q hQg).trans h.blk, ?_, h.ne⟩
  have h1 := owns_setCell (owns_setCell h.row hg i (.int .i64 d[j]!)) hg j (.int .i64 d[i]!)
  have e2 : (((intsV d.toList).set i (.int .i64 d[j]!)).set j (.int .i64 d[i]!)) = intsV (swp d i j).toList := by
    rw [swp_list]; simp [intsV, List.map_set]
  rw [e2] at h1
  rw [size_swp]
  exact h1

theorem QAt.put {w w1 : World} {Q : Nat} {v u : Value} {d d' : Array Int} (h : QAt w Q v d) (hg : w.grownBy w1 v.ownBlock) (ho : w1.ownsRow 0 3 1 u d'.size (intsV d'.toList)) (hu : ∀ g, u.ownBlock = some g → v.ownBlock = some g ∨ w.heap.size ≤ g) :
    QAt (w1.setCell ⟨Q, 0, none⟩ u) Q u d' ∧ KeptO (qOwn Q v) (qOwn Q u) w (w1.setCell ⟨Q, 0, none⟩ u) := by
  have hQ := h.lt
  have hb : w1.heap[Q]? = some (.cells #[v] 144 (0, 0)) := (hg.block Q hQ (fun e => h.ne e.symm)).trans h.blk
  have hne : u.ownBlock ≠ some Q := fun e => by
    rcases hu Q e with e | e
    · exact h.ne e
    · omega
  refine ⟨⟨(heap_setCell_same w1 Q 0 _ 144 u hb).trans rfl, owns_same ho (fun g e => heap_setCell_other w1 ⟨Q, 0, none⟩ g u (fun e2 => hne (by rw [e, e2]))), hne⟩, ?_⟩
  refine ⟨hg.os, hg.tape, hg.output, by simpa using hg.size, fun b hbl hn => (heap_setCell_other w1 ⟨Q, 0, none⟩ b u (fun e => hn (.inl e))).trans (hg.block b hbl (fun e => hn (.inr e.symm))), fun g hg => ?_⟩
  rcases hg with e | e
  · exact .inl (.inl e)
  · rcases hu g e with e | e
    · exact .inl (.inr e)
    · exact .inr e

set_option maxRecDepth 100000 in
set_option maxHeartbeats 2000000 in
theorem qPush (Q : Nat) (v : Value) (d : Array Int) (x : Int) (w : World) (h : QAt w Q v d) (hd : d.size ≤ 100000) :
    Calls Tryz.prog 272 #[.pointer (some ⟨Q, 0, none⟩), .iface 3 (.int .i64 x)] w fun e w' => e = .returned (.tuple #[]) ∧ ∃ v', QAt w' Q v' (d.push x) ∧ KeptO (qOwn Q v) (qOwn Q v') w w' := by
  obtain ⟨i0, hi0, hz0, hz1, hz2⟩ := info_parts info3
  have c0 := h.cell
  have hta : ∀ xT w, (Instr.typeAssert (.iface 3 (.int .i64 x)) xT 3 true).run Tryz.prog w = .ok (.tuple #[.int .i64 x, .bool true]) w := fun _ _ => by kernel_rfl
  have hA : Below w.heap.size w (w.alloc (.cells #[.int .i64 x] 3)) := (Below.refl _ _).alloc (Nat.le_refl _) _
  have hA2 := hA.size
  have HH := hid (h.below hA)
  have HK := hid (KeptO.of_below (o := qOwn Q v) hA)
  clear h hA
  go_enter Tryz.func272, Tryz.ntmps272
  go_wp2_with (at_builtin; refine wpList_append_lies _ rfl _ _ _ rfl 0 3 i0 _ 1 8 Tryz.underlying144 hi0 hz0 hz1 hz2 rfl (by omega) v _ _ rfl HH.out.row ⟨w.heap.size, 0, none⟩ 1 1 [.int .i64 x] rfl rfl (World.news_of_block (cs := #[.int .i64 x]) (t := 3) (fr := (0, 0)) (heap_alloc_new w _)) (by simp [Value.oneCell']) (by omega) (by unfold maxLen; omega) (by omega) (by simp) (w.heap.size + 1) (by simp) ?_; intro g cap w1 ho hgrow hat hlt; have c1 := (World.cell?_of_block (a := ⟨Q, 0, none⟩) (hgrow.block Q HH.out.lt (fun e => HH.out.ne e.symm))).trans HH.out.cell; have f1 := (World.frozen?_of_block (a := ⟨Q, 0, none⟩) (hgrow.block Q HH.out.lt (fun e => HH.out.ne e.symm))).trans HH.out.free)
  refine bodyPost_end (results_none rfl _ _ _) rfl ?_
  have hp := HH.out.put (d' := d.push x) hgrow (by rw [Array.size_push, Array.toList_push, intsV_append]; exact ho) (fun g' e => by
    cases e
    rcases hat with e | e
    · exact .inl e
    · exact .inr (by simp [e]))
  exact ⟨rfl, _, hp.1, HK.out.trans hp.2⟩

end Go.Proofs.YtjefgmeejhakbaaGreatDoor
