/- engine: find, open, sees, isNewer, wasOver. -/
import Derived.Test.YtjefgmeejhakbaaGreatDoorMgAB
import Derived.BigQuiet
namespace Go.Proofs.YtjefgmeejhakbaaGreatDoor
open Go.RowKit

variable {w : World} {L : EnL} {E : Eng}
set_option maxRecDepth 100000 in
set_option maxHeartbeats 1000000 in
theorem find_ok (h : EnAt w L E) {i : Nat} {l : TxL} (hl : L.txs[i]? = some l) :
    Calls Tryz.prog 95 #[.pointer (some ⟨L.s, 0, none⟩), .int .i64 ((i : Int) + 1)] w fun e w' => e = .returned (.tuple #[.pointer (some ⟨l.b, 0, none⟩), .nilIface]) ∧ w' = w := by
  have c14 := h.c14
  have hi := (List.getElem?_eq_some_iff.1 hl).1
  have hle := h.le
  have hlen := h.len
  rcases row_slice h.all with ⟨_, e⟩ | ⟨g, cap, e, hg, hc⟩
  · omega
  · have hcell : w.cell? ⟨g, i, none⟩ = some (.pointer (some ⟨l.b, 0, none⟩)) := hc i _ (show (L.bs.map ptrV)[i]? = some (ptrV l.b) from by rw [List.getElem?_map, bs_get hl]; rfl)
    rw [e] at c14
    obtain ⟨m, hm⟩ : ∃ m, L.txs.length = m := ⟨_, rfl⟩
    rw [hm] at c14 hi hlen
    clear h hl hc e hm
    have g1 : ¬ (i : Int) + 1 < 1 := by omega
    have g2 : decide ((m : Int) < (i : Int) + 1) = false := by simp; omega
    have g3 : (0 : Int) ≤ (i : Int) := by omega
    have g4 : (i : Int) < (m : Int) := by omega
    have g5 : (i : Int) + 1 - 1 = (i : Int) := by omega
    have g6 : IntKind.i64.wrap (i : Int) = (i : Int) := IntWalk.i64_in _ (by omega)
    go_enter Tryz.func95, Tryz.ntmps95
    go_wp2
    go_ret2
    exact ⟨rfl, rfl⟩
set_option maxRecDepth 100000 in
set_option maxHeartbeats 1000000 in
theorem find_err (h : EnAt w L E) {n : Int} (hn : n < 1 ∨ (E.txs.length : Int) < n) :
    Calls Tryz.prog 95 #[.pointer (some ⟨L.s, 0, none⟩), .int .i64 n] w fun e w' => e = .returned (.tuple #[.pointer none, errV 7]) ∧ w' = w := by
  have c14 := h.c14
  have hle := h.le
  have hlen := h.len
  obtain ⟨ad, cap, e⟩ := row_form h.all
  rw [e] at c14
  obtain ⟨m, hm⟩ : ∃ m, L.txs.length = m := ⟨_, rfl⟩
  rw [hm] at c14 hlen
  rw [← hlen] at hn hle
  clear h e hm hlen
  by_cases g1 : n < 1
  · clear hn
    go_enter Tryz.func95, Tryz.ntmps95
    go_wp2
    go_ret2
    exact ⟨rfl, rfl⟩
  · have g2 : decide ((m : Int) < n) = true := by simp; omega
    clear hn
    go_enter Tryz.func95, Tryz.ntmps95
    go_wp2
    go_ret2
    exact ⟨rfl, rfl⟩

set_option maxRecDepth 100000 in
set_option maxHeartbeats 1000000 in
theorem open_ok (h : EnAt w L E) {i : Nat} {l : TxL} {t : Tx} (hl : L.txs[i]? = some l) (ht : E.txs[i]? = some t) (hs : t.state = 0) :
    Calls Tryz.prog 102 #[.pointer (some ⟨L.s, 0, none⟩), .int .i64 ((i : Int) + 1)] w fun e w' => e = .returned (.tuple #[.pointer (some ⟨l.b, 0, none⟩), .nilIface]) ∧ w' = w := by
  have c3 := (h.txs i l t hl ht).c3
  rw [hs] at c3
  have HC := hid (find_ok h hl)
  clear h hl ht hs
  go_enter Tryz.func102, Tryz.ntmps102
  go_wp2_with fail
  refine HC.out.mono ?_
  rintro e w1 ⟨rfl, rfl⟩
  go_wp2
  go_ret2
  exact ⟨rfl, rfl⟩
set_option maxRecDepth 100000 in
set_option maxHeartbeats 1000000 in
theorem open_state (h : EnAt w L E) {i : Nat} {l : TxL} {t : Tx} (hl : L.txs[i]? = some l) (ht : E.txs[i]? = some t) (hs : t.state ≠ 0) :
    Calls Tryz.prog 102 #[.pointer (some ⟨L.s, 0, none⟩), .int .i64 ((i : Int) + 1)] w fun e w' => e = .returned (.tuple #[.pointer none, errV 6]) ∧ w' = w := by
  have c3 := (h.txs i l t hl ht).c3
  obtain ⟨st, hst⟩ : ∃ st, t.state = st := ⟨_, rfl⟩
  rw [hst] at c3 hs
  have HC := hid (find_ok h hl)
  clear h hl ht hst
  have g1 : (st != 0) = true := by simpa using hs
  clear hs
  go_enter Tryz.func102, Tryz.ntmps102
  go_wp2_with fail
  refine HC.out.mono ?_
  rintro e w1 ⟨rfl, rfl⟩
  go_wp2
  go_ret2
  exact ⟨rfl, rfl⟩
set_option maxRecDepth 100000 in
set_option maxHeartbeats 1000000 in
theorem open_err (h : EnAt w L E) {n : Int} (hn : n < 1 ∨ (E.txs.length : Int) < n) :
    Calls Tryz.prog 102 #[.pointer (some ⟨L.s, 0, none⟩), .int .i64 n] w fun e w' => e = .returned (.tuple #[.pointer none, errV 7]) ∧ w' = w := by
  have HC := hid (find_err h hn)
  clear h hn
  go_enter Tryz.func102, Tryz.ntmps102
  go_wp2_with fail
  refine HC.out.mono ?_
  rintro e w1 ⟨rfl, rfl⟩
  rw [show errV 7 = Value.iface 24 (.int .i64 7) from rfl]
  go_wp2
  go_ret2
  exact ⟨rfl, rfl⟩

set_option maxRecDepth 100000 in
set_option maxHeartbeats 1000000 in
theorem sees_any (h : EnAt w L E) {i : Nat} {l : TxL} {t : Tx} (hl : L.txs[i]? = some l) (ht : E.txs[i]? = some t) :
    Calls Tryz.prog 112 #[.pointer (some ⟨L.s, 0, none⟩), .pointer (some ⟨l.b, 0, none⟩)] w fun e w' => e = .returned (.int .i64 (seesP E t)) ∧ w' = w := by
  have hA := h.txs i l t hl ht
  have c1 := hA.c1
  have c2 := hA.c2
  have HC := hid (last_any _ _ _ _ _ w h.sto)
  unfold seesP
  obtain ⟨lv, hlv⟩ : ∃ lv, t.level = lv := ⟨_, rfl⟩
  rw [hlv] at c1 ⊢
  clear h hl ht hA hlv
  by_cases h0 : lv = 0
  · subst h0
    rw [if_pos rfl]
    go_enter Tryz.func112, Tryz.ntmps112
    go_wp2_with fail
    refine HC.out.mono ?_
    rintro e w1 ⟨rfl, rfl⟩
    go_wp2
    go_ret
    exact ⟨rfl, rfl⟩
  · rw [if_neg h0]
    have g1 : (lv == 0) = false := by simpa using h0
    clear h0 HC
    go_enter Tryz.func112, Tryz.ntmps112
    go_wp2
    go_ret
    exact ⟨rfl, rfl⟩

theorem newer_len (E : Eng) (k : Nat) (t : Int) (l : List (Int × Int)) (hl : E.ks[k]? = some l) : newerP E (k : Int) t = (l.drop (lat l t + 1).toNat).map (·.1) := by simp [newerP, hl]
set_option maxRecDepth 100000 in
set_option maxHeartbeats 1000000 in
theorem isNewer_any (h : EnAt w L E) {key : Int} (hk : 0 ≤ key ∧ key < 10) (t : Int) (hks : ∀ l ∈ E.ks, l.length ≤ 100000) :
    Calls Tryz.prog 212 #[.pointer (some ⟨L.s, 0, none⟩), .int .i64 key, .int .i64 t] w fun e w' => e = .returned (.bool (decide (newerP E key t ≠ []))) ∧ Below w.heap.size w w' := by
  obtain ⟨k, rfl⟩ : ∃ k : Nat, key = k := ⟨key.toNat, by omega⟩
  have hk2 : k < E.ks.length := by have := h.sto.lk; omega
  obtain ⟨l, hl⟩ : ∃ l, E.ks[k]? = some l := ⟨E.ks[k], List.getElem?_eq_getElem hk2⟩
  have hll := hks l (List.mem_of_getElem? hl)
  have HC := hid (newer_any _ _ k _ t _ _ l w h.sto hl (by omega))
  rw [newer_len E k t l hl]
  have hlen : ((l.drop (lat l t + 1).toNat).map (·.1)).length = (l.drop (lat l t + 1).toNat).length := by simp
  have hle : (l.drop (lat l t + 1).toNat).length ≤ l.length := by simp
  have hiff : decide ((l.drop (lat l t + 1).toNat).map (·.1) ≠ []) = decide (0 < (l.drop (lat l t + 1).toNat).length) := by
    rw [decide_eq_decide, List.length_pos_iff]
    simp
  rw [hiff]
  obtain ⟨m, hm⟩ : ∃ m, (l.drop (lat l t + 1).toNat).length = m := ⟨_, rfl⟩
  rw [hm] at HC hle ⊢
  clear hlen hiff h hl hks hk hk2 hm
  go_enter Tryz.func212, Tryz.ntmps212
  go_wp2_with fail
  refine HC.out.mono ?_
  rintro e w1 ⟨tv, rfl, ho, hB⟩
  obtain ⟨ad, cap, rfl⟩ := row_form ho
  have HB := hid hB
  clear ho hB HC
  go_wp2
  go_ret
  exact ⟨by simp, HB.out⟩

set_option maxRecDepth 100000 in
set_option maxHeartbeats 1000000 in
theorem wasOver_any {b1 b2 : Nat} {st bae n : Int} (c3 : w.cell? ⟨b1, 3, none⟩ = some (.int .i64 st)) (c5 : w.cell? ⟨b1, 5, none⟩ = some (.int .i64 bae)) (d0 : w.cell? ⟨b2, 0, none⟩ = some (.int .i64 n)) :
    Calls Tryz.prog 241 #[.pointer (some ⟨b1, 0, none⟩), .pointer (some ⟨b2, 0, none⟩)] w fun e w' => e = .returned (.bool (!liveB st && decide (bae < n))) ∧ ∃ q, w' = w.drewN q := by
  have HC := hid (fun q => lives_any b1 st (w.drewN q) (by rw [World.cell?_drewN]; exact c3))
  cases hb : liveB st with
  | true =>
    rw [hb] at HC
    clear hb
    go_enter Tryz.func241, Tryz.ntmps241
    go_wp2
    go_quiet (first | (go_at_call 100; refine Calls.quiet_of_same (HC.out _)))
    go_wp2
    go_ret
    exact ⟨rfl, _, rfl⟩
  | false =>
    rw [hb] at HC
    clear hb
    go_enter Tryz.func241, Tryz.ntmps241
    go_wp2
    go_quiet (first | (go_at_call 100; refine Calls.quiet_of_same (HC.out _)))
    go_wp2
    go_ret
    exact ⟨rfl, _, rfl⟩

end Go.Proofs.YtjefgmeejhakbaaGreatDoor
