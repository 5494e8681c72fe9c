/- (*interleafref.Table).Ask, whole. -/
import Derived.Test.YtjefgmeejhakbaaDoorLrAskB
namespace Go.Proofs.YtjefgmeejhakbaaDoor
open Go.RowKit

set_option maxRecDepth 100000 in
set_option maxHeartbeats 4000000 in
theorem rask_range (r : Nat) (tx key : Int) (w : World) (hb : ¬ (0 ≤ key ∧ key < 10 ∧ 1 ≤ tx)) :
    Calls Tryd.prog 27 #[.pointer (some ⟨r, 0, none⟩), .int .i64 tx, .int .i64 key] w fun e w' => e = .returned (.tuple #[.bool false, .int .i64 2]) ∧ w' = w := by
  cases hin : inB key 0 9 with
  | false =>
    clear hb
    go_enter Tryd.func27, Tryd.ntmps27
    go_wp2_with (go_at_call 48; refine (in_any _ _ _ _).mono ?_; rintro e w' ⟨rfl, rfl⟩)
    go_ret2
    exact ⟨rfl, rfl⟩
  | true =>
    have hk : 0 ≤ key ∧ key ≤ 9 := by simpa [inB] using hin
    have h3 : tx < 1 := by omega
    clear hb
    go_enter Tryd.func27, Tryd.ntmps27
    go_wp2_with (go_at_call 48; refine (in_any _ _ _ _).mono ?_; rintro e w' ⟨rfl, rfl⟩)
    go_ret2
    exact ⟨rfl, rfl⟩

set_option maxRecDepth 100000 in
set_option maxHeartbeats 4000000 in
theorem rask_state (base r : Nat) (vs : List Value) (T : Tab) (tx : Int) (j : Nat) (w : World) (h : RTab w base r vs T) (hT : Tidy0 T) (hj : j < 10) (htx : 1 ≤ tx) (hlen : ∀ k, (T k).length ≤ 100000) (hw : 0 ≤ waitsP T tx) :
    Calls Tryd.prog 27 #[.pointer (some ⟨r, 0, none⟩), .int .i64 tx, .int .i64 (j : Int)] w fun e w' => e = .returned (.tuple #[.bool false, .int .i64 6]) ∧ w' = w := by
  have hin : inB (j : Int) 0 9 = true := by simp [inB]; omega
  have hcw := rwaits_any base r vs T tx w h hT (fun k => by have := hlen k; omega)
  obtain ⟨k, hk⟩ : ∃ k, waitsP T tx = k := ⟨_, rfl⟩
  rw [hk] at hcw hw
  have HCW := hid hcw
  have g3 : ¬ tx < 1 := by omega
  clear hk hcw h hlen
  go_enter Tryd.func27, Tryd.ntmps27
  go_wp2_with (first
    | (go_at_call 48; refine (in_any _ _ _ _).mono ?_; rintro e w' ⟨rfl, rfl⟩)
    | (go_at_call 32; refine HCW.out.mono ?_; rintro e w' ⟨rfl, rfl⟩))
  go_ret2
  exact ⟨rfl, rfl⟩

set_option maxRecDepth 100000 in
set_option maxHeartbeats 4000000 in
theorem rask_own (base r : Nat) (vs : List Value) (T : Tab) (tx : Int) (j : Nat) (w : World) (h : RTab w base r vs T) (hT : Tidy0 T) (hj : j < 10) (htx : 1 ≤ tx) (hlen : ∀ k, (T k).length ≤ 100000) (hw : waitsP T tx = -1) (hh : holdsP T j = tx) :
    Calls Tryd.prog 27 #[.pointer (some ⟨r, 0, none⟩), .int .i64 tx, .int .i64 (j : Int)] w fun e w' => e = .returned (.tuple #[.bool true, .int .i64 0]) ∧ w' = w := by
  have hin : inB (j : Int) 0 9 = true := by simp [inB]; omega
  have hcw := rwaits_any base r vs T tx w h hT (fun k => by have := hlen k; omega)
  have hch := rholds_any base r vs T (j : Int) w h hT
  rw [hw] at hcw
  rw [hh] at hch
  have HCW := hid hcw
  have HCH := hid hch
  have g3 : ¬ tx < 1 := by omega
  have e0 : (tx == tx) = true := by simp
  clear hcw hch h hlen hw hh
  go_enter Tryd.func27, Tryd.ntmps27
  go_wp2_with (first
    | (go_at_call 48; refine (in_any _ _ _ _).mono ?_; rintro e w' ⟨rfl, rfl⟩)
    | (go_at_call 32; refine HCW.out.mono ?_; rintro e w' ⟨rfl, rfl⟩)
    | (go_at_call 34; refine HCH.out.mono ?_; rintro e w' ⟨rfl, rfl⟩))
  go_ret2
  exact ⟨rfl, rfl⟩

theorem rask_any (base r : Nat) (vs : List Value) (T : Tab) (q : Int → Nat) (tx key : Int) (w : World) (h : RTab w base r vs T) (hT : Tidy0 T) (hq : Ranked T q) (hbase : base ≤ w.heap.size) (hlen : ∀ k, (T k).length ≤ 100000) :
    Calls Tryd.prog 27 #[.pointer (some ⟨r, 0, none⟩), .int .i64 tx, .int .i64 key] w (RAskPost base r vs (askP T q tx key) w) := by
  unfold askP
  by_cases hb : 0 ≤ key ∧ key < 10 ∧ 1 ≤ tx
  · rw [if_neg (by simpa using hb)]
    obtain ⟨h1, h2, h3⟩ := hb
    obtain ⟨j, rfl⟩ := Int.eq_ofNat_of_zero_le h1
    have hj : j < 10 := by omega
    by_cases hw : 0 ≤ waitsP T tx
    · rw [if_pos hw]
      refine (rask_state base r vs T tx j w h hT hj h3 hlen hw).mono ?_
      rintro e w' ⟨rfl, rfl⟩
      exact ⟨rfl, vs, h, KeptR.refl _ _ _⟩
    · rw [if_neg hw]
      have hw1 : waitsP T tx = -1 := by rcases waits_cases T tx with e | e <;> omega
      by_cases hh : holdsP T j = tx
      · rw [if_pos hh]
        refine (rask_own base r vs T tx j w h hT hj h3 hlen hw1 hh).mono ?_
        rintro e w' ⟨rfl, rfl⟩
        exact ⟨rfl, vs, h, KeptR.refl _ _ _⟩
      · rw [if_neg hh]
        by_cases hn : T j = []
        · rw [if_pos hn]
          exact rask_new base r vs T tx j w h hT hj h3 hbase hlen hw1 hn
        · rw [if_neg hn]
          have hm := rask_more base r vs T q tx j w h hT hq hj h3 hbase hlen hw1 hn hh
          by_cases hc : reachP T tx (q (holdsP T j) + 1) (holdsP T j) = true
          · rw [if_pos hc]
            rw [hc] at hm
            exact hm
          · rw [if_neg hc]
            rw [show reachP T tx (q (holdsP T j) + 1) (holdsP T j) = false by simpa using hc] at hm
            exact hm
  · rw [if_pos (by simpa using hb)]
    refine (rask_range r tx key w hb).mono ?_
    rintro e w' ⟨rfl, rfl⟩
    exact ⟨rfl, vs, h, KeptR.refl _ _ _⟩

end Go.Proofs.YtjefgmeejhakbaaDoor
