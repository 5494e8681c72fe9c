/- (*Table).Ask. -/
import Derived.Test.YtjefgmeejhakbaaDoorLkLeave
namespace Go.Proofs.YtjefgmeejhakbaaDoor
open Go.RowKit

theorem waits_mem {T T' : Tab} {x : Int} (h : ∀ k, x ∈ (T k).tail ↔ x ∈ (T' k).tail) : waitsP T x = waitsP T' x := by
  unfold waitsP
  have : (fun k => decide (x ∈ (T k).tail)) = fun k => decide (x ∈ (T' k).tail) := by funext k; exact decide_eq_decide.2 (h k)
  rw [this]

/-- The table at block s, as lists. -/
def TabAt (w : World) (s N : Nat) (M : LkM) (T : Tab) : Prop := ∃ h wa ln, Raw w s N M h wa ln ∧ Rep T h wa ln
theorem TabAt.below {w w' : World} {s N : Nat} {M : LkM} {T : Tab} (h : TabAt w s N M T) (hB : Below w.heap.size w w') : TabAt w' s N M T := by
  obtain ⟨a, b, c, r, R⟩ := h
  exact ⟨a, b, c, r.below hB, R⟩
theorem TabAt.same {w w' : World} {s N : Nat} {M : LkM} {T : Tab} (h : TabAt w s N M T) (hs : ∀ b, M.own s b → w'.heap[b]? = w.heap[b]?) : TabAt w' s N M T := by
  obtain ⟨a, b, c, r, R⟩ := h
  exact ⟨a, b, c, r.same hs, R⟩
theorem TabAt.mono {w : World} {s N N' : Nat} {M : LkM} {T : Tab} (h : TabAt w s N M T) (hN : N ≤ N') : TabAt w s N' M T := by
  obtain ⟨a, b, c, r, R⟩ := h
  exact ⟨a, b, c, r.mono hN, R⟩
theorem TabAt.own_lt {w : World} {s N : Nat} {M : LkM} {T : Tab} (h : TabAt w s N M T) {b : Nat} (hb : M.own s b) : b < w.heap.size := by
  obtain ⟨_, _, _, r, _⟩ := h
  exact r.own_lt hb
theorem TabAt.len {w : World} {s N : Nat} {M : LkM} {T : Tab} (h : TabAt w s N M T) (k : Int) : (T k).tail.length ≤ N := by
  obtain ⟨_, _, _, r, R⟩ := h
  have := r.len k
  rwa [R.ln k] at this
theorem Rep.nil : Rep (fun _ => []) (fun _ => none) (fun _ => none) (fun _ => []) := ⟨fun _ => rfl, (fun x => by
  have : waitsP (fun _ => []) x = -1 := (waits_none_iff Good.nil.tidy).2 (by simp)
  rw [this]; exact ⟨rfl, by simp⟩), fun _ => rfl⟩
theorem TabAt.zero (w : World) : TabAt (w.alloc (.cells #[.map none, .map none, .map none] 71)) w.heap.size 0 noM (fun _ => []) := ⟨_, _, _, Raw.zero w, Rep.nil⟩

section
variable {T : Tab} {h wa : Int → Option Int} {ln : Int → List Int}
theorem Rep.hold (R : Rep T h wa ln) {k tx : Int} (hk : T k = []) : Rep (updT T k [tx]) (updT h k (some tx)) wa ln := by
  have ht : ∀ j, (updT T k [tx] j).tail = (T j).tail := by
    intro j
    by_cases e : j = k
    · subst e; rw [updT_same, hk]; rfl
    · rw [updT_other _ _ e]
  refine ⟨fun j => ?_, fun x => ?_, fun j => ?_⟩
  · by_cases e : j = k
    · subst e; rw [updT_same, updT_same]; rfl
    · rw [updT_other _ _ e, updT_other _ _ e]; exact R.h j
  · rw [waits_mem (T := updT T k [tx]) (T' := T) (fun j => by rw [ht j])]; exact R.wa x
  · rw [ht j]; exact R.ln j
theorem Rep.wait (R : Rep T h wa ln) {k tx : Int} (hk : T k ≠ []) (hk0 : 0 ≤ k) (hg : Tidy0 (updT T k (T k ++ [tx]))) : Rep (updT T k (T k ++ [tx])) h (updT wa tx (some k)) (updT ln k (ln k ++ [tx])) := by
  obtain ⟨a, l, hal⟩ : ∃ a l, T k = a :: l := by
    cases hT : T k with
    | nil => exact (hk hT).elim
    | cons a l => exact ⟨a, l, rfl⟩
  have ht : (T k ++ [tx]).tail = (T k).tail ++ [tx] := by rw [hal]; rfl
  refine ⟨fun j => ?_, fun x => ?_, fun j => ?_⟩
  · by_cases e : j = k
    · subst e; rw [updT_same, R.h j, hal]; rfl
    · rw [updT_other _ _ e]; exact R.h j
  · by_cases e : x = tx
    · subst e
      have : waitsP (updT T k (T k ++ [x])) x = k := waits_of_mem hg (by rw [updT_same, ht]; simp)
      rw [this, updT_same]
      refine ⟨rfl, ?_⟩
      constructor
      · intro h; cases h
      · intro h; omega
    · rw [updT_other _ _ e, waits_mem (T := updT T k (T k ++ [tx])) (T' := T) (fun j => ?_)]
      · exact R.wa x
      · by_cases ej : j = k
        · subst ej; rw [updT_same, ht]; simp [e]
        · rw [updT_other _ _ ej]
  · by_cases e : j = k
    · subst e; rw [updT_same, updT_same, ht, R.ln j]
    · rw [updT_other _ _ e, updT_other _ _ e]; exact R.ln j
end

/-- An error's value by its number. -/
def errV (c : Int) : Value := if c = 0 then .nilIface else .iface 38 (.int .i64 c)

/-- What Ask leaves. -/
def AskPost (s N : Nat) (M : LkM) (p : Bool × Int × Tab) (w : World) (e : Ending) (w' : World) : Prop :=
  e = .returned (.tuple #[.bool p.1, errV p.2.1]) ∧ ∃ M', TabAt w' s (N + 2) M' p.2.2 ∧ KeptO (M.own s) (M'.own s) w w'

section
variable {w : World} {s N : Nat} {M : LkM} {T : Tab}
theorem askPost_same {c : Int} {b : Bool} {ev : Value} (h : TabAt w s N M T) (he : ev = errV c) : AskPost s N M (b, c, T) w (.returned (.tuple #[.bool b, ev])) w :=
  ⟨by rw [he], M, h.mono (by omega), KeptO.refl _ _⟩
end

set_option maxRecDepth 100000 in
set_option maxHeartbeats 4000000 in
theorem ask_range (s : Nat) (tx key : Int) (w : World) (hb : ¬ (0 ≤ key ∧ key < 10 ∧ 1 ≤ tx)) :
    Calls Tryd.prog 28 #[.pointer (some ⟨s, 0, none⟩), .int .i64 tx, .int .i64 key] w fun e w' => e = .returned (.tuple #[.bool false, .iface 38 (.int .i64 2)]) ∧ w' = w := by
  by_cases h1 : key < 0
  · clear hb
    go_enter Tryd.func28, Tryd.ntmps28
    go_wp2
    go_ret2
    exact ⟨rfl, rfl⟩
  · by_cases h2 : 10 ≤ key
    · clear hb
      go_enter Tryd.func28, Tryd.ntmps28
      go_wp2
      go_ret2
      exact ⟨rfl, rfl⟩
    · have h3 : tx < 1 := by omega
      clear hb
      go_enter Tryd.func28, Tryd.ntmps28
      go_wp2
      go_ret2
      exact ⟨rfl, rfl⟩

set_option maxRecDepth 100000 in
set_option maxHeartbeats 4000000 in
theorem ask_any (s N : Nat) (M : LkM) (T : Tab) (q : Int → Nat) (tx key : Int) (w : World) (hT : TabAt w s N M T) (hG : Good T) (hq : Ranked T q) (hx : I64 tx) (hky : I64 key) (hN : N ≤ 100000) :
    Calls Tryd.prog 28 #[.pointer (some ⟨s, 0, none⟩), .int .i64 tx, .int .i64 key] w (AskPost s N M (askP T q tx key) w) := by
  have hG2 := hG.ask hq tx key (by unfold I64 at hx; omega)
  unfold askP at hG2 ⊢
  by_cases hb : 0 ≤ key ∧ key < 10 ∧ 1 ≤ tx
  · rw [if_neg (by simpa using hb)] at hG2 ⊢
    obtain ⟨h1, h2, h3⟩ := hb
    have g1 : ¬ key < 0 := by omega
    have g2 : ¬ 10 ≤ key := by omega
    have g3 : ¬ tx < 1 := by omega
    have HT := hid hT
    obtain ⟨h, wa, ln, r, R⟩ := hT
    have HR := hid r
    have HP := hid R
    have HG := hid hG
    have HQ := hid hq
    clear r R hG hq
    have hwc := waits_cases T tx
    have hw64 := waits_i64 T tx
    have hh64 := holds_i64 HG.out.tidy key
    obtain ⟨k0, hk0⟩ : ∃ k0, waitsP T tx = k0 := ⟨_, rfl⟩
    obtain ⟨y, hy⟩ : ∃ y, holdsP T key = y := ⟨_, rfl⟩
    rw [hk0] at hwc hG2 ⊢
    rw [hy] at hG2 hh64 ⊢
    have HK0 := hid hk0
    have HY := hid hy
    clear hk0 hy hw64
    by_cases hw : 0 ≤ k0
    · rw [if_pos hw] at hG2 ⊢
      have e1 : (k0 != -1) = true := by simp; omega
      clear hwc
      go_enter Tryd.func28, Tryd.ntmps28
      go_wp2_with (go_at_call 31; refine (waitsR s N M HP.out tx _ HR.out hx).mono ?_; rw [HK0.out]; rintro e w' ⟨rfl, rfl⟩)
      go_ret2
      exact askPost_same HT.out rfl
    · rw [if_neg hw] at hG2 ⊢
      have hk1 : k0 = -1 := by omega
      subst hk1
      by_cases hyx : y = tx
      · rw [if_pos hyx] at hG2 ⊢
        subst hyx
        have e2 : (y == 0) = false := by simp; omega
        clear hwc hw
        go_enter Tryd.func28, Tryd.ntmps28
        go_wp2_with (first
          | (go_at_call 31; refine (waitsR s N M HP.out y _ HR.out hx).mono ?_; rw [HK0.out]; rintro e w' ⟨rfl, rfl⟩)
          | (go_at_call 33; refine (holdsR s N M HP.out key _ HR.out hky).mono ?_; rw [HY.out]; rintro e w' ⟨rfl, rfl⟩))
        go_ret2
        exact askPost_same HT.out rfl
      · rw [if_neg hyx] at hG2 ⊢
        by_cases hn : T key = []
        · rw [if_pos hn] at hG2 ⊢
          have hy0 : y = 0 := by rw [← HY.out]; exact (holds_zero HG.out.tidy).2 hn
          subst hy0
          have HRH := hid (HP.out.hold (tx := tx) hn)
          have HGG := hid hG2
          clear hwc hw hyx hn hG2
          go_enter Tryd.func28, Tryd.ntmps28
          go_wp2_with (first
            | (go_at_call 31; refine (waitsR s N M HP.out tx _ HR.out hx).mono ?_; rw [HK0.out]; rintro e w' ⟨rfl, rfl⟩)
            | (go_at_call 33; refine (holdsR s N M HP.out key _ HR.out hky).mono ?_; rw [HY.out]; rintro e w' ⟨rfl, rfl⟩)
            | (go_at_call 54; refine (hold_any s N M h wa ln tx key _ HR.out hky (by omega)).mono ?_; rintro e w' ⟨rfl, hM⟩))
          go_ret2
          obtain ⟨M', hM1, hM2⟩ := hM
          exact ⟨rfl, M', ⟨_, _, _, hM1.mono (Nat.le_succ _), HRH.out⟩, hM2⟩
        · rw [if_neg hn] at hG2 ⊢
          have hyp : 1 ≤ y := by rw [← HY.out]; exact holds_pos HG.out.tidy hn
          have e2 : (y == 0) = false := by simp; omega
          have e3 : (y == tx) = false := by simpa using hyx
          by_cases hc : reachP T tx (q y + 1) y = true
          · rw [if_pos hc] at hG2 ⊢
            have HC := hid hc
            clear hwc hw hn hG2 hc
            go_enter Tryd.func28, Tryd.ntmps28
            go_wp2_with (first
              | (go_at_call 31; refine (waitsR s N M HP.out tx _ HR.out hx).mono ?_; rw [HK0.out]; rintro e w' ⟨rfl, rfl⟩)
              | (go_at_call 33; refine (holdsR s N M HP.out key _ HR.out hky).mono ?_; rw [HY.out]; rintro e w' ⟨rfl, rfl⟩)
              | (go_at_call 55; refine (waitsFor_any s N M h wa ln T q y tx _ HR.out HP.out HG.out.tidy HQ.out hh64 hyx).mono ?_; rw [HC.out]; rintro e w' ⟨rfl, rfl⟩))
            go_ret2
            exact askPost_same HT.out rfl
          · rw [if_neg hc] at hG2 ⊢
            have HC := hid (show reachP T tx (q y + 1) y = false by simpa using hc)
            have HRH := hid (HP.out.wait (tx := tx) hn h1 hG2.tidy)
            clear hwc hw hn hG2 hc
            go_enter Tryd.func28, Tryd.ntmps28
            go_wp2_with (first
              | (go_at_call 31; refine (waitsR s N M HP.out tx _ HR.out hx).mono ?_; rw [HK0.out]; rintro e w' ⟨rfl, rfl⟩)
              | (go_at_call 33; refine (holdsR s N M HP.out key _ HR.out hky).mono ?_; rw [HY.out]; rintro e w' ⟨rfl, rfl⟩)
              | (go_at_call 55; refine (waitsFor_any s N M h wa ln T q y tx _ HR.out HP.out HG.out.tidy HQ.out hh64 hyx).mono ?_; rw [HC.out]; rintro e w' ⟨rfl, rfl⟩)
              | (go_at_call 56; refine (wait_any s N M h wa ln tx key _ HR.out hky hx hN).mono ?_; rintro e w' ⟨rfl, hM⟩))
            go_ret2
            obtain ⟨M', hM1, hM2⟩ := hM
            exact ⟨rfl, M', ⟨_, _, _, hM1, HRH.out⟩, hM2⟩
  · rw [if_pos (by simpa using hb)]
    refine (ask_range s tx key w hb).mono ?_
    rintro e w' ⟨rfl, rfl⟩
    exact askPost_same hT rfl

end Go.Proofs.YtjefgmeejhakbaaDoor
