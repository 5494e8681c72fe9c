/- (*Table).waitsFor, Line. -/
import Derived.Test.YtjefgmeejhakbaaDoorLkHold
import Derived.Lib.SliceRun
namespace Go.Proofs.YtjefgmeejhakbaaDoor
open Go.RowKit

/-- Memory and the table as lists agree. -/
structure Rep (T : Tab) (h wa : Int → Option Int) (ln : Int → List Int) : Prop where
  h : ∀ k, h k = (T k).head?
  wa : ∀ x, (wa x).getD (-1) = waitsP T x ∧ (wa x = none ↔ waitsP T x = -1)
  ln : ∀ k, ln k = (T k).tail
theorem Rep.holds {T : Tab} {h wa : Int → Option Int} {ln : Int → List Int} (r : Rep T h wa ln) (k : Int) : (h k).getD 0 = holdsP T k := by
  rw [r.h k, holdsP]
  cases T k <;> rfl
theorem Rep.waits {T : Tab} {h wa : Int → Option Int} {ln : Int → List Int} (r : Rep T h wa ln) (x : Int) : (wa x).getD (-1) = waitsP T x := (r.wa x).1
theorem waits_i64 (T : Tab) (x : Int) : I64 (waitsP T x) := by
  rcases waits_cases T x with e | ⟨h1, h2⟩
  · rw [e]; unfold I64; omega
  · unfold I64; omega
theorem holds_i64 {T : Tab} (h : Tidy0 T) (k : Int) : I64 (holdsP T k) := by
  by_cases e : T k = []
  · rw [(holds_zero h).2 e]; unfold I64; omega
  · have := h.pos k _ (head_mem e); unfold I64 holdsP; omega

section
variable {T : Tab} {h wa : Int → Option Int} {ln : Int → List Int}
theorem waitsR (s N : Nat) (M : LkM) (R : Rep T h wa ln) (x : Int) (w : World) (r : Raw w s N M h wa ln) (hx : I64 x) :
    Calls Tryd.prog 31 #[.pointer (some ⟨s, 0, none⟩), .int .i64 x] w fun e w' => e = .returned (.int .i64 (waitsP T x)) ∧ w' = w := by
  have := waits_any s N M h wa ln x w r hx
  rwa [R.waits] at this
theorem holdsR (s N : Nat) (M : LkM) (R : Rep T h wa ln) (k : Int) (w : World) (r : Raw w s N M h wa ln) (hk : I64 k) :
    Calls Tryd.prog 33 #[.pointer (some ⟨s, 0, none⟩), .int .i64 k] w fun e w' => e = .returned (.int .i64 (holdsP T k)) ∧ w' = w := by
  have := holds_any s N M h wa ln k w r hk
  rwa [R.holds] at this
end

set_option maxRecDepth 100000 in
set_option maxHeartbeats 2000000 in
theorem waitsFor_any (s N : Nat) (M : LkM) (h wa : Int → Option Int) (ln : Int → List Int) (T : Tab) (q : Int → Nat) (x tx : Int) (w : World) (r : Raw w s N M h wa ln) (R : Rep T h wa ln) (ht : Tidy0 T) (hq : Ranked T q) (hx : I64 x) (hne : x ≠ tx) :
    Calls Tryd.prog 55 #[.pointer (some ⟨s, 0, none⟩), .int .i64 x, .int .i64 tx] w fun e w' => e = .returned (.bool (reachP T tx (q x + 1) x)) ∧ w' = w := by
  obtain ⟨A, hA⟩ : ∃ A, reachP T tx (q x + 1) x = A := ⟨_, rfl⟩
  rw [hA]
  have HR := hid r
  have HQ := hid hq
  have HT := hid ht
  have HP := hid R
  clear r hq ht R
  go_enter Tryd.func55, Tryd.ntmps55
  go_wp2
  go_loop [1] (fun v => ∃ y : Int, v = .int .i64 y ∧ I64 y ∧ ((y = tx ∧ A = true) ∨ (y ≠ tx ∧ ∃ n, q y < n ∧ reachP T tx n y = A))) (fun v => if intOf v = tx then 0 else q (intOf v) + 1)
  case atStart => exact ⟨x, rfl, hx, .inr ⟨hne, q x + 1, by omega, hA⟩⟩
  case round =>
    obtain ⟨y, rfl, hy, hc⟩ := hrel
    rcases hc with ⟨e, rfl⟩ | ⟨hyt, n, hn, hr⟩
    · have e1 : (y != tx) = false := by simp [e]
      clear e hA
      go_wp2
      go_ret
      exact ⟨rfl, rfl⟩
    · have e1 : (y != tx) = true := by simpa using hyt
      obtain ⟨m, rfl⟩ : ∃ m, n = m + 1 := ⟨n - 1, by omega⟩
      rw [reachP] at hr
      by_cases hw : waitsP T y < 0
      · rw [if_pos hw] at hr
        have hw1 : waitsP T y = -1 := by rcases waits_cases T y with e | e <;> omega
        have HW := hid hw1
        subst hr
        clear hA hw hw1
        go_wp2_with (go_at_call 31; refine (waitsR s N M HP.out y _ HR.out hy).mono ?_; rw [HW.out]; rintro e w' ⟨rfl, rfl⟩)
        go_ret
        exact ⟨rfl, rfl⟩
      · rw [if_neg hw] at hr
        have hlt := HQ.out _ _ (mem_of_waits (T := T) (x := y) (by omega))
        obtain ⟨k, hk⟩ : ∃ k, waitsP T y = k := ⟨_, rfl⟩
        have hk64 := waits_i64 T y
        have hz64 := holds_i64 HT.out k
        rw [hk] at hr hw hk64 hlt
        have HW := hid hk
        obtain ⟨z, hz⟩ : ∃ z, holdsP T k = z := ⟨_, rfl⟩
        rw [hz] at hr hlt hz64
        have HZ := hid hz
        have e2 : (k == -1) = false := by simp; omega
        have HRR := hid hr
        have HA := hid hA
        clear hk hz hw hr hA
        go_wp2_with (first
          | (go_at_call 31; refine (waitsR s N M HP.out y _ HR.out hy).mono ?_; rw [HW.out]; rintro e w' ⟨rfl, rfl⟩)
          | (go_at_call 33; refine (holdsR s N M HP.out k _ HR.out hk64).mono ?_; rw [HZ.out]; rintro e w' ⟨rfl, rfl⟩))
        go_round
        case rel =>
          refine ⟨z, rfl, hz64, ?_⟩
          by_cases hzt : z = tx
          · left
            have := HRR.out
            rw [if_pos hzt] at this
            exact ⟨hzt, this.symm⟩
          · right
            have := HRR.out
            rw [if_neg hzt] at this
            exact ⟨hzt, m, by omega, this⟩
        case measure =>
          by_cases hzt : z = tx
          · simp only [intOf, hyt, hzt, if_false, if_true]; omega
          · simp only [intOf, hyt, hzt, if_false]; omega

theorem eqlSl (a : Addr) (n c : Nat) (w : World) : (binOp .eql 49 (.slice (some a) n c) (.slice none 0 0)).run Tryd.prog w = .ok (.bool false) w := by kernel_rfl
theorem eqlSlNil (w : World) : (binOp .eql 49 (.slice none 0 0) (.slice none 0 0)).run Tryd.prog w = .ok (.bool true) w := by kernel_rfl

set_option maxRecDepth 100000 in
set_option maxHeartbeats 1000000 in
theorem cloneI_nil (w : World) : Calls Tryd.prog 58 #[.slice none 0 0] w fun e w' => e = .returned (.slice none 0 0) ∧ w' = w := by
  have he := eqlSlNil
  go_enter Tryd.func58, Tryd.ntmps58
  go_wp2
  go_ret
  exact ⟨rfl, rfl⟩

set_option maxRecDepth 100000 in
set_option maxHeartbeats 1000000 in
theorem cloneI_some (g c : Nat) (l : List Int) (w : World) (hm : 0 < l.length) (hm2 : l.length ≤ 1000000) (hnews : ∀ j u, (intsV l)[j]? = some u → w.cell? ⟨g, j, none⟩ = some u) :
    Calls Tryd.prog 58 #[.slice (some ⟨g, 0, none⟩) l.length c] w fun e w' => ∃ v, e = .returned v ∧ w'.ownsRow w.heap.size 3 1 v l.length (intsV l) ∧ Below w.heap.size w w' := by
  obtain ⟨i0, hi0, hz0, hz1, hz2⟩ := info_parts info3
  have he := eqlSl
  have hown : (w.alloc (.cells #[] 3)).ownsRow w.heap.size 3 1 (.slice (some ⟨w.heap.size, 0, none⟩) 0 0) 0 [] := World.ownsRow_made w #[] 0 (Nat.le_refl _) (by simp [maxLen]) rfl
  have hn2 : ∀ j u, (intsV l)[j]? = some u → (w.alloc (.cells #[] 3)).cell? ((⟨g, 0, none⟩ : Addr).add j) = some u := fun j u hu => by
    rw [addr_add]
    exact ((World.grownBy_alloc w (.cells #[] 3) none).cell (hnews j u hu) (by simp))
  have hil : (intsV l).length = l.length * 1 := by rw [intsV_length]; omega
  have h1 := intsV_one l
  clear hnews
  go_enter Tryd.func58, Tryd.ntmps58
  go_wp2_with (at_builtin; refine wpList_append_lies _ rfl _ _ _ rfl w.heap.size 3 i0 _ 1 8 Tryd.underlying49 hi0 hz0 hz1 hz2 rfl (by omega) _ 0 [] rfl hown ⟨g, 0, none⟩ l.length c (intsV l) rfl hil hn2 h1 hm (by unfold maxLen; omega) (by omega) (by simp) (w.heap.size + 1) (by simp) ?_; intro g cap w1 ho hgrow hat hlt)
  go_ret
  rw [Nat.zero_add] at ho
  have hgrow2 : (w.alloc (.cells #[] 3)).grownBy w1 (some w.heap.size) := hgrow
  refine ⟨_, rfl, ho, ?_⟩
  exact ((Below.refl _ w).alloc (Nat.le_refl _) _).grown hgrow2 (by simp) (fun k e => by cases e; exact Nat.le_refl _)

set_option maxRecDepth 100000 in
set_option maxHeartbeats 1000000 in
theorem line_any (s N : Nat) (M : LkM) (h wa : Int → Option Int) (ln : Int → List Int) (k : Int) (w : World) (r : Raw w s N M h wa ln) (hk : I64 k) (hN : N ≤ 1000000) :
    Calls Tryd.prog 35 #[.pointer (some ⟨s, 0, none⟩), .int .i64 k] w fun e w' => ∃ v, e = .returned v ∧ w'.ownsRow w.heap.size 3 1 v (ln k).length (intsV (ln k)) ∧ Below w.heap.size w w' := by
  have c2 := r.c2
  have hl := r.lookL hk
  by_cases hn : ln k = []
  · rw [r.ln0 k hn] at hl
    simp only [Option.getD_none] at hl
    rw [hn]
    clear r hn
    go_enter Tryd.func35, Tryd.ntmps35
    go_wp2_with (go_at_call 58; refine (cloneI_nil _).mono ?_; rintro e w' ⟨rfl, rfl⟩)
    go_ret
    exact ⟨_, rfl, World.ownsRow_nil _ _ _ _, Below.refl _ _⟩
  · obtain ⟨v, hv, ho⟩ := r.ln1 k hn
    have hlen := r.len k
    rw [hv] at hl
    simp only [Option.getD_some] at hl
    have hpos : 0 < (ln k).length := List.length_pos_iff.2 hn
    rcases row_slice ho with ⟨_, e0⟩ | ⟨g, c, rfl, _, hc⟩
    · omega
    · have HC := hid hc
      clear r hv ho hc
      go_enter Tryd.func35, Tryd.ntmps35
      go_wp2_with (go_at_call 58; refine (cloneI_some g c (ln k) _ hpos (by omega) HC.out).mono ?_; rintro e w' ⟨v, rfl, ho, hB⟩)
      go_ret
      exact ⟨_, rfl, ho, hB⟩

end Go.Proofs.YtjefgmeejhakbaaDoor
