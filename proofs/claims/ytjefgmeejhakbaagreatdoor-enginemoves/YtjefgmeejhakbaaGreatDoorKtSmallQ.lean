/- keep's small functions: of, tells, committed. -/
import Derived.Test.YtjefgmeejhakbaaGreatDoorMgAQQ
namespace Go.Proofs.YtjefgmeejhakbaaGreatDoor
open Go.RowKit
theorem ofP_at : ∀ (l : List (Int × Int)) (key x : Int) (i : Nat), (∀ j, j < i → ∀ p, l[j]? = some p → p.1 ≠ key) → l[i]? = some (key, x) → ofP l key = x
  | [], _, _, i, _, h => by simp at h
  | p :: r, key, x, 0, _, h => by
    simp only [List.getElem?_cons_zero, Option.some.injEq] at h
    subst h
    simp [ofP]
  | p :: r, key, x, i + 1, hn, h => by
    have h1 := ofP_at r key x i (fun j hj q hq => hn (j + 1) (by omega) q (by simpa using hq)) (by simpa using h)
    have h2 : (p.1 == key) = false := by simpa using hn 0 (by omega) p rfl
    unfold ofP at h1 ⊢
    rw [List.find?_cons, h2]
    exact h1
theorem ofP_none (l : List (Int × Int)) (key : Int) (h : ∀ j, j < l.length → ∀ p, l[j]? = some p → p.1 ≠ key) : ofP l key = -1 := by
  unfold ofP
  have : l.find? (fun p => p.1 == key) = none := List.find?_eq_none.2 (fun p hp => by
    obtain ⟨j, hj, e⟩ := List.mem_iff_getElem.1 hp
    simpa using h j hj p (by rw [List.getElem?_eq_getElem hj, e]))
  rw [this]
set_option maxRecDepth 100000 in
set_option maxHeartbeats 1000000 in
theorem of_any {w : World} {base : Nat} {v : Value} {l : List (Int × Int)} (h : w.ownsRow base 78 2 v l.length (vrow l)) (hl : l.length ≤ 100000) (key : Int) :
    Calls Tryz.prog 30 #[v, .int .i64 key] w fun e w' => e = .returned (.int .i64 (ofP l key)) ∧ w' = w := by
  rcases row_slice h with ⟨rfl, e0⟩ | ⟨g, cap, rfl, hg, hc⟩
  · have : l = [] := List.eq_nil_of_length_eq_zero e0
    subst this
    rw [show ofP [] key = -1 from rfl]
    clear h hl e0
    go_enter Tryz.func30, Tryz.ntmps30
    go_wp2
    go_loopw [5] (fun iv wr => iv = .int .i64 0 ∧ wr = w) (fun _ _ => 0)
    case atStart => exact ⟨rfl, rfl⟩
    case round =>
      obtain ⟨rfl, rfl⟩ := hrel
      go_wp2
      go_ret
      exact ⟨rfl, rfl⟩
  · have HC := hid hc
    clear h hc
    go_enter Tryz.func30, Tryz.ntmps30
    go_wp2
    go_loopw [5] (fun iv wr => ∃ i : Nat, iv = .int .i64 i ∧ i ≤ l.length ∧ wr = w ∧ Hid (∀ j, j < i → ∀ p, l[j]? = some p → p.1 ≠ key)) (fun iv _ => l.length - (intOf iv).toNat)
    case atStart => exact ⟨0, rfl, Nat.zero_le _, rfl, fun j hj => absurd hj (by omega)⟩
    case round =>
      obtain ⟨i, rfl, hi, rfl, hn⟩ := hrel
      by_cases hlt : i < l.length
      · obtain ⟨a, x, hax⟩ : ∃ a x, l[i]? = some (a, x) := ⟨l[i].1, l[i].2, List.getElem?_eq_getElem hlt⟩
        have hx := vrow_get l i a x hax
        have c0 := HC.out _ _ hx.1
        have c1 := HC.out _ _ hx.2
        have HAX := hid hax
        have g1 : (i : Int) < (l.length : Int) := by omega
        have g0 : (0 : Int) ≤ (i : Int) := by omega
        clear hx hax
        by_cases hk : a = key
        · have hk2 : (a == key) = true := by simpa using hk
          go_wp2
          go_ret
          refine ⟨?_, rfl⟩
          rw [ofP_at l key x i hn.out (by rw [← hk]; exact HAX.out)]
          rfl
        · have hk2 : (a == key) = false := by simpa using hk
          go_wp2
          go_roundw
          case rel =>
            refine ⟨i + 1, by go_num, by omega, by first | trivial | rfl, fun j hj p hp => ?_⟩
            by_cases e : j = i
            · subst e
              have := HAX.out
              rw [hp] at this
              injection this with this
              rw [this]
              exact hk
            · exact hn.out j (by omega) p hp
          case measure => simp [intOf]; omega
      · have g1 : ¬ (i : Int) < (l.length : Int) := by omega
        go_wp2
        go_ret
        exact ⟨by rw [ofP_none l key (fun j hj p hp => hn.out j (by omega) p hp)]; rfl, rfl⟩
def tal0 : Tal := ⟨[], [], [], [], [], [], 0, 0, false⟩
def talL0 (b : Nat) : TalL := ⟨b, fun _ => .slice none 0 0, [], [], []⟩
set_option maxRecDepth 100000 in
set_option maxHeartbeats 1000000 in
theorem tells_any (w : World) : Calls Tryz.prog 23 #[] w fun e w' => ∃ L TL, e = .returned (.pointer (some ⟨TL.b, 0, none⟩)) ∧ TaleAt ⟨w, fun g => g < w.heap.size⟩ w' L eng0 TL tal0 := by
  have HN := hid (new_any w)
  go_enter Tryz.func23, Tryz.ntmps23
  go_wp2_with fail
  refine HN.out.mono ?_
  rintro e w1 ⟨L, rfl, hE, hB, hn⟩
  have HE := hid hE
  have HB := hid hB
  have HNW := hid hn
  clear hE hB hn HN
  go_wp2
  go_ret
  have hb : Below w1.heap.size w1 (w1.alloc (.cells #[ptrV L.s, .slice none 0 0, .slice none 0 0, .slice none 0 0, .slice none 0 0, .slice none 0 0, .slice none 0 0, .int .i64 0, .int .i64 0, .bool false] 67)) := (Below.refl _ w1).alloc (Nat.le_refl _) _
  have hownT : ∀ g, (talL0 w1.heap.size).own g → g = w1.heap.size := fun g hg => by
    rcases hg with rfl | ⟨j, _, hg⟩ | ⟨i, v, hv, _⟩ | ⟨i, hi⟩ | ⟨i, v, hv, _⟩
    · rfl
    · cases hg
    · simp [talL0] at hv
    · simp [talL0] at hi
    · simp [talL0] at hv
  refine ⟨L, talL0 w1.heap.size, rfl, HE.out.below hb, ⟨heap_alloc_new w1 _, fun j hj => ⟨by unfold TalL.rowX talL0 tal0; split <;> rfl, .inl ⟨rfl, rfl⟩⟩, fun i v l hv => (by simp [talL0] at hv), fun i b f hb => (by simp [talL0] at hb), fun i v l hv => (by simp [talL0] at hv), ⟨rfl, rfl, rfl, rfl, rfl, rfl, rfl, rfl, rfl⟩, fun _ => .b, ⟨rfl, fun j g _ hg => (by cases hg), fun i v g hv => (by simp [talL0] at hv), fun i g hi => (by simp [talL0] at hi), fun i v g hv => (by simp [talL0] at hv)⟩⟩,
    fun g hg hg' => by rw [hownT g hg] at hg'; have := HE.out.own_lt hg'; omega, fun g hg hp => by have := HNW.out g hg; have hp' : g < w.heap.size := hp; omega, fun g hg hp => by rw [hownT g hg] at hp; have := HB.out.size; have hp' : w1.heap.size < w.heap.size := hp; omega, ?_⟩
  have hBB := HB.out.trans (hb.mono HB.out.size)
  exact ⟨hBB.os, hBB.tape, hBB.output, hBB.size, fun g hg => hg, fun g hg => hBB.block g hg⟩
set_option maxRecDepth 100000 in
set_option maxHeartbeats 1000000 in
theorem committed_any {w0 : Gr} {w : World} {L : EnL} {E : Eng} {TL : TalL} {t : Tal} (h : TaleAt w0 w L E TL t) {i : Nat} {u : Tx} (hu : E.txs[i]? = some u) :
    Calls Tryz.prog 27 #[.pointer (some ⟨TL.b, 0, none⟩), .int .i64 (i : Int)] w fun e w' => e = .returned (.bool (decide (u.state = 2))) ∧ ∃ q, w' = w.drewN q := by
  have c0 := h.tal.cell 0
  simp only [talCells, List.getElem?_toArray, List.getElem?_cons_zero] at c0
  have HS := hid (state_ok h.en hu)
  have hi := (List.getElem?_eq_some_iff.1 hu).1
  have hle := h.en.le
  have gw : IntKind.i64.wrap ((i : Int) + 1) = (i : Int) + 1 := IntWalk.i64_in _ (by omega)
  obtain ⟨st, hst⟩ : ∃ st, u.state = st := ⟨_, rfl⟩
  rw [hst] at HS ⊢
  clear h hu hst
  go_enter Tryz.func27, Tryz.ntmps27
  go_wp2_with fail
  refine HS.out.mono ?_
  rintro e w1 ⟨rfl, q, rfl⟩
  by_cases hs : st = 2
  · subst hs
    go_wp2
    go_ret
    exact ⟨rfl, q, rfl⟩
  · have g : (st == 2) = false := by simpa using hs
    go_wp2
    go_ret
    exact ⟨by simp [hs], q, rfl⟩
end Go.Proofs.YtjefgmeejhakbaaGreatDoor
