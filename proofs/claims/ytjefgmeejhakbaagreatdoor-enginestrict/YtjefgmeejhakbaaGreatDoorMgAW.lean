/- KtStep KtSmall KtOk KtPok: put together for a claim. -/
import Derived.Test.YtjefgmeejhakbaaGreatDoorMgAV
import Derived.Test.YtjefgmeejhakbaaGreatDoorMgAJ
import Derived.Test.YtjefgmeejhakbaaGreatDoorMgAS
/- keep's does: its step, and what its greater regions leave. -/
namespace Go.Proofs.YtjefgmeejhakbaaGreatDoor
open Go.RowKit

def actV (a : Int × Int × Int × Int) : Array Value := #[.int .i64 a.1, .int .i64 a.2.1, .int .i64 a.2.2.1, .int .i64 a.2.2.2]
def stepW (w : World) (b : Nat) (a : Int × Int × Int × Int) (s : Int) : World := (w.setCell ⟨b, 7, none⟩ (.int .i64 s)).alloc (.cells (actV a) 62)
theorem step_at {w0 : Gr} {w : World} {L : EnL} {E : Eng} {TL : TalL} {t : Tal} (h : TaleAt w0 w L E TL t) (a : Int × Int × Int × Int) : TaleAt w0 (stepW w TL.b a (t.steps + 1)) L E TL (stepT t) ∧ (stepW w TL.b a (t.steps + 1)).heap[w.heap.size]? = some (.cells (actV a) 62 (0, 0)) ∧ (stepW w TL.b a (t.steps + 1)).heap.size = w.heap.size + 1 := by
  have hset := setCell_at (o := 7) (v := .int .i64 (t.steps + 1)) h.tal.blk
  have hoth : ∀ g, g ≠ TL.b → (w.setCell ⟨TL.b, 7, none⟩ (.int .i64 (t.steps + 1))).heap[g]? = w.heap[g]? := fun g hg => heap_setCell_other _ _ _ _ hg
  have hsz : (w.setCell ⟨TL.b, 7, none⟩ (.int .i64 (t.steps + 1))).heap.size = w.heap.size := by simp
  have h1 : TaleAt w0 (w.setCell ⟨TL.b, 7, none⟩ (.int .i64 (t.steps + 1))) L E TL (stepT t) := by
    refine h.tale (t' := stepT t) ?_ ⟨rfl, rfl, rfl, by simp, fun g hg hn => hoth g (fun e => hn (.inl e)), fun g hg => .inl hg⟩
    refine h.tal.head (steps := t.steps + 1) (n := t.n) (broken := t.broken) ?_ (fun g _ hg => hoth g hg)
    exact hset.trans (by simp [talCells])
  refine ⟨h1.below ((Below.refl _ _).alloc (Nat.le_refl _) _), ?_, by simp [stepW]⟩
  have := heap_alloc_new (w.setCell ⟨TL.b, 7, none⟩ (.int .i64 (t.steps + 1))) (.cells (actV a) 62)
  rw [hsz] at this
  exact this

def p11 (TL : TalL) (N B : Nat) (lv : List Int) (level : Int) (av : Value) (i : Nat) (v : Value) (w : World) : Prop := match i with
  | 5 => v = .pointer (some ⟨TL.b, 1, none⟩)
  | 6 => v = TL.row 0
  | 7 => v = .int .i64 level
  | 8 => pB B 3 (.int .i64 level) v w
  | 9 => pA B 3 (TL.row 0) N (intsV lv) (.int .i64 level) v w
  | 12 => v = .pointer (some ⟨TL.b, 2, none⟩)
  | 13 => v = TL.row 1
  | 14 => v = av
  | 15 => pB B 23 av v w
  | 16 => pA B 23 (TL.row 1) N TL.sn av v w
  | 19 => v = .pointer (some ⟨TL.b, 3, none⟩)
  | 20 => v = TL.row 2
  | 21 => pM B v w
  | 22 => pMB B 69 v w
  | 23 => pMA B 69 (TL.row 2) N (TL.om.map mapV) v w
  | 25 => v = .pointer (some ⟨TL.b, 1, none⟩)
  | 28 => v = .pointer (some ⟨TL.b, 2, none⟩)
  | 31 => v = .pointer (some ⟨TL.b, 3, none⟩)
  | 26 => True
  | 29 => True
  | 32 => True
  | _ => v = .pointer (some ⟨TL.b, 0, none⟩)
theorem p11_stay {TL : TalL} {N B : Nat} {lv : List Int} {level : Int} {av : Value} {hh : Nat → Prop} {W W' : World} {i : Nat} (hc : Chg hh W W') (hB : ∀ g, hh g → g < B ∧ (i ≠ 9 → (TL.row 0).ownBlock ≠ some g) ∧ (i ≠ 16 → (TL.row 1).ownBlock ≠ some g) ∧ (i ≠ 23 → (TL.row 2).ownBlock ≠ some g)) (j : Nat) (u : Value) (hj : j ≠ i) (h : p11 TL N B lv level av j u W) : p11 TL N B lv level av j u W' := by
  unfold p11 at h ⊢
  split at h
  case h_4 => exact pB.stay h hc (fun g hg => (hB g hg).1)
  case h_5 => exact pA.stay h hc (fun g hg => ⟨(hB g hg).1, (hB g hg).2.1 (fun e => hj e.symm)⟩)
  case h_9 => exact pB.stay h hc (fun g hg => (hB g hg).1)
  case h_10 => exact pA.stay h hc (fun g hg => ⟨(hB g hg).1, (hB g hg).2.2.1 (fun e => hj e.symm)⟩)
  case h_13 => exact pM.stay h hc (fun g hg => (hB g hg).1)
  case h_14 => exact pMB.stay h hc (fun g hg => (hB g hg).1)
  case h_15 => exact pMA.stay h hc (fun g hg => ⟨(hB g hg).1, (hB g hg).2.2.2 (fun e => hj e.symm)⟩)
  all_goals first | exact h | (split <;> first | exact h | contradiction)

def p12 (TL : TalL) (rd : List Value) (N B : Nat) (bg ov : List Int) (st : Int) (i : Nat) (v : Value) (w : World) : Prop := match i with
  | 5 => v = .pointer (some ⟨TL.b, 4, none⟩)
  | 6 => v = TL.row 3
  | 7 => pB B 73 (.slice none 0 0) v w
  | 8 => pA B 73 (TL.row 3) N rd (.slice none 0 0) v w
  | 11 => v = .pointer (some ⟨TL.b, 5, none⟩)
  | 12 => v = TL.row 4
  | 15 => v = .pointer (some ⟨TL.b, 7, none⟩)
  | 16 => v = .int .i64 st
  | 17 => pB B 3 (.int .i64 st) v w
  | 18 => pA B 3 (TL.row 4) N (intsV bg) (.int .i64 st) v w
  | 21 => v = .pointer (some ⟨TL.b, 6, none⟩)
  | 22 => v = TL.row 5
  | 23 => pB B 3 (.int .i64 0) v w
  | 24 => pA B 3 (TL.row 5) N (intsV ov) (.int .i64 0) v w
  | 26 => v = .pointer (some ⟨TL.b, 4, none⟩)
  | 29 => v = .pointer (some ⟨TL.b, 5, none⟩)
  | 32 => v = .pointer (some ⟨TL.b, 6, none⟩)
  | 27 => True
  | 30 => True
  | 33 => True
  | _ => v = .pointer (some ⟨TL.b, 0, none⟩)
theorem p12_stay {TL : TalL} {rd : List Value} {N B : Nat} {bg ov : List Int} {st : Int} {hh : Nat → Prop} {W W' : World} {i : Nat} (hc : Chg hh W W') (hB : ∀ g, hh g → g < B ∧ (i ≠ 8 → (TL.row 3).ownBlock ≠ some g) ∧ (i ≠ 18 → (TL.row 4).ownBlock ≠ some g) ∧ (i ≠ 24 → (TL.row 5).ownBlock ≠ some g)) (j : Nat) (u : Value) (hj : j ≠ i) (h : p12 TL rd N B bg ov st j u W) : p12 TL rd N B bg ov st j u W' := by
  unfold p12 at h ⊢
  split at h
  case h_3 => exact pB.stay h hc (fun g hg => (hB g hg).1)
  case h_4 => exact pA.stay h hc (fun g hg => ⟨(hB g hg).1, (hB g hg).2.1 (fun e => hj e.symm)⟩)
  case h_9 => exact pB.stay h hc (fun g hg => (hB g hg).1)
  case h_10 => exact pA.stay h hc (fun g hg => ⟨(hB g hg).1, (hB g hg).2.2.1 (fun e => hj e.symm)⟩)
  case h_13 => exact pB.stay h hc (fun g hg => (hB g hg).1)
  case h_14 => exact pA.stay h hc (fun g hg => ⟨(hB g hg).1, (hB g hg).2.2.2 (fun e => hj e.symm)⟩)
  all_goals first | exact h | (split <;> first | exact h | contradiction)
def TwoNe (listed : Array Bool) (a : Act) : Prop := DoneAt listed 18 → DoneAt listed 24 → ∀ g, (a.tmps.getD 124 undef).ownBlock = some g → (a.tmps.getD 130 undef).ownBlock = some g → False
theorem gkeep {listed : Array Bool} {a : Act} {i d : Nat} {v : Value} (h : TwoNe listed a) (hi : i ≠ 18 ∧ i ≠ 24) (hd : d ≠ 124 ∧ d ≠ 130) : TwoNe (listed.setIfInBounds i true) (a.put (some d) v) := fun h1 h2 g hg1 hg2 => by
  rw [getD_put_ne hd.1.symm] at hg1
  rw [getD_put_ne hd.2.symm] at hg2
  exact h ((done_set_ne hi.1.symm).1 h1) ((done_set_ne hi.2.symm).1 h2) g hg1 hg2
theorem gkeepN {listed : Array Bool} {a : Act} {i : Nat} {v : Value} (h : TwoNe listed a) (hi : i ≠ 18 ∧ i ≠ 24) : TwoNe (listed.setIfInBounds i true) (a.put none v) := fun h1 h2 g hg1 hg2 => h ((done_set_ne hi.1.symm).1 h1) ((done_set_ne hi.2.symm).1 h2) g hg1 hg2

end Go.Proofs.YtjefgmeejhakbaaGreatDoor

/- keep's small functions: of, tells, committed. -/
namespace Go.Proofs.YtjefgmeejhakbaaGreatDoor
open Go.RowKit

theorem ofP_at : ∀ (l : List (Int × Int)) (key x : Int) (i : Nat), (∀ j, j < i → ∀ p, l[j]? = some p → p.1 ≠ key) → l[i]? = some (key, x) → ofP l key = x
  | [], _, _, i, _, h => by simp at h
  | p :: r, key, x, 0, _, h => by
    simp only [List.getElem?_cons_zero, Option.some.injEq] at h
    subst h
    simp [ofP]
  | p :: r, key, x, i + 1, hn, h => by
    have h1 := ofP_at r key x i (fun j hj q hq => hn (j + 1) (by omega) q (by simpa using hq)) (by simpa using h)
    have h2 : (p.1 == key) = false := by simpa using hn 0 (by omega) p rfl
    unfold ofP at h1 ⊢
    rw [List.find?_cons, h2]
    exact h1
theorem ofP_none (l : List (Int × Int)) (key : Int) (h : ∀ j, j < l.length → ∀ p, l[j]? = some p → p.1 ≠ key) : ofP l key = -1 := by
  unfold ofP
  have : l.find? (fun p => p.1 == key) = none := List.find?_eq_none.2 (fun p hp => by
    obtain ⟨j, hj, e⟩ := List.mem_iff_getElem.1 hp
    simpa using h j hj p (by rw [List.getElem?_eq_getElem hj, e]))
  rw [this]

set_option maxRecDepth 100000 in
set_option maxHeartbeats 1000000 in
theorem of_any {w : World} {base : Nat} {v : Value} {l : List (Int × Int)} (h : w.ownsRow base 78 2 v l.length (vrow l)) (hl : l.length ≤ 100000) (key : Int) :
    Calls Tryz.prog 30 #[v, .int .i64 key] w fun e w' => e = .returned (.int .i64 (ofP l key)) ∧ w' = w := by
  rcases row_slice h with ⟨rfl, e0⟩ | ⟨g, cap, rfl, hg, hc⟩
  · have : l = [] := List.eq_nil_of_length_eq_zero e0
    subst this
    rw [show ofP [] key = -1 from rfl]
    clear h hl e0
    go_enter Tryz.func30, Tryz.ntmps30
    go_wp2
    go_loopw [5] (fun iv wr => iv = .int .i64 0 ∧ wr = w) (fun _ _ => 0)
    case atStart => exact ⟨rfl, rfl⟩
    case round =>
      obtain ⟨rfl, rfl⟩ := hrel
      go_wp2
      go_ret
      exact ⟨rfl, rfl⟩
  · have HC := hid hc
    clear h hc
    go_enter Tryz.func30, Tryz.ntmps30
    go_wp2
    go_loopw [5] (fun iv wr => ∃ i : Nat, iv = .int .i64 i ∧ i ≤ l.length ∧ wr = w ∧ Hid (∀ j, j < i → ∀ p, l[j]? = some p → p.1 ≠ key)) (fun iv _ => l.length - (intOf iv).toNat)
    case atStart => exact ⟨0, rfl, Nat.zero_le _, rfl, fun j hj => absurd hj (by omega)⟩
    case round =>
      obtain ⟨i, rfl, hi, rfl, hn⟩ := hrel
      by_cases hlt : i < l.length
      · obtain ⟨a, x, hax⟩ : ∃ a x, l[i]? = some (a, x) := ⟨l[i].1, l[i].2, List.getElem?_eq_getElem hlt⟩
        have hx := vrow_get l i a x hax
        have c0 := HC.out _ _ hx.1
        have c1 := HC.out _ _ hx.2
        have HAX := hid hax
        have g1 : (i : Int) < (l.length : Int) := by omega
        have g0 : (0 : Int) ≤ (i : Int) := by omega
        clear hx hax
        by_cases hk : a = key
        · have hk2 : (a == key) = true := by simpa using hk
          go_wp2
          go_ret
          refine ⟨?_, rfl⟩
          rw [ofP_at l key x i hn.out (by rw [← hk]; exact HAX.out)]
          rfl
        · have hk2 : (a == key) = false := by simpa using hk
          go_wp2
          go_roundw
          case rel =>
            refine ⟨i + 1, by go_num, by omega, by first | trivial | rfl, fun j hj p hp => ?_⟩
            by_cases e : j = i
            · subst e
              have := HAX.out
              rw [hp] at this
              injection this with this
              rw [this]
              exact hk
            · exact hn.out j (by omega) p hp
          case measure => simp [intOf]; omega
      · have g1 : ¬ (i : Int) < (l.length : Int) := by omega
        go_wp2
        go_ret
        exact ⟨by rw [ofP_none l key (fun j hj p hp => hn.out j (by omega) p hp)]; rfl, rfl⟩

def tal0 : Tal := ⟨[], [], [], [], [], [], 0, 0, false⟩
def talL0 (b : Nat) : TalL := ⟨b, fun _ => .slice none 0 0, [], [], []⟩
set_option maxRecDepth 100000 in
set_option maxHeartbeats 1000000 in
theorem tells_any (w : World) : Calls Tryz.prog 23 #[] w fun e w' => ∃ L TL, e = .returned (.pointer (some ⟨TL.b, 0, none⟩)) ∧ TaleAt ⟨w, fun g => g < w.heap.size⟩ w' L eng0 TL tal0 := by
  have HN := hid (new_any w)
  go_enter Tryz.func23, Tryz.ntmps23
  go_wp2_with fail
  refine HN.out.mono ?_
  rintro e w1 ⟨L, rfl, hE, hB, hn⟩
  have HE := hid hE
  have HB := hid hB
  have HNW := hid hn
  clear hE hB hn HN
  go_wp2
  go_ret
  have hb : Below w1.heap.size w1 (w1.alloc (.cells #[ptrV L.s, .slice none 0 0, .slice none 0 0, .slice none 0 0, .slice none 0 0, .slice none 0 0, .slice none 0 0, .int .i64 0, .int .i64 0, .bool false] 67)) := (Below.refl _ w1).alloc (Nat.le_refl _) _
  have hownT : ∀ g, (talL0 w1.heap.size).own g → g = w1.heap.size := fun g hg => by
    rcases hg with rfl | ⟨j, _, hg⟩ | ⟨i, v, hv, _⟩ | ⟨i, hi⟩ | ⟨i, v, hv, _⟩
    · rfl
    · cases hg
    · simp [talL0] at hv
    · simp [talL0] at hi
    · simp [talL0] at hv
  refine ⟨L, talL0 w1.heap.size, rfl, HE.out.below hb, ⟨heap_alloc_new w1 _, fun j hj => ⟨by unfold TalL.rowX talL0 tal0; split <;> rfl, .inl ⟨rfl, rfl⟩⟩, fun i v l hv => (by simp [talL0] at hv), fun i b f hb => (by simp [talL0] at hb), fun i v l hv => (by simp [talL0] at hv), ⟨rfl, rfl, rfl, rfl, rfl, rfl, rfl, rfl, rfl⟩, fun _ => .b, ⟨rfl, fun j g _ hg => (by cases hg), fun i v g hv => (by simp [talL0] at hv), fun i g hi => (by simp [talL0] at hi), fun i v g hv => (by simp [talL0] at hv)⟩⟩,
    fun g hg hg' => by rw [hownT g hg] at hg'; have := HE.out.own_lt hg'; omega, fun g hg hp => by have := HNW.out g hg; have hp' : g < w.heap.size := hp; omega, fun g hg hp => by rw [hownT g hg] at hp; have := HB.out.size; have hp' : w1.heap.size < w.heap.size := hp; omega, ?_⟩
  have hBB := HB.out.trans (hb.mono HB.out.size)
  exact ⟨hBB.os, hBB.tape, hBB.output, hBB.size, fun g hg => hg, fun g hg => hBB.block g hg⟩

set_option maxRecDepth 100000 in
set_option maxHeartbeats 1000000 in
theorem committed_any {w0 : Gr} {w : World} {L : EnL} {E : Eng} {TL : TalL} {t : Tal} (h : TaleAt w0 w L E TL t) {i : Nat} {u : Tx} (hu : E.txs[i]? = some u) :
    Calls Tryz.prog 27 #[.pointer (some ⟨TL.b, 0, none⟩), .int .i64 (i : Int)] w fun e w' => e = .returned (.bool (decide (u.state = 2))) ∧ ∃ q, w' = w.drewN q := by
  have c0 := h.tal.cell 0
  simp only [talCells, List.getElem?_toArray, List.getElem?_cons_zero] at c0
  have HS := hid (state_ok h.en hu)
  have hi := (List.getElem?_eq_some_iff.1 hu).1
  have hle := h.en.le
  have gw : IntKind.i64.wrap ((i : Int) + 1) = (i : Int) + 1 := IntWalk.i64_in _ (by omega)
  obtain ⟨st, hst⟩ : ∃ st, u.state = st := ⟨_, rfl⟩
  rw [hst] at HS ⊢
  clear h hu hst
  go_enter Tryz.func27, Tryz.ntmps27
  go_wp2_with fail
  refine HS.out.mono ?_
  rintro e w1 ⟨rfl, q, rfl⟩
  by_cases hs : st = 2
  · subst hs
    go_wp2
    go_ret
    exact ⟨rfl, q, rfl⟩
  · have g : (st == 2) = false := by simpa using hs
    go_wp2
    go_ret
    exact ⟨by simp [hs], q, rfl⟩

end Go.Proofs.YtjefgmeejhakbaaGreatDoor

/- Plain: what is asked of a tale stays so. -/
namespace Go.Proofs.YtjefgmeejhakbaaGreatDoor

def RdLe (E E' : Eng) : Prop := ∀ u' ∈ E'.txs, ∃ u ∈ E.txs, u'.reads.length ≤ u.reads.length
theorem RdLe.refl (E : Eng) : RdLe E E := fun u hu => ⟨u, hu, Nat.le_refl _⟩
theorem RdLe.trans {A B C : Eng} (h : RdLe A B) (k : RdLe B C) : RdLe A C := fun u hu => by
  obtain ⟨v, hv, h1⟩ := k u hu
  obtain ⟨w, hw, h2⟩ := h v hv
  exact ⟨w, hw, by omega⟩
theorem RdLe.set {E : Eng} {i : Nat} {t t' : Tx} (ht : E.txs[i]? = some t) (h : t'.reads.length ≤ t.reads.length) : RdLe E (E.setTx i t') := fun u hu => by
  rcases List.mem_or_eq_of_mem_set hu with hu | rfl
  · exact ⟨u, hu, Nat.le_refl _⟩
  · exact ⟨t, List.mem_of_getElem? ht, h⟩
theorem RdLe.of_txs {E E' : Eng} (h : E'.txs = E.txs) : RdLe E E' := fun u hu => ⟨u, by rw [← h]; exact hu, Nat.le_refl _⟩
theorem rd_putAhead (E : Eng) (i j : Nat) : RdLe E (putAheadP E i j).2 := by
  unfold putAheadP
  split
  · rename_i t u ht hu
    intro v hv
    simp only [Eng.setTx] at hv
    rcases List.mem_or_eq_of_mem_set hv with hv | rfl
    · rcases List.mem_or_eq_of_mem_set hv with hv | rfl
      · exact ⟨v, hv, Nat.le_refl _⟩
      · exact ⟨t, List.mem_of_getElem? ht, Nat.le_refl _⟩
    · exact ⟨u, List.mem_of_getElem? hu, Nat.le_refl _⟩
  · exact RdLe.refl E
theorem rd_aheadAll (f : Nat → Nat × Nat) : ∀ (js : List Nat) (E : Eng), RdLe E (aheadAll f js E).2
  | [], E => RdLe.refl E
  | j :: r, E => by
    have h1 := rd_putAhead E (f j).1 (f j).2
    unfold aheadAll
    rcases hp : putAheadP E (f j).1 (f j).2 with ⟨b, E'⟩
    rw [hp] at h1
    cases b with
    | true => exact h1.trans (rd_aheadAll f r E')
    | false => exact h1
theorem rd_aheadEach (i : Nat) : ∀ (js : List Nat) (E : Eng), RdLe E (aheadEach i js E)
  | [], E => RdLe.refl E
  | j :: r, E => by
    unfold aheadEach
    exact (rd_putAhead E i j).trans (rd_aheadEach i r _)
theorem rd_aheadTimes (i : Nat) : ∀ (ts : List Int) (E : Eng), RdLe E (aheadTimes i ts E).2
  | [], E => RdLe.refl E
  | a :: r, E => by
    unfold aheadTimes
    split
    · rename_i j _
      have h1 := rd_putAhead E i j
      rcases hp : putAheadP E i j with ⟨b, E'⟩
      rw [hp] at h1
      cases b with
      | true => exact h1.trans (rd_aheadTimes i r E')
      | false => exact h1
    · exact rd_aheadTimes i r E
theorem rd_aow (E : Eng) (i : Nat) (key : Int) : RdLe E (aowP E i key).2 := by
  unfold aowP
  split
  · rename_i t _
    have h1 := rd_aheadTimes i (newerP E key t.start) E
    rcases hp : aheadTimes i (newerP E key t.start) E with ⟨b, E'⟩
    rw [hp] at h1
    cases b with
    | true => exact h1.trans (rd_aheadEach i _ E')
    | false => exact h1
  · exact RdLe.refl E
theorem rd_put (E : Eng) (j : Nat) : RdLe E (putE E j).2 := by
  unfold putE
  split
  · rename_i t ht
    split
    · exact RdLe.refl E
    · have h1 : RdLe E (E.setTx j { t with vals := updT t.vals t.wk (some t.wv) }) := RdLe.set ht (Nat.le_refl _)
      simp only
      split
      · have h2 := rd_aheadAll (fun m => (m, j)) (thoseP (E.setTx j { t with vals := updT t.vals t.wk (some t.wv) }) (hasReadB t.wk j)) (E.setTx j { t with vals := updT t.vals t.wk (some t.wv) })
        rcases hb : behindP (E.setTx j { t with vals := updT t.vals t.wk (some t.wv) }) j t.wk with ⟨b, E3⟩
        unfold behindP at hb
        rw [hb] at h2
        cases b <;> exact h1.trans h2
      · exact h1
  · exact RdLe.refl E
theorem rd_upd (E : Eng) (i : Nat) (f : Tx → Tx) (hf : ∀ t, (f t).reads.length ≤ t.reads.length) : RdLe E (E.upd i f) := by
  unfold Eng.upd
  split
  · rename_i t ht
    exact RdLe.set ht (hf t)
  · exact RdLe.refl E
theorem rd_over (E : Eng) (i : Nat) (st : Int) : RdLe E (overE E i st) := (rd_upd E i (fun t => { t with state := st, bae := E.txs.length }) (fun _ => Nat.le_refl _)).trans (RdLe.of_txs rfl)
theorem rd_lose (E : Eng) (i : Nat) (why : Int) : RdLe E (loseE E i why) := by
  unfold loseE
  split
  · rename_i t ht
    refine RdLe.trans (B := { E with txs := (E.txs.set i { t with why := why }).map (freeOf ((i : Int) + 1)) }) ?_ (rd_upd _ i _ (fun _ => Nat.zero_le _))
    intro u hu
    obtain ⟨v, hv, rfl⟩ := List.mem_map.1 hu
    rcases List.mem_or_eq_of_mem_set hv with hv | rfl
    · exact ⟨v, hv, Nat.le_refl _⟩
    · exact ⟨t, List.mem_of_getElem? ht, Nat.le_refl _⟩
  · exact RdLe.refl E
theorem rd_wake (E : Eng) (j : Nat) : RdLe E (wakeE E j) := rd_upd E j _ (fun _ => Nat.le_refl _)
theorem goes_rd (a0 : Int) (K0 : Int → Option Int) (E0 : Eng) : Goes a0 K0 (fun E _ => RdLe E0 E) := by
  refine ⟨fun E Q j E2 _ hP _ hp => ?_, fun E Q j why E2 _ hP _ hp _ => ?_⟩
  · have := rd_put (wakeE E j) j
    rw [hp] at this
    exact hP.trans ((rd_wake E j).trans this)
  · have := rd_put (wakeE E j) j
    rw [hp] at this
    exact (hP.trans ((rd_wake E j).trans this)).trans ((rd_lose E2 j why).trans (rd_over _ j 3))
def Kp (E0 : Eng) (E : Eng) (_ : Nat → Prop) : Prop := RdLe E0 E ∧ Later E0.ce E.ce
theorem goes_kp (E0 : Eng) : Goes 0 (fun _ => none) (Kp E0) := goes_and (goes_rd _ _ E0) (goes_later _ _ E0.ce)

theorem inst_txs (E : Eng) (i : Nat) : (installE E i).txs = E.txs := by
  unfold installE
  split
  · split <;> rfl
  · rfl
structure Went (E E' : Eng) (n : Nat) : Prop where
  mid : Mid0 E'
  rd : ∀ u ∈ E'.txs, u.reads.length ≤ n
  later : Later E.ce E'.ce
section
variable {E E' : Eng} {i : Nat} {u : Tx} {n : Nat}
theorem rd_of (h : RdLe E E') (hn : ∀ u ∈ E.txs, u.reads.length ≤ n) : ∀ u ∈ E'.txs, u.reads.length ≤ n := fun v hv => by
  obtain ⟨w, hw, h1⟩ := h v hv
  have := hn w hw
  omega
theorem went_commit (hM : Mid0 E) (hn : ∀ u ∈ E.txs, u.reads.length ≤ n) (hu : E.txs[i]? = some u) (hs : u.state = 0) {R : Int × Eng} (hR : commitE 7 E i = some R) : Went E R.2 n ∧ R.2.ce.live < E.ce.live := by
  have hl : liveB u.state = true := live_iff.2 (.inl hs)
  by_cases hb : Between u.ahead u.behind
  · obtain ⟨E', h1, h2, h3, h4⟩ := commit_bad (goes_kp E) hM hu hl hb ⟨(rd_lose E i 13).trans (rd_over _ i 3), later_gone hu hl 13⟩
    rw [h1] at hR
    injection hR with hR
    subst hR
    exact ⟨⟨h2, rd_of h3.1 hn, h3.2⟩, h4⟩
  · obtain ⟨E', h1, h2, h3, h4⟩ := commit_ok (goes_kp E) hM hu hl hb ⟨(RdLe.of_txs (E' := { (installE E i) with com := E.com ++ [i] }) (inst_txs E i)).trans (rd_over _ i 2), later_commit hu hl⟩
    rw [h1] at hR
    injection hR with hR
    subst hR
    exact ⟨⟨h2, rd_of h3.1 hn, h3.2⟩, h4⟩
theorem went_abort (hM : Mid0 E) (hn : ∀ u ∈ E.txs, u.reads.length ≤ n) (hu : E.txs[i]? = some u) (hl : liveB u.state = true) (hR : endF 7 (loseE E i 0) i 3 = some E') : Went E E' n ∧ E'.ce.live < E.ce.live := by
  obtain ⟨E2, h1, h2, h3, h4⟩ := lose_ok (goes_kp E) hM hu hl (why := 0) ⟨(rd_lose E i 0).trans (rd_over _ i 3), later_gone hu hl 0⟩
  rw [h1] at hR
  injection hR with hR
  subst hR
  exact ⟨⟨h2, rd_of h3.1 hn, h3.2⟩, h4⟩
theorem went_read (hM : Mid0 E) (hn : ∀ u ∈ E.txs, u.reads.length ≤ n) (hu : E.txs[i]? = some u) (hs : u.state = 0) {key : Int} (hk : 0 ≤ key ∧ key < 10) {R : (Int × Int) × Eng} (hR : readE 7 E i key = some R) : Went E R.2 (n + 1) := by
  cases hv : u.vals key with
  | some v =>
    have e : R = ((v, 0), E) := by
      unfold readE at hR
      rw [hu] at hR
      simp only at hR
      rw [hv] at hR
      injection hR with hR
      exact hR.symm
    subst e
    exact ⟨hM, fun u hu => by have := hn u hu; omega, Later.refl _⟩
  | none =>
    have hnote : ∀ v ∈ (noteE E i u key).txs, v.reads.length ≤ n + 1 := fun v hv => by
      rcases List.mem_or_eq_of_mem_set hv with hv | rfl
      · have := hn v hv; omega
      · have := hn u (List.mem_of_getElem? hu)
        show (u.reads ++ [_]).length ≤ n + 1
        simp
        omega
    have hln : Later E.ce (noteE E i u key).ce := by rw [ce_note hu]; exact Later.refl _
    have hN : (noteE E i u key).txs[i]? = some (noteReadP u key ((E.wr (verP E key (seesP E u)).1.1).getD 0)) := setTx_get hu
    obtain ⟨R', h1, h2, h3, _⟩ := read_ok (goes_kp (noteE E i u key)) hM hu hs hk hv (fun _ => ⟨RdLe.refl _, Later.refl _⟩) (fun E2 _ ha => by
        have h5 := rd_aow (noteE E i u key) i key
        have h6 := ce_aow (noteE E i u key) i key
        rw [ha] at h5 h6
        exact ⟨h5, by rw [h6]; exact Later.refl _⟩) (fun E2 _ ha => by
        have h5 := rd_aow (noteE E i u key) i key
        have h6 := ce_aow (noteE E i u key) i key
        rw [ha] at h5 h6
        simp only at h6
        obtain ⟨v, hv2, e⟩ : ∃ v, E2.txs[i]? = some v ∧ cor v = cor u := cs_of (by rw [h6, ce_note hu]; exact cs_get hu)
        have hvs : v.state = 0 := by have := congrArg Cor.state e; exact this.trans hs
        have h7 := later_gone hv2 (live_iff.2 (.inl hvs)) 13
        rw [h6] at h7
        exact ⟨h5.trans ((rd_lose E2 i 13).trans (rd_over _ i 3)), h7⟩)
    rw [h1] at hR
    injection hR with hR
    subst hR
    exact ⟨h2, rd_of h3.1 hnote, hln.trans h3.2⟩
theorem later_want (hu : E.txs[i]? = some u) (hs : u.state = 0) (key val : Int) (T' : Tab) : Later E.ce (wantE E i u key val T').ce := by
  rw [want_ce]
  exact Later.set (t' := { cor u with wk := key, wv := val }) (cs_get hu) (live_iff.2 (.inl hs)) rfl rfl rfl rfl
theorem rd_want (hu : E.txs[i]? = some u) (key val : Int) (T' : Tab) : RdLe E (wantE E i u key val T') := (RdLe.set (t' := { u with wk := key, wv := val }) hu (Nat.le_refl _)).trans (RdLe.of_txs rfl)
theorem later_putOpen {E2 : Eng} {why : Int} (hu : E.txs[i]? = some u) (hs : u.state = 0) (hp : putE E i = (why, E2)) : Later E.ce E2.ce ∧ ∃ v, E2.txs[i]? = some v ∧ v.state = 0 := by
  have hl : liveB u.state = true := live_iff.2 (.inl hs)
  rcases ce_put hu hp with ⟨rfl, rfl, _, _⟩ | ⟨hy, hn, he⟩
  · exact ⟨Later.refl _, u, hu, hs⟩
  · obtain ⟨v, hv, e⟩ := cs_of (E := E2) (i := i) (by rw [he]; exact set_same (cs_get hu))
    exact ⟨Later.set (t' := { cor u with vals := updT u.vals u.wk (some u.wv) }) (cs_get hu) hl rfl rfl (by rw [he]) (by rw [he]), v, hv, by have := congrArg Cor.state e; exact this.trans hs⟩
theorem went_write (hM : Mid0 E) (hn : ∀ u ∈ E.txs, u.reads.length ≤ n) (hu : E.txs[i]? = some u) (hs : u.state = 0) {key val : Int} (hk : 0 ≤ key ∧ key < 10) (hv : -1099511627776 ≤ val ∧ val ≤ 1099511627776) {q : Int → Nat} (hq : Ranked E.T q) {R : (Bool × Int) × Eng} (hR : writeE 7 q E i key val = some R) : Went E R.2 n := by
  have hl : liveB u.state = true := live_iff.2 (.inl hs)
  obtain ⟨R', h1, h2, h3, _⟩ := write_ok (goes_kp E) hM hu hs hk hv hq
    ⟨(rd_want hu key val E.T).trans ((rd_lose _ i 11).trans (rd_over _ i 3)), (later_want hu hs key val E.T).trans (later_gone (want_get (key := key) (val := val) hu E.T) hl 11)⟩
    ⟨(rd_want hu key val _).trans (RdLe.set (want_get (key := key) (val := val) hu _) (Nat.le_refl _)), (later_want hu hs key val _).trans (by
      rw [ce_set]
      exact Later.set (t' := cor { u with wk := key, wv := val, state := 1 }) (cs_get (want_get (key := key) (val := val) hu _)) hl rfl rfl rfl rfl)⟩
    (fun T' E2 _ hp => by
      have h5 := rd_put (wantE E i u key val T') i
      rw [hp] at h5
      exact ⟨(rd_want hu key val T').trans h5, (later_want hu hs key val T').trans (later_putOpen (want_get (key := key) (val := val) hu T') hs hp).1⟩)
    (fun T' why E2 _ _ hp => by
      have h5 := rd_put (wantE E i u key val T') i
      rw [hp] at h5
      obtain ⟨h6, v, hv2, hvs⟩ := later_putOpen (want_get (key := key) (val := val) hu T') hs hp
      exact ⟨((rd_want hu key val T').trans h5).trans ((rd_lose E2 i why).trans (rd_over _ i 3)), ((later_want hu hs key val T').trans h6).trans (later_gone hv2 (live_iff.2 (.inl hvs)) why)⟩)
  rw [h1] at hR
  injection hR with hR
  subst hR
  exact ⟨h2, rd_of h3.1 hn, h3.2⟩
end

end Go.Proofs.YtjefgmeejhakbaaGreatDoor

/- Plain: each act keeps what is asked of a tale. -/
namespace Go.Proofs.YtjefgmeejhakbaaGreatDoor

structure POk (E : Eng) (t : Tal) (n : Nat) : Prop where
  mid : Mid0 E
  steps : 0 ≤ t.steps ∧ t.steps ≤ n
  num : 0 ≤ t.n ∧ t.n ≤ n
  rd : ∀ u ∈ E.txs, u.reads.length ≤ n
  tr : ∀ l ∈ t.reads, l.length ≤ n
  ts : ∀ l ∈ t.snap, l.length ≤ 10
theorem all_len (E : Eng) : (allE E).length ≤ 10 := by
  have key : ∀ (f : Nat → Option (Int × Int)) (m : Nat), (allK f m).length ≤ m := by
    intro f m
    induction m with
    | zero => simp [allK]
    | succ m ih =>
      rw [allK]
      cases f m <;> simp <;> omega
  exact key _ 10
theorem POk.step {E E' : Eng} {t : Tal} {n : Nat} (h : POk E t n) (hM : Mid0 E') (hr : ∀ u ∈ E'.txs, u.reads.length ≤ n + 1) {own' : List (Int → Option Int)} {over' : List Int} {reads' : List (List (Int × Int))} {n' : Int} {b : Bool} (hn : 0 ≤ n' ∧ n' ≤ n + 1) (htr : ∀ l ∈ reads', l.length ≤ n + 1) : POk E' { t with own := own', over := over', reads := reads', n := n', steps := t.steps + 1, broken := b } (n + 1) :=
  ⟨hM, by have := h.steps; show 0 ≤ t.steps + 1 ∧ t.steps + 1 ≤ ((n + 1 : Nat) : Int); omega, by show 0 ≤ n' ∧ n' ≤ ((n + 1 : Nat) : Int); omega, hr, htr, h.ts⟩
theorem mem_set_len {l : List (List (Int × Int))} {x n : Nat} {y : List (Int × Int)} (h : ∀ m ∈ l, m.length ≤ n) (hy : y.length ≤ n + 1) : ∀ m ∈ l.set x y, m.length ≤ n + 1 := fun m hm => by
  rcases List.mem_or_eq_of_mem_set hm with hm | rfl
  · have := h m hm; omega
  · exact hy
theorem mid0_eng0 : Mid0 eng0 := by
  have hcw : eng0.ce.cw = [] := rfl
  refine ⟨⟨good0, fun k x h => (by cases h), fun k i h => (by cases h), fun i t h => (by simp [eng0, Eng.ce] at h), fun i h => h.elim, fun i t k h => (by simp [eng0, Eng.ce] at h)⟩, ⟨fun i t h => (by simp [eng0, Eng.ce] at h), by decide, by decide⟩, ?_⟩
  refine ⟨List.Pairwise.nil, fun i => ⟨fun h => (by cases h), fun ⟨t, h, _⟩ => (by simp [eng0, Eng.ce] at h)⟩, fun i t h => (by simp [eng0, Eng.ce] at h), by decide, rfl, rfl, fun c => ?_, rfl, fun a ha => ⟨0, Nat.zero_le _, ?_, fun u _ => .inl rfl⟩, fun i j t a c h => (by simp [eng0, Eng.ce] at h)⟩
  · rw [hcw]
    split <;> rfl
  · show (List.replicate 10 ([] : List (Int × Int)))[a]? = _
    rw [List.getElem?_replicate, if_pos ha]
    rfl
def tal00 : Tal := ⟨[], [], [], [], [], [], 0, 0, false⟩
theorem pok0 : POk eng0 tal00 0 := ⟨mid0_eng0, by decide, by decide, fun u hu => (by cases hu), fun u hu => (by cases hu), fun u hu => (by cases hu)⟩

theorem Does.pok {lv : Int} {E E' : Eng} {t t' : Tal} {n : Nat} (hd : Does lv E t E' t') (h : POk E t n) (hn : n ≤ 1000) : POk E' t' (n + 1) := by
  have hrd1 : ∀ u ∈ E.txs, u.reads.length ≤ n + 1 := fun u hu => by have := h.rd u hu; omega
  have htr1 : ∀ l ∈ t.reads, l.length ≤ n + 1 := fun u hu => by have := h.tr u hu; omega
  have hnum := h.num
  cases hd with
  | same => exact h.step h.mid hrd1 (own' := t.own) (over' := t.over) (n' := t.n) (by omega) htr1
  | begin level hl0 hl ho =>
    have h1 := h.mid.begin hl0.1 hl (by rw [← live_len]; exact ho)
    refine ⟨h1, by have := h.steps; show 0 ≤ t.steps + 1 ∧ t.steps + 1 ≤ ((n + 1 : Nat) : Int); omega, by show 0 ≤ t.n ∧ t.n ≤ ((n + 1 : Nat) : Int); omega, fun u hu => ?_, fun l hl' => ?_, fun l hl' => ?_⟩
    · rcases List.mem_append.1 hu with hu | hu
      · exact hrd1 u hu
      · rw [List.mem_singleton.1 hu]; exact Nat.zero_le _
    · rcases List.mem_append.1 (show l ∈ t.reads ++ [[]] from hl') with hu | hu
      · exact htr1 l hu
      · rw [List.mem_singleton.1 hu]; exact Nat.zero_le _
    · rcases List.mem_append.1 (show l ∈ t.snap ++ [allE E] from hl') with hu | hu
      · exact h.ts l hu
      · rw [List.mem_singleton.1 hu]; exact all_len E
  | sweep => exact h.step h.mid.sweep hrd1 (own' := t.own) (over' := t.over) (n' := t.n) (by omega) htr1
  | shut => exact h.step h.mid hrd1 (own' := t.own) (n' := t.n) (by omega) htr1
  | read x u key R hu hs hk hR =>
    have hw := went_read h.mid h.rd hu hs (by omega) hR
    unfold readT
    split
    · exact h.step hw.mid hw.rd (own' := t.own) (n' := t.n) (by omega) htr1
    · split
      · exact h.step hw.mid hw.rd (own' := t.own) (n' := t.n) (by omega) htr1
      · refine h.step hw.mid hw.rd (own' := t.own) (n' := t.n) (by omega) (mem_set_len h.tr ?_)
        cases hx : (stepT t).reads[x]? with
        | none => simp
        | some l =>
          have := h.tr l (List.mem_of_getElem? (show t.reads[x]? = some l from hx))
          simp
          omega
  | wshut => exact h.step h.mid hrd1 (own' := t.own) (n' := t.n + 1) (by omega) htr1
  | write x u key q R hu hs hk hq hR =>
    have hw := went_write h.mid h.rd hu hs (key := key) (val := t.n + 1) (by omega) (by omega) hq hR
    have hr1 : ∀ u ∈ R.2.txs, u.reads.length ≤ n + 1 := fun u hu => by have := hw.rd u hu; omega
    unfold writeT
    split
    · exact h.step hw.mid hr1 (own' := t.own) (n' := t.n + 1) (by omega) htr1
    · exact h.step hw.mid hr1 (n' := t.n + 1) (by omega) htr1
  | commit x u R hu hs hR =>
    have hw := (went_commit h.mid h.rd hu hs hR).1
    exact h.step hw.mid (fun u hu => by have := hw.rd u hu; omega) (own' := t.own) (n' := t.n) (by omega) htr1
  | abort x u E' hu hs hR =>
    have hw := (went_abort h.mid h.rd hu hs hR).1
    exact h.step hw.mid (fun u hu => by have := hw.rd u hu; omega) (own' := t.own) (n' := t.n) (by omega) htr1

end Go.Proofs.YtjefgmeejhakbaaGreatDoor
