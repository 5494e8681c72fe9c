/- keep.held: a fact: two that want what the other one has. -/
import Derived.Test.YtjefgmeejhakbaaDoorLkDrop
import Derived.Test.YtjefgmeejhakbaaDoorTell
namespace Go.Proofs.YtjefgmeejhakbaaDoor
open Go.RowKit

def tab0 : Tab := fun _ => []
def tab1 : Tab := updT tab0 3 [1]
def tab2 : Tab := updT tab1 4 [2]
def tab3 : Tab := updT tab2 4 [2, 1]
theorem ask1 (q : Int → Nat) : askP tab0 q 1 3 = (true, 0, tab1) := by
  unfold askP
  rw [if_neg (by decide), if_neg (by decide), if_neg (by decide), if_pos (by rfl)]
  rfl
theorem ask2 (q : Int → Nat) : askP tab1 q 2 4 = (true, 0, tab2) := by
  unfold askP
  rw [if_neg (by decide), if_neg (by decide), if_neg (by decide), if_pos (by rfl)]
  rfl
theorem ask3 (q : Int → Nat) : askP tab2 q 1 4 = (false, 0, tab3) := by
  unfold askP
  rw [if_neg (by decide), if_neg (by decide), if_neg (by decide), if_neg (by decide)]
  have e : holdsP tab2 4 = 2 := by decide
  have e2 : waitsP tab2 2 = -1 := by decide
  rw [e, reachP, e2]
  rfl
theorem ask4 (q : Int → Nat) : askP tab3 q 2 3 = (false, 11, tab3) := by
  unfold askP
  rw [if_neg (by decide), if_neg (by decide), if_neg (by decide), if_neg (by decide)]
  have e : holdsP tab3 3 = 1 := by decide
  have e2 : waitsP tab3 1 = 4 := by decide
  have e3 : holdsP tab3 4 = 2 := by decide
  rw [e, reachP, e2, e3]
  rfl
theorem out4 : outP tab3 2 = [(4, 1)] := by decide
theorem holds4 : holdsP (dropP tab3 2) 4 = 1 := by decide
theorem good0 : Good tab0 := Good.nil
theorem good_of {T T' : Tab} {tx key : Int} {b : Bool} {c : Int} (h : Good T) (ht : tx ≤ 100) (e : ∀ q, askP T q tx key = (b, c, T')) : Good T' := by
  obtain ⟨q, hq⟩ := h.rank
  have := h.ask hq tx key (by omega)
  rwa [e q] at this

set_option maxRecDepth 100000 in
set_option maxHeartbeats 4000000 in
theorem held_any (w : World) (hH : Handle w) : Calls Tryd.prog 37 #[] w fun e w' => e = .returned (.bool true) ∧ Below w.heap.size w w' := by
  have hT0 := TabAt.zero w
  have hg1 := good_of good0 (by omega) ask1
  have hg2 := good_of hg1 (by omega) ask2
  have hg3 := good_of hg2 (by omega) ask3
  obtain ⟨q0, hq0⟩ := good0.rank
  obtain ⟨q1, hq1⟩ := hg1.rank
  obtain ⟨q2, hq2⟩ := hg2.rank
  obtain ⟨q3, hq3⟩ := hg3.rank
  have hp := hH.pos
  have HH := hid hH
  have HT0 := hid hT0
  have HG := hid (And.intro hg1 (And.intro hg2 hg3))
  have HQ := hid (And.intro hq0 (And.intro hq1 (And.intro hq2 hq3)))
  have hB0 : Below w.heap.size w (w.alloc (.cells #[.map none, .map none, .map none] 71)) := (Below.refl _ _).alloc (Nat.le_refl _) _
  have HB0 := hid hB0
  clear hT0 hg1 hg2 hg3 hq0 hq1 hq2 hq3 hH hB0
  go_enter Tryd.func37, Tryd.ntmps37
  go_wp2_with fail
  refine (ask_any w.heap.size 0 noM tab0 q0 1 3 _ HT0.out good0 HQ.out.1 (by unfold I64; omega) (by unfold I64; omega) (by omega)).mono ?_
  rw [ask1]
  rintro e w1 ⟨rfl, M1, hT1, hK1⟩
  have HT1 := hid hT1
  have HK1 := hid hK1
  clear hT1 hK1 HT0
  simp only [errV, if_true]
  go_wp2_with fail
  refine (ask_any w.heap.size _ M1 tab1 q1 2 4 _ HT1.out HG.out.1 HQ.out.2.1 (by unfold I64; omega) (by unfold I64; omega) (by omega)).mono ?_
  rw [ask2]
  rintro e w2 ⟨rfl, M2, hT2, hK2⟩
  have HT2 := hid hT2
  have HK2 := hid (HK1.out.trans hK2)
  clear hT2 hK2 HT1 HK1
  simp only [errV, if_true]
  go_wp2_with fail
  refine (ask_any w.heap.size _ M2 tab2 q2 1 4 _ HT2.out HG.out.2.1 HQ.out.2.2.1 (by unfold I64; omega) (by unfold I64; omega) (by omega)).mono ?_
  rw [ask3]
  rintro e w3 ⟨rfl, M3, hT3, hK3⟩
  have HT3 := hid hT3
  have HK3 := hid (HK2.out.trans hK3)
  clear hT3 hK3 HT2 HK2
  simp only [errV, if_true]
  go_wp2_with fail
  refine (ask_any w.heap.size _ M3 tab3 q3 2 3 _ HT3.out HG.out.2.2 HQ.out.2.2.2 (by unfold I64; omega) (by unfold I64; omega) (by omega)).mono ?_
  rw [ask4]
  rintro e w4 ⟨rfl, M4, hT4, hK4⟩
  have HT4 := hid hT4
  have HK4 := hid (HK3.out.trans hK4)
  clear hT4 hK4 HT3 HK3
  have hne : (11 : Int) ≠ 0 := by omega
  simp only [errV, hne, if_false]
  clear hne
  go_wp2_with fail
  refine (drop_any w.heap.size _ M4 tab3 2 _ HT4.out HG.out.2.2 (by unfold I64; omega) (by omega)).mono ?_
  rw [out4]
  rintro e w5 ⟨v, rfl, ho5, M5, hT5, hK5, _⟩
  have HK5 := hid (HK4.out.trans hK5)
  have HT5 := hid hT5
  have hB5 : Below w.heap.size w w5 := HB0.out.trans (HK5.out.below (by simp) (fun b hb => (by
    rcases hb with e | e | e | e | ⟨k, v, e, _⟩
    · omega
    · cases e
    · cases e
    · cases e
    · cases e)))
  rcases row_slice ho5 with ⟨_, e0⟩ | ⟨g, c, rfl, hgl, hcg⟩
  · simp at e0
  have x0 : w5.cell? ⟨g, 0, none⟩ = some (.int .i64 4) := hcg 0 _ rfl
  have x1 : w5.cell? ⟨g, 1, none⟩ = some (.int .i64 1) := hcg 1 _ rfl
  have HB5 := hid hB5
  have HHW := hid (show Handle w5 from (HB5.out.cell (p := ⟨0, 0, none⟩) hp).trans HH.out)
  clear hT5 hK5 HT4 HK4 ho5 hB5 hcg
  simp only [List.length_cons, List.length_nil, Nat.zero_add]
  go_wp2_with fail
  refine (tell_errno 11 _ HHW.out).mono ?_
  rintro e w6 ⟨rfl, hB6⟩
  have y0 : w6.cell? ⟨g, 0, none⟩ = some (.int .i64 4) := (hB6.cell (p := ⟨g, 0, none⟩) hgl).trans x0
  have y1 : w6.cell? ⟨g, 1, none⟩ = some (.int .i64 1) := (hB6.cell (p := ⟨g, 1, none⟩) hgl).trans x1
  have HT6 := hid (HT5.out.below hB6)
  have HB6 := hid (HB5.out.trans (hB6.mono HB5.out.size))
  clear hB6 x0 x1 HT5 HB5 HK5 hgl
  obtain ⟨h6, wa6, ln6, r6, R6⟩ := HT6.out
  have hh := holdsR w.heap.size _ M5 R6 4 w6 r6 (by unfold I64; omega)
  rw [holds4] at hh
  have HHO := hid hh
  clear r6 R6 hh
  go_wp2_with (go_at_call 33; refine HHO.out.mono ?_; rintro e w' ⟨rfl, rfl⟩)
  go_ret
  exact ⟨rfl, HB6.out⟩

end Go.Proofs.YtjefgmeejhakbaaDoor
