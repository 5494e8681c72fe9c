/- law.OrderLines: the walk. -/
import Derived.Test.YtjefgmeejhakbaaGreatDoorRoLineR
import Derived.Test.YtjefgmeejhakbaaGreatDoorSameWR
namespace Go.Proofs.YtjefgmeejhakbaaGreatDoor
open Go.RowKit
set_option maxRecDepth 100000 in
set_option maxHeartbeats 1000000 in
theorem olines_long (ad : Option Addr) (n cap : Nat) (w : World) (hn : 60 < n) :
    Calls Tryz.prog 3 #[.slice ad n cap] w fun e w' => e = .returned (.bool true) ∧ Below w.heap.size w w' := by
  have h1 : (60 : Int) < (n : Int) := by omega
  go_enter Tryz.func3, Tryz.ntmps3
  go_wp2
  go_ret
  exact ⟨rfl, Below.refl _ _⟩
structure Both4 (w w4 : World) (l : List Opp) (av bv xv yv e1 e2 : Value) (B1 B2 : Nat) (c p c2 p2 : Int) (E : List (Int × Int)) (o : List Int) : Prop where
  bel : Below w.heap.size w w4
  hh : Handle w4
  a : w4.ownsRow w.heap.size 78 2 av E.length (vrow E)
  x : w4.ownsRow w.heap.size 78 2 xv E.length (vrow E)
  b : LineAt w4 bv o
  y : LineAt w4 yv o
  f : w4.heap[B1]? = some (.cells #[.int .i64 c, .int .i64 p] 26 (0, 0))
  g : w4.heap[B2]? = some (.cells #[.int .i64 c2, .int .i64 p2] 26 (0, 0))
  e1 : ErrIs w4 e1 c p
  e2 : ErrIs w4 e2 c2 p2
theorem Both4.later {w w4 w5 : World} {l : List Opp} {av bv xv yv e1 e2 : Value} {B1 B2 : Nat} {c p c2 p2 : Int} {E : List (Int × Int)} {o : List Int} (h : Both4 w w4 l av bv xv yv e1 e2 B1 B2 c p c2 p2 E o) (hB : Below w4.heap.size w4 w5) : Both4 w w5 l av bv xv yv e1 e2 B1 B2 c p c2 p2 E o :=
  ⟨h.bel.trans (hB.mono h.bel.size), h.hh.below hB h.hh.pos, owns_same h.a (fun g e => hB.block g (h.a.lt g e).2), owns_same h.x (fun g e => hB.block g (h.x.lt g e).2), h.b.below hB, h.y.below hB,
    (hB.block _ (Array.getElem?_eq_some_iff.1 h.f).1).trans h.f, (hB.block _ (Array.getElem?_eq_some_iff.1 h.g).1).trans h.g, h.e1.below hB, h.e2.below hB⟩
theorem line_le {l : List Opp} {mb mr : Nat} {c p : Int} {o : List Int} (h : LineAre l mb mr c p o) : o.length ≤ l.length := by
  rcases h with ⟨_, _, _, rfl⟩ | ⟨_, _, _, _, rfl⟩ | ⟨_, _, E, _, ⟨h, _, _⟩ | ⟨_, rfl, _⟩⟩
  · simp
  · simp
  · obtain ⟨h1, h2, _⟩ := line_ok E _ _ o (Nat.le_refl _) (nodup_txs l) h
    exact Nat.le_trans (nodup_le_of_subset h2 (fun y hy => (h1 y).1 hy)) (txs_length l)
  · simp
set_option maxRecDepth 100000 in
set_option maxHeartbeats 4000000 in
theorem olines_walk (ad : Option Addr) (cap : Nat) (l : List Opp) (w : World) (hn : l.length ≤ 60) (hO : OpsAt w ad l) (hH : Handle w) :
    Calls Tryz.prog 3 #[.slice ad l.length cap] w fun e w' => e = .returned (.bool true) ∧ Below w.heap.size w w' := by
  obtain ⟨mb, hb⟩ := fineTo_ex opBad l
  obtain ⟨mr, hr⟩ := fineTo_ex (badRead l) l
  have hn1 : ¬ (60 : Int) < (l.length : Int) := by omega
  have HC1 := hid (refEdges_are ad cap l w (by omega) hO mb mr hb hr)
  have HC2 := hid (fun W (hW : Below w.heap.size w W) => refLine_are ad cap l W (by omega) (hO.below hW) mb mr hb hr)
  have HC3 := hid (fun W (hW : Below w.heap.size w W) => edgesL_are ad cap l W (by omega) (hO.below hW) mb mr hb hr)
  have HC4 := hid (fun W (hW : Below w.heap.size w W) => lineL_are ad cap l W (by omega) (hO.below hW) mb mr hb hr)
  have HH := hid hH
  clear hO hH hb hr
  go_enter Tryz.func3, Tryz.ntmps3
  go_wp2_with fail
  refine HC1.out.mono ?_
  rintro e w1 ⟨av, c, p, E, rfl, hB1, hoA, hEA⟩
  have hA1 := (Below.refl w1.heap.size w1).alloc (Nat.le_refl _) (.cells #[.int .i64 c, .int .i64 p] 26)
  have K1 := hid (And.intro hoA (And.intro hEA (And.intro hA1 (And.intro (hB1.trans (hA1.mono hB1.size)) hB1.size))))
  clear hB1 hoA hEA hA1 HC1
  go_wp2_with fail
  refine (HC2.out _ K1.out.2.2.2.1).mono ?_
  rintro e w2 ⟨bv, c2, p2, o2, rfl, hB2, hoB, hLA⟩
  have hX2 := (hB2.block w1.heap.size (by simp)).trans (heap_alloc_new w1 (.cells #[.int .i64 c, .int .i64 p] 26))
  have hA2 := (Below.refl w2.heap.size w2).alloc (Nat.le_refl _) (.cells #[.int .i64 c2, .int .i64 p2] 26)
  have h02 := K1.out.2.2.2.1.trans (hB2.mono K1.out.2.2.2.1.size)
  have h12 := K1.out.2.2.1.trans (hB2.mono (by simp))
  have K2 := hid (And.intro hoB (And.intro hLA (And.intro hA2 (And.intro (h02.trans (hA2.mono h02.size)) (And.intro hX2 h12)))))
  clear hB2 hoB hLA hA2 h02 hX2 h12 HC2
  go_wp2_with fail
  refine (HC3.out _ K2.out.2.2.2.1).mono ?_
  rintro e w3 ⟨xv, ev1, c', p', E', rfl, hB3, hE3, hoX, hEl, hEA'⟩
  obtain ⟨rfl, rfl, rfl⟩ := K1.out.2.1.one hEA'
  have h03 := K2.out.2.2.2.1.trans (hB3.mono K2.out.2.2.2.1.size)
  have hX3 := (hB3.block w2.heap.size (by simp)).trans (heap_alloc_new w2 (.cells #[.int .i64 c2, .int .i64 p2] 26))
  have h23 := K2.out.2.2.1.trans (hB3.mono (by simp))
  have K3 := hid (And.intro hE3 (And.intro hoX (And.intro h03 (And.intro hX3 h23))))
  clear hB3 hE3 hoX hEA' h03 hX3 h23 HC3
  go_wp2_with fail
  refine (HC4.out _ K3.out.2.2.1).mono ?_
  rintro e w4 ⟨yv, ev2, c2', p2', o2', rfl, hB4, hE4, hoY, hLA'⟩
  obtain ⟨rfl, rfl, rfl⟩ := K2.out.2.1.one hLA'
  have hol := line_le hLA'
  have h4 : Both4 w w4 l av bv xv yv ev1 ev2 w1.heap.size w2.heap.size c p c2 p2 E o2 := by
    obtain ⟨hoA, _, hA1, h01, hs1⟩ := K1.out
    obtain ⟨hoB, _, hA2, h02, hX2, h12⟩ := K2.out
    obtain ⟨hE3, hoX, h03, hX3, h23⟩ := K3.out
    have h04 := h03.trans (hB4.mono h03.size)
    have h24 := h23.trans (hB4.mono h23.size)
    have h14 := h12.trans (h24.mono h12.size)
    refine ⟨h04, HH.out.below h04 HH.out.pos, owns_same hoA (fun g e => h14.block g (hoA.lt g e).2), owns_same (owns_base hoX (by have h9 := Nat.le_trans hs1 h12.size; simp; omega)) (fun g e => hB4.block g (hoX.lt g e).2), (LineAt.of_row hoB).below h24, LineAt.of_row hoY, ?_, ?_, hE3.below hB4, hE4⟩
    · exact (h24.block _ (Array.getElem?_eq_some_iff.1 hX2).1).trans hX2
    · exact (hB4.block _ (Array.getElem?_eq_some_iff.1 hX3).1).trans hX3
  have H4 := hid h4
  have f0 : w4.cell? ⟨w1.heap.size, 0, none⟩ = some (.int .i64 c) := (cell_of_row _ _ 0 _ _ (0, 0) h4.f).trans rfl
  have f1 : w4.cell? ⟨w1.heap.size, 1, none⟩ = some (.int .i64 p) := (cell_of_row _ _ 1 _ _ (0, 0) h4.f).trans rfl
  clear hB4 hE4 hoY hLA' HC4 h4
  go_wp2_with fail
  refine (is_true c p ev1 w4 H4.out.e1 H4.out.hh).mono ?_
  rintro e w5 ⟨rfl, hB5⟩
  have H5 := hid (H4.out.later hB5)
  clear hB5 f0 f1
  go_wp2_with fail
  refine (sameW_true _ _ xv av E w5 (by omega) H5.out.x H5.out.a).mono ?_
  rintro e w6 ⟨rfl, hB6⟩
  have h6 := H5.out.later hB6
  have H6 := hid h6
  have g0 : w6.cell? ⟨w2.heap.size, 0, none⟩ = some (.int .i64 c2) := (cell_of_row _ _ 0 _ _ (0, 0) h6.g).trans rfl
  have g1 : w6.cell? ⟨w2.heap.size, 1, none⟩ = some (.int .i64 p2) := (cell_of_row _ _ 1 _ _ (0, 0) h6.g).trans rfl
  clear hB6 h6
  go_wp2_with fail
  refine (is_true c2 p2 ev2 w6 H6.out.e2 H6.out.hh).mono ?_
  rintro e w7 ⟨rfl, hB7⟩
  have H7 := hid (H6.out.later hB7)
  clear hB7 g0 g1
  go_wp2_with fail
  refine (same_true yv bv o2 w7 (by omega) H7.out.y H7.out.b).mono ?_
  rintro e w8 ⟨rfl, hB8⟩
  have H8 := hid (H7.out.later hB8)
  clear hB8
  go_wp2
  go_ret
  exact ⟨rfl, H8.out.bel⟩
end Go.Proofs.YtjefgmeejhakbaaGreatDoor
