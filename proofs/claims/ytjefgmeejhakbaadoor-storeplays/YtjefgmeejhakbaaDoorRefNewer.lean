/- The document's Newer. -/
import Derived.Test.YtjefgmeejhakbaaDoorAll
import Derived.Test.YtjefgmeejhakbaaDoorShelf
import Derived.Sort.OwnSortedInts
namespace Go.Proofs.YtjefgmeejhakbaaDoor
open Go.RowKit Go.Sort

/-- The times of a key's versions that are later than t, as they came. -/
def newsR (k t : Int) (L : List (Int × Int × Int)) : List Int := (L.filter fun x => decide (x.1 = k) && decide (t < x.2.1)).map fun x => x.2.1
theorem newsR_snoc (k t : Int) (L : List (Int × Int × Int)) (x : Int × Int × Int) : newsR k t (L ++ [x]) = newsR k t L ++ (if x.1 = k ∧ t < x.2.1 then [x.2.1] else []) := by
  unfold newsR
  rw [List.filter_append, List.map_append]
  congr 1
  by_cases h : x.1 = k ∧ t < x.2.1
  · simp [h]
  · rw [if_neg h]
    have : (decide (x.1 = k) && decide (t < x.2.1)) = false := by simpa using h
    simp [this]
theorem newsR_length (k t : Int) (L : List (Int × Int × Int)) : (newsR k t L).length ≤ L.length := by
  unfold newsR
  rw [List.length_map]
  exact List.length_filter_le _ _
/-- sort.Ints of a row of one's own that rises already. -/
theorem sort_rising (base : Nat) (tv : Value) (l : List Int) (w : World) (ho : w.ownsRow base 3 1 tv l.length (intsV l)) (hr : l.Pairwise (· ≤ ·)) (hn : l.length ≤ 1000000) :
    Calls Tryd.prog 52 #[tv] w fun e w' => e = .returned (.tuple #[]) ∧ w'.ownsRow base 3 1 tv l.length (intsV l) ∧ w.grownBy w' tv.ownBlock := by
  rcases ho.2 with ⟨rfl, hz⟩ | ⟨g, cap, cur, rfl, hb, hg, h1, h2, h3, h4⟩
  · refine (Tryd.sort_Ints_none none 0 w).mono ?_
    rintro e w' ⟨rfl, rfl⟩
    exact ⟨rfl, ho, ⟨rfl, rfl, rfl, Nat.le_refl _, fun _ _ _ => rfl⟩⟩
  · refine (Tryd.sort_Ints g 0 cap l w (holds_of_blockI hg (by simpa [intsV] using h4)) (Array.getElem?_eq_some_iff.1 hg).1 (by omega)).mono ?_
    rintro e w' ⟨rfl, n, os, rfl⟩
    have e1 : (l.mergeSort fun x y => decide (x ≤ y)) = l := List.mergeSort_of_pairwise (hr.imp (fun h => by simpa using h))
    rw [e1]
    exact ⟨rfl, ownsRow_sortedI rfl hb hg h1 h2 (by simpa using h3), grownBy_sortedI _⟩

set_option maxRecDepth 100000 in
set_option maxHeartbeats 2000000 in
theorem refNewer_walk (base R g cap : Nat) (k t last : Int) (L : List (Int × Int × Int)) (w : World) (hk : inB k 0 9 = true) (hlen : L.length ≤ 100000) (hr : (newsR k t L).Pairwise (· ≤ ·)) (h : Ref w base R last (.slice (some ⟨g, 0, none⟩) L.length cap) L) :
    Calls Tryd.prog 15 #[.pointer (some ⟨R, 0, none⟩), .int .i64 k, .int .i64 t] w fun e w' => ∃ tv, e = .returned (.tuple #[tv, .int .i64 0]) ∧
      w'.ownsRow w.heap.size 3 1 tv (newsR k t L).length (intsV (newsR k t L)) ∧ Below w.heap.size w w' := by
  obtain ⟨i0, hi0, hz0, hz1, hz2⟩ := info_parts info3
  have hc := h.c0
  have hR := h.lt
  obtain ⟨hgl, hcells⟩ : g < w.heap.size ∧ ∀ j k a v, L[j]? = some (k, a, v) → w.cell? ⟨g, j * 3, none⟩ = some (.int .i64 k) ∧ w.cell? ⟨g, j * 3 + 1, none⟩ = some (.int .i64 a) ∧ w.cell? ⟨g, j * 3 + 2, none⟩ = some (.int .i64 v) := by
    rcases h.slice with ⟨e, _⟩ | ⟨g', cp, e, h1, h2, h3⟩
    · cases e
    · cases e; exact ⟨h1, h3⟩
  have HC := hid hcells
  have HR := hid hr
  clear hcells hr h
  go_enter Tryd.func15, Tryd.ntmps15
  go_wp2_with (go_at_call 48; refine (in_any _ _ _ _).mono ?_; rintro e w' ⟨rfl, hw1⟩; rw [hw1]; clear hw1 w')
  go_loopw [8, 19] (fun tv i wr => ∃ j : Nat, j ≤ L.length ∧ i = .int .i64 j ∧ wr.ownsRow w.heap.size 3 1 tv (newsR k t (L.take j)).length (intsV (newsR k t (L.take j))) ∧ Below w.heap.size w wr) (fun _ i _ => L.length - (intOf i).toNat)
  case atStart => exact ⟨0, Nat.zero_le _, rfl, by simpa [newsR, intsV] using World.ownsRow_nil w w.heap.size 3 1, Below.refl _ _⟩
  case round =>
    obtain ⟨j, hj, rfl, hown, hB⟩ := hrel
    have hBs := hB.size
    by_cases hlt : j < L.length
    · obtain ⟨⟨k', a, v⟩, hav⟩ : ∃ p, L[j]? = some p := ⟨L[j], List.getElem?_eq_getElem hlt⟩
      obtain ⟨d1, d2, d3⟩ := HC.out j k' a v hav
      have e1 := (hB.cell (p := ⟨g, j * 3, none⟩) hgl).trans d1
      have e2 := (hB.cell (p := ⟨g, j * 3 + 1, none⟩) hgl).trans d2
      have e3 := (hB.cell (p := ⟨g, j * 3 + 2, none⟩) hgl).trans d3
      have hst : Hid (newsR k t (L.take (j + 1)) = newsR k t (L.take j) ++ (if k' = k ∧ t < a then [a] else [])) := by
        show _ = _
        rw [List.take_add_one, hav]
        exact newsR_snoc _ _ _ _
      have hj0 : (0 : Int) ≤ (j : Int) := by omega
      have hj1 : (j : Int) < (L.length : Int) := by omega
      have hnl : (newsR k t (L.take j)).length ≤ 100000 := by
        have h1 := newsR_length k t (L.take j)
        have h2 := List.length_take_le j L
        omega
      have HO := hid hown
      clear hav d1 d2 d3 hown
      by_cases q1 : k' = k
      · have q1' : (k' == k) = true := by simpa using q1
        have Q1 := hid q1
        clear q1
        by_cases q2 : t < a
        · go_wp2_with (at_builtin; refine wpList_append_lies _ rfl _ _ _ rfl w.heap.size 3 i0 _ 1 8 Tryd.underlying49 hi0 hz0 hz1 hz2 rfl (by omega) u8 _ _ rfl ((HO.out.alloc _).alloc _) ⟨wr.heap.size + 1, 0, none⟩ 1 1 [.int .i64 a] rfl rfl (World.news_of_block (cs := #[.int .i64 a]) (t := 3) (fr := (0, 0)) (by have := heap_alloc_new (wr.alloc (.cells #[.int .i64 k', .int .i64 a, .int .i64 v] 107)) (.cells #[.int .i64 a] 3); simpa using this)) (by simp [Value.oneCell']) (by omega) (by unfold maxLen; omega) (by omega) (by simp; omega) (wr.heap.size + 1 + 1) (by simp) ?_; intro g' cap' w2 ho hgrow hat hlt2)
          go_roundw
          case rel =>
            refine ⟨j + 1, by omega, by go_num, ?_, ?_⟩
            · rw [hst.out, if_pos ⟨Q1.out, q2⟩, List.length_append]
              have : intsV (newsR k t (L.take j) ++ [a]) = intsV (newsR k t (L.take j)) ++ [.int .i64 a] := by simp [intsV]
              rw [this]
              exact ho
            · exact hB.trans (((((Below.refl _ wr).alloc (Nat.le_refl _) _).alloc (by simp) _).mono hBs).grown hgrow (by simp; omega) (fun k e => (HO.out.lt k e).1))
          case measure => simp [intOf]; omega
        · have Q2 := hid q2
          go_wp2
          go_roundw
          case rel =>
            refine ⟨j + 1, by omega, by go_num, ?_, hB.alloc (by omega) _⟩
            rw [hst.out, if_neg (fun h => Q2.out h.2), List.append_nil]; exact HO.out.alloc _
          case measure => simp [intOf]; omega
      · have q1' : (k' == k) = false := by simpa using q1
        have Q1 := hid q1
        clear q1
        go_wp2
        go_roundw
        case rel =>
          refine ⟨j + 1, by omega, by go_num, ?_, hB.alloc (by omega) _⟩
          rw [hst.out, if_neg (fun h => Q1.out h.1), List.append_nil]; exact HO.out.alloc _
        case measure => simp [intOf]; omega
    · have e : L.take j = L := List.take_of_length_le (by omega)
      rw [e] at hown
      have HO := hid hown
      have hnl : (newsR k t L).length ≤ 100000 := by have := newsR_length k t L; omega
      clear e hown
      go_wp2_with fail
      refine (sort_rising w.heap.size u8 _ wr HO.out HR.out (by omega)).mono ?_
      rintro e w1 ⟨rfl, ho1, hg1⟩
      have HO1 := hid ho1
      have hBw := hid (hB.grown hg1 hBs (fun k e => (HO.out.lt k e).1))
      clear ho1 hg1
      go_wp2
      go_ret2
      exact ⟨_, rfl, HO1.out, hBw.out⟩

set_option maxRecDepth 100000 in
set_option maxHeartbeats 2000000 in
theorem refNewer_nil (base R : Nat) (k t last : Int) (w : World) (hk : inB k 0 9 = true) (h : Ref w base R last (.slice none 0 0) []) :
    Calls Tryd.prog 15 #[.pointer (some ⟨R, 0, none⟩), .int .i64 k, .int .i64 t] w fun e w' => e = .returned (.tuple #[.slice none 0 0, .int .i64 0]) ∧ w' = w := by
  have hc := h.c0
  have hR := h.lt
  go_enter Tryd.func15, Tryd.ntmps15
  go_wp2_with (go_at_call 48; refine (in_any _ _ _ _).mono ?_; rintro e w' ⟨rfl, hw1⟩; rw [hw1]; clear hw1 w')
  go_loop [8, 19] (fun tv i => tv = .slice none 0 0 ∧ i = .int .i64 0) (fun _ _ => 0)
  case atStart => exact ⟨rfl, rfl⟩
  case round =>
    obtain ⟨rfl, rfl⟩ := hrel
    go_wp2_with (go_at_call 52; refine (Tryd.sort_Ints_none none 0 _).mono ?_; rintro e w' ⟨rfl, hw1⟩; rw [hw1]; clear hw1 w')
    go_ret2
    exact ⟨rfl, rfl⟩

theorem refNewer_any (base R : Nat) (k t last : Int) (lv : Value) (L : List (Int × Int × Int)) (w : World) (hk : inB k 0 9 = true) (hlen : L.length ≤ 100000) (hr : (newsR k t L).Pairwise (· ≤ ·)) (h : Ref w base R last lv L) :
    Calls Tryd.prog 15 #[.pointer (some ⟨R, 0, none⟩), .int .i64 k, .int .i64 t] w fun e w' => ∃ tv, e = .returned (.tuple #[tv, .int .i64 0]) ∧
      w'.ownsRow w.heap.size 3 1 tv (newsR k t L).length (intsV (newsR k t L)) ∧ Below w.heap.size w w' := by
  rcases h.slice with ⟨rfl, rfl⟩ | ⟨g, cap, rfl, _⟩
  · refine (refNewer_nil base R k t last w hk h).mono ?_
    rintro e w' ⟨rfl, rfl⟩
    exact ⟨_, rfl, by simpa [newsR, intsV] using World.ownsRow_nil w' w'.heap.size 3 1, Below.refl _ _⟩
  · exact refNewer_walk base R g cap k t last L w hk hlen hr h

set_option maxHeartbeats 1000000 in
theorem refNewer_range (R : Nat) (k t : Int) (w : World) (hk : inB k 0 9 = false) :
    Calls Tryd.prog 15 #[.pointer (some ⟨R, 0, none⟩), .int .i64 k, .int .i64 t] w fun e w' => e = .returned (.tuple #[.slice none 0 0, .int .i64 2]) ∧ w' = w := by
  go_enter Tryd.func15, Tryd.ntmps15
  go_wp2_with (go_at_call 48; refine (in_any _ _ _ _).mono ?_; rintro e w' ⟨rfl, hw1⟩; rw [hw1]; clear hw1 w')
  go_ret2
  exact ⟨rfl, rfl⟩

end Go.Proofs.YtjefgmeejhakbaaDoor
