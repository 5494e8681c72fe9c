/- (*interleafref.Table).Ask where the key is held by another. -/
import Derived.Test.YtjefgmeejhakbaaDoorLrAsk
namespace Go.Proofs.YtjefgmeejhakbaaDoor
open Go.RowKit

/-- What comes of a key that another one holds. -/
def moreP (T : Tab) (tx k : Int) (A : Bool) : Bool × Int × Tab := match A with
  | true => (false, 11, T)
  | false => (false, 0, updT T k (T k ++ [tx]))

set_option maxRecDepth 100000 in
set_option maxHeartbeats 8000000 in
theorem rask_more (base r : Nat) (vs : List Value) (T : Tab) (q : Int → Nat) (tx : Int) (j : Nat) (w : World) (h : RTab w base r vs T) (hT : Tidy0 T) (hq : Ranked T q) (hj : j < 10) (htx : 1 ≤ tx) (hbase : base ≤ w.heap.size) (hlen : ∀ k, (T k).length ≤ 100000)
    (hw : waitsP T tx = -1) (hn : T j ≠ []) (hne : holdsP T j ≠ tx) :
    Calls Tryd.prog 27 #[.pointer (some ⟨r, 0, none⟩), .int .i64 tx, .int .i64 (j : Int)] w (RAskPost base r vs (moreP T tx j (reachP T tx (q (holdsP T j) + 1) (holdsP T j))) w) := by
  obtain ⟨i0, hi0, hz0, hz1, hz2⟩ := info_parts info3
  have hin : inB (j : Int) 0 9 = true := by simp [inB]; omega
  have hcw := rwaits_any base r vs T tx w h hT (fun k => by have := hlen k; omega)
  have hch := rholds_any base r vs T (j : Int) w h hT
  rw [hw] at hcw
  have hy1 := holds_pos hT hn
  obtain ⟨y, hy⟩ : ∃ y, holdsP T j = y := ⟨_, rfl⟩
  rw [hy] at hch hy1 hne ⊢
  obtain ⟨v, hv, ho⟩ := h.at hj
  have cv := h.cell hv
  have hpos : 0 < (T j).length := List.length_pos_iff.2 hn
  have hlj := hlen j
  rcases row_slice ho with ⟨_, e0⟩ | ⟨gz, cz, rfl, hgz, hcz⟩
  · omega
  have fv := h.free j
  have hr := h.lt
  have HCW := hid hcw
  have HCH := hid hch
  have HR := hid h
  have HWX := hid (fun x => rwaits_any base r vs T x w h hT (fun k => by have := hlen k; omega))
  have HHX := hid (fun k => rholds_any base r vs T k w h hT)
  have HQ := hid hq
  have HT := hid hT
  have g3 : ¬ tx < 1 := by omega
  have e0 : (y == tx) = false := by simpa using hne
  have e1 : (y == 0) = false := by simp; omega
  have hj0 : (0 : Int) ≤ (j : Int) := by omega
  have hj1 : (j : Int) < 10 := by omega
  obtain ⟨M, hM⟩ : ∃ M, (T j).length = M := ⟨_, rfl⟩
  rw [hM] at cv hpos hlj
  have HML := hid hM
  have HCZ := hid hcz
  obtain ⟨A, hA⟩ : ∃ A, reachP T tx (q y + 1) y = A := ⟨_, rfl⟩
  rw [hA]
  have HA := hid hA
  clear hcw hch h hT hw hn ho hv hlen hM hcz hq hy hA
  go_enter Tryd.func27, Tryd.ntmps27
  go_wp2_with (first
    | (go_at_call 48; refine (in_any _ _ _ _).mono ?_; rintro e w' ⟨rfl, hw'⟩; rw [hw']; clear hw' w')
    | (go_at_call 32; refine HCW.out.mono ?_; rintro e w' ⟨rfl, hw'⟩; rw [hw']; clear hw' w')
    | (go_at_call 34; refine HCH.out.mono ?_; rintro e w' ⟨rfl, hw'⟩; rw [hw']; clear hw' w'))
  go_loop [9] (fun v => ∃ x : Int, v = .int .i64 x ∧ 1 ≤ x ∧ Hid (∃ m, q x < m ∧ reachP T tx m x = A)) (fun v => q (intOf v))
  case atStart => exact ⟨y, rfl, hy1, q y + 1, by omega, HA.out⟩
  case round =>
    obtain ⟨x, rfl, hx1, HM⟩ := hrel
    have ex : (x != 0) = true := by simp; omega
    obtain ⟨m, hm1, hm2⟩ := HM.out
    obtain ⟨m, rfl⟩ : ∃ m', m = m' + 1 := ⟨m - 1, by omega⟩
    rw [reachP] at hm2
    have hcx := HWX.out x
    by_cases hw : waitsP T x < 0
    · rw [if_pos hw] at hm2
      have hw1 : waitsP T x = -1 := by rcases waits_cases T x with e | e <;> omega
      rw [hw1] at hcx
      have HCX := hid hcx
      subst hm2
      have hO1 := hid (World.ownsRow_made (base := w.heap.size) (e := 3) (size := 1) w #[] 0 (Nat.le_refl _) (by simp [maxLen]) rfl)
      have hO3 := hid (World.ownsRow_made (base := w.heap.size) (e := 3) (size := 1) (w.alloc (.cells #[.int .i64 tx] 3)) #[] 0 (by simp) (by simp [maxLen]) rfl)
      have hN2 := hid (show ((w.alloc (.cells #[] 3)).alloc (.cells #[.int .i64 tx] 3)).heap[w.heap.size + 1]? = some (.cells #[.int .i64 tx] 3) by have := heap_alloc_new (w.alloc (.cells #[] 3)) (.cells #[.int .i64 tx] 3); rwa [World.size_alloc] at this)
      have hN3 := hid (show ((w.alloc (.cells #[.int .i64 tx] 3)).alloc (.cells #[] 3)).heap[w.heap.size]? = some (.cells #[.int .i64 tx] 3) from (Below.heap_alloc _ _ w.heap.size (by simp)).trans (heap_alloc_new w _))
      have hcA := hid (fun (o : Obj) (j2 : Nat) (u : Value) (hu : (intsV (T j))[j2]? = some u) => show (w.alloc o).cell? ((⟨gz, 0, none⟩ : Addr).add j2) = some u by
        rw [addr_add]
        exact (World.cell?_of_block (a := ⟨gz, j2, none⟩) (Below.heap_alloc w o gz hgz)).trans (HCZ.out j2 u hu))
      have hcB := hid (fun (o o' : Obj) (j2 : Nat) (u : Value) (hu : (intsV (T j))[j2]? = some u) => show ((w.alloc o).alloc o').cell? ((⟨gz, 0, none⟩ : Addr).add j2) = some u by
        rw [addr_add]
        exact (World.cell?_of_block (a := ⟨gz, j2, none⟩) ((Below.heap_alloc _ o' gz (by simp; omega)).trans (Below.heap_alloc w o gz hgz))).trans (HCZ.out j2 u hu))
      have HIL := hid (show (intsV (T j)).length = M * 1 by rw [intsV_length, HML.out]; omega)
      have hk1 := intsV_one (T j)
      clear hcx hw1 hw hm1 HM
      go_wp2_with (go_at_call 32; refine HCX.out.mono ?_; rintro e w' ⟨rfl, hw'⟩; rw [hw']; clear hw' w')
      go_region_law
        (first
          | (refine step_append_lies _ (by rfl) _ _ _ (by rfl) w.heap.size 3 i0 _ 1 8 Tryd.underlying49 hi0 hz0 hz1 hz2 rfl (by omega) (.slice (some ⟨w.heap.size, 0, none⟩) 0 0) 0 [] (by rfl) (hO1.out.drew) ⟨gz, 0, none⟩ M cz (intsV (T j)) (by rfl) HIL.out (fun j2 u hu => hcA.out (.cells #[] 3) j2 u hu) hk1 hpos (by unfold maxLen; omega) (by omega) (by simp <;> omega) (w.heap.size + 1) (by simp) ?_
             intro g1 cap1 w1 hown1 hgrow1 hat1 hlt1
             rw [Nat.zero_add] at hown1 ⊢
             rw [List.nil_append] at hown1
             have hBB1 : Below w.heap.size w w1 := ((((Below.refl _ w).alloc (Nat.le_refl _) _).drew)).grown hgrow1 (by simp) (fun k e => by cases e; exact Nat.le_refl _)
             have cR1 : w1.cell? ⟨r, j, none⟩ = some (.slice (some ⟨gz, 0, none⟩) M cz) := (hBB1.cell (p := ⟨r, j, none⟩) hr).trans cv)
          | (refine step_append_lies _ (by rfl) _ _ _ (by rfl) w.heap.size 3 i0 _ 1 8 Tryd.underlying49 hi0 hz0 hz1 hz2 rfl (by omega) (.slice (some ⟨w.heap.size, 0, none⟩) 0 0) 0 [] (by rfl) ((hO1.out.alloc (.cells #[.int .i64 tx] 3)).drew) ⟨gz, 0, none⟩ M cz (intsV (T j)) (by rfl) HIL.out (fun j2 u hu => hcB.out (.cells #[] 3) (.cells #[.int .i64 tx] 3) j2 u hu) hk1 hpos (by unfold maxLen; omega) (by omega) (by simp <;> omega) (w.heap.size + 1 + 1) (by simp) ?_
             intro g1 cap1 w1 hown1 hgrow1 hat1 hlt1
             rw [Nat.zero_add] at hown1 ⊢
             rw [List.nil_append] at hown1
             have hBB1 : Below w.heap.size w w1 := (((((Below.refl _ w).alloc (Nat.le_refl _) _).alloc (by simp) _).drew)).grown hgrow1 (by simp <;> omega) (fun k e => by cases e; exact Nat.le_refl _)
             have hsrc : w1.heap[w.heap.size + 1]? = some (.cells #[.int .i64 tx] 3 (0, 0)) := (hgrow1.block (w.heap.size + 1) (by simp) (by simp [Value.ownBlock])).trans hN2.out
             have cR1 : w1.cell? ⟨r, j, none⟩ = some (.slice (some ⟨gz, 0, none⟩) M cz) := (hBB1.cell (p := ⟨r, j, none⟩) hr).trans cv)
          | (refine step_append_lies _ (by rfl) _ _ _ (by rfl) w.heap.size 3 i0 _ 1 8 Tryd.underlying49 hi0 hz0 hz1 hz2 rfl (by omega) (.slice (some ⟨w.heap.size + 1, 0, none⟩) 0 0) 0 [] (by rfl) (by have := hO3.out.drew; rw [World.size_alloc] at this; exact this) ⟨gz, 0, none⟩ M cz (intsV (T j)) (by rfl) HIL.out (fun j2 u hu => hcB.out (.cells #[.int .i64 tx] 3) (.cells #[] 3) j2 u hu) hk1 hpos (by unfold maxLen; omega) (by omega) (by simp <;> omega) (w.heap.size + 1 + 1) (by simp) ?_
             intro g1 cap1 w1 hown1 hgrow1 hat1 hlt1
             rw [Nat.zero_add] at hown1 ⊢
             rw [List.nil_append] at hown1
             have hBB1 : Below w.heap.size w w1 := (((((Below.refl _ w).alloc (Nat.le_refl _) _).alloc (by simp) _).drew)).grown hgrow1 (by simp <;> omega) (fun k e => by cases e; simp)
             have hsrc : w1.heap[w.heap.size]? = some (.cells #[.int .i64 tx] 3 (0, 0)) := (hgrow1.block w.heap.size (by simp <;> omega) (by simp [Value.ownBlock])).trans hN3.out
             have cR1 : w1.cell? ⟨r, j, none⟩ = some (.slice (some ⟨gz, 0, none⟩) M cz) := (hBB1.cell (p := ⟨r, j, none⟩) hr).trans cv)
          | (refine step_append_lies _ (by rfl) _ _ _ (by rfl) w.heap.size 3 i0 _ 1 8 Tryd.underlying49 hi0 hz0 hz1 hz2 rfl (by omega) (.slice (some ⟨g1, 0, none⟩) M cap1) M (intsV (T j)) (by rfl) (hown1.alloc _) ⟨w1.heap.size, 0, none⟩ 1 1 [.int .i64 tx] (by rfl) (by rfl) (World.news_of_block (cs := #[.int .i64 tx]) (t := 3) (fr := (0, 0)) (heap_alloc_new w1 _)) (by simp [Value.oneCell']) (by omega) (by unfold maxLen; omega) (by omega) (by have := hBB1.size; simp <;> omega) (w1.heap.size + 1) (by simp) ?_
             intro g2 cap2 w2 hown2 hgrow2 hat2 hlt2
             have hBB2 : Below w.heap.size w w2 := (hBB1.alloc hBB1.size _).grown hgrow2 (by have := hBB1.size; simp <;> omega) (fun k e => (hown1.lt k e).1)
             have fR2 : w2.frozen? ⟨r, j, none⟩ = false := (hBB2.frozen (p := ⟨r, j, none⟩) hr).trans fv
             have cR2 : w2.cell? ⟨r, j, none⟩ = some (.slice (some ⟨gz, 0, none⟩) M cz) := (hBB2.cell (p := ⟨r, j, none⟩) hr).trans cv)
          | (refine step_append_lies _ (by rfl) _ _ _ (by rfl) w.heap.size 3 i0 _ 1 8 Tryd.underlying49 hi0 hz0 hz1 hz2 rfl (by omega) (.slice (some ⟨g1, 0, none⟩) M cap1) M (intsV (T j)) (by rfl) hown1 ⟨_, 0, none⟩ 1 1 [.int .i64 tx] (by rfl) (by rfl) (World.news_of_block (cs := #[.int .i64 tx]) (t := 3) (fr := (0, 0)) hsrc) (by simp [Value.oneCell']) (by omega) (by unfold maxLen; omega) (by omega) hBB1.size w1.heap.size rfl ?_
             intro g2 cap2 w2 hown2 hgrow2 hat2 hlt2
             have hBB2 : Below w.heap.size w w2 := hBB1.grown hgrow2 hBB1.size (fun k e => (hown1.lt k e).1)
             have fR2 : w2.frozen? ⟨r, j, none⟩ = false := (hBB2.frozen (p := ⟨r, j, none⟩) hr).trans fv
             have cR2 : w2.cell? ⟨r, j, none⟩ = some (.slice (some ⟨gz, 0, none⟩) M cz) := (hBB2.cell (p := ⟨r, j, none⟩) hr).trans cv)
          | fail)
      all_goals
        have HF := hid (HR.out.put (k := j) (l := T j ++ [tx]) hj hBB2 hbase (by rw [intsV_append, List.length_append, HML.out]; exact hown2) (by simp))
        clear hown2 hgrow2 hat2 hBB2 fR2 cR2 cv fv hown1 hgrow1 hat1 hBB1 cR1
        go_wp2
        go_ret2
        exact ⟨rfl, _, HF.out⟩
    · rw [if_neg hw] at hm2
      have hlt := HQ.out _ _ (mem_of_waits (T := T) (x := x) (by omega))
      have hz1 := holds_of_waits HT.out (x := x) (by omega)
      obtain ⟨k, hk⟩ : ∃ k, waitsP T x = k := ⟨_, rfl⟩
      rw [hk] at hm2 hlt hz1 hcx hw
      have hcz := HHX.out k
      obtain ⟨z, hz⟩ : ∃ z, holdsP T k = z := ⟨_, rfl⟩
      rw [hz] at hm2 hlt hz1 hcz
      have HCX := hid hcx
      have HZ := hid hcz
      have ek : ¬ k < 0 := hw
      have HLT := hid hlt
      by_cases hzt : z = tx
      · rw [if_pos hzt] at hm2
        subst hm2
        subst hzt
        have ez : (z == z) = true := by simp
        have HTB := hid HR.out
        clear hk hz hcx hcz hw hm1 HM hlt
        go_wp2_with (first
          | (go_at_call 32; refine HCX.out.mono ?_; rintro e w' ⟨rfl, hw'⟩; rw [hw']; clear hw' w')
          | (go_at_call 34; refine HZ.out.mono ?_; rintro e w' ⟨rfl, hw'⟩; rw [hw']; clear hw' w'))
        go_ret2
        exact ⟨rfl, vs, HTB.out, KeptR.refl _ _ _⟩
      · rw [if_neg hzt] at hm2
        have ez : (z == tx) = false := by simpa using hzt
        have HM2 := hid (show ∃ m, q z < m ∧ reachP T tx m z = A from ⟨m, by omega, hm2⟩)
        clear hk hz hcx hcz hw hm1 HM hlt hm2
        go_wp2_with (first
          | (go_at_call 32; refine HCX.out.mono ?_; rintro e w' ⟨rfl, hw'⟩; rw [hw']; clear hw' w')
          | (go_at_call 34; refine HZ.out.mono ?_; rintro e w' ⟨rfl, hw'⟩; rw [hw']; clear hw' w'))
        go_round
        case rel => exact ⟨z, rfl, hz1, HM2⟩
        case measure => simpa [intOf] using HLT.out

end Go.Proofs.YtjefgmeejhakbaaDoor
