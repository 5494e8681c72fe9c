/- EsRead EsMany: put together for a claim. -/
import Derived.Test.YtjefgmeejhakbaaGreatDoorEsInstallQ
import Derived.Deep.MidRow
/- (*Store).Read, Last, Many. -/
namespace Go.Proofs.YtjefgmeejhakbaaGreatDoor
open Go.RowKit
variable {P : Tail}
theorem lat_lt (l : List (Int × Int)) (t : Int) : ∀ m, latN l t m < m ∧ -1 ≤ latN l t m
  | 0 => by simp [latN]
  | m + 1 => by
    have := lat_lt l t m
    simp only [latN]
    split <;> omega
theorem Vers.mono {n₀ n₁ : Nat} {W : World} {sv : Value} {zs : List (Int × Int)} (h : Vers n₀ W sv zs) (hn : n₀ ≤ n₁) : Vers n₁ W sv zs := by
  rcases h with h | ⟨b, cap, e, hb, hc⟩
  · exact .inl h
  · exact .inr ⟨b, cap, e, Nat.lt_of_lt_of_le hb hn, hc⟩
set_option maxRecDepth 100000 in
set_option maxHeartbeats 1000000 in
theorem read_some (base s k : Nat) (last t : Int) (vs : List Value) (ks : List (List (Int × Int))) (l : List (Int × Int)) (w : World) (h : Sto P w base s last vs ks) (hl : ks[k]? = some l) (hlen : l.length ≤ 1000000) (m : Nat) (hm : lat l t = m) (a x : Int) (hax : l[m]? = some (a, x)) :
    Calls Tryz.prog 111 #[.pointer (some ⟨s, 0, none⟩), .int .i64 (k : Int), .int .i64 t] w fun e w' => e = .returned (.tuple #[.agg #[.int .i64 a, .int .i64 x], .nilIface]) ∧ Below w.heap.size w w' := by
  have hk : k < 10 := by have := (List.getElem?_eq_some_iff.1 hl).1; have := h.lk; omega
  obtain ⟨v, hv⟩ : ∃ v, vs[k]? = some v := ⟨vs[k]'(by have := h.lv; omega), List.getElem?_eq_getElem _⟩
  have ho := h.own k v l hv hl
  have hc := h.cell hv
  have hvers := vers_of_owns ho
  obtain ⟨g, cap, rfl, hg, hrow⟩ : ∃ g cap, v = .slice (some ⟨g, 0, none⟩) l.length cap ∧ g < w.heap.size ∧ Row w g l := by
    rcases hvers with ⟨_, e⟩ | ⟨g, cap, e, h1, h2⟩
    · subst e; simp at hax
    · exact ⟨g, cap, e, h1, h2⟩
  have hs := h.lt
  have hml := (List.getElem?_eq_some_iff.1 hax).1
  have hkb : keyB (k : Int) = true := by simp [keyB]; omega
  have hk0 : (0 : Int) ≤ (k : Int) := by omega
  have hk1 : (k : Int) < 10 := by omega
  have hm0 : (0 : Int) ≤ (m : Int) := by omega
  have hm1 : (m : Int) < (l.length : Int) := by omega
  have HM : Hid (lat l t = m) := hm
  clear hm ho hv hl
  go_enter Tryz.func111, Tryz.ntmps111
  go_wp2_with (first | (go_at_call 159; refine (isKey_any _ _).mono ?_; rintro e w' ⟨rfl, rfl⟩))
  have hal : Below w.heap.size w (w.alloc (.cells #[.int .i64 0, .int .i64 0] 199)) := (Below.refl _ _).alloc (Nat.le_refl _) _
  have hR1 : (w.alloc (.cells #[.int .i64 0, .int .i64 0] 199)).heap[w.heap.size]? = some (.cells #[.int .i64 0, .int .i64 0] 199 (0, 0)) := World.alloc_heap_new w _
  refine (latest_any _ _ _ t l hlen _ (.inr ⟨g, cap, rfl, by simp; omega, hrow.below hal hg⟩)).mono ?_
  rintro e w1 ⟨rfl, hb1⟩
  rw [HM.out]
  have hbw : Below w.heap.size w w1 := hal.trans (hb1.mono (by simp))
  have hR2 : w1.heap[w.heap.size]? = some (.cells #[.int .i64 0, .int .i64 0] 199 (0, 0)) := (hb1.block _ (by simp)).trans hR1
  have c0 : w1.cell? ⟨w.heap.size, 0, none⟩ = some (.int .i64 0) := (cell_of_row _ _ 0 _ 199 (0, 0) hR2).trans rfl
  have c1 : w1.cell? ⟨w.heap.size, 1, none⟩ = some (.int .i64 0) := (cell_of_row _ _ 1 _ 199 (0, 0) hR2).trans rfl
  have f0 := frozen_of_row w1 w.heap.size 0 _ 199 hR2
  have f1 := frozen_of_row w1 w.heap.size 1 _ 199 hR2
  have hc1 := (hbw.cell (p := ⟨s, 1 + k, none⟩) hs).trans hc
  obtain ⟨r1, r2⟩ := (hrow.below hbw hg) m a x hax
  have HB : Hid (Below w.heap.size w w1) := hbw
  have HR : Hid (w1.heap[w.heap.size]? = some (.cells #[.int .i64 0, .int .i64 0] 199 (0, 0))) := hR2
  clear hR1 hal hb1 hbw hR2 hc hax hrow hvers
  go_wp2
  exact bodyPost_ret (v := .tuple #[.agg #[.int .i64 a, .int .i64 x], .nilIface]) (by simp [results, Tryz.results111, go_sem, c0, c1]) rfl ⟨rfl, (HB.out.setCell (p := ⟨w.heap.size, 0, none⟩) (Nat.le_refl _) _).setCell (p := ⟨w.heap.size, 1, none⟩) (Nat.le_refl _) _⟩
set_option maxRecDepth 100000 in
set_option maxHeartbeats 1000000 in
theorem read_none (base s k : Nat) (last t : Int) (vs : List Value) (ks : List (List (Int × Int))) (l : List (Int × Int)) (w : World) (h : Sto P w base s last vs ks) (hl : ks[k]? = some l) (hlen : l.length ≤ 1000000) (hm : lat l t = -1) :
    Calls Tryz.prog 111 #[.pointer (some ⟨s, 0, none⟩), .int .i64 (k : Int), .int .i64 t] w fun e w' => e = .returned (.tuple #[.agg #[.int .i64 0, .int .i64 0], .iface 24 (.int .i64 8)]) ∧ Below w.heap.size w w' := by
  have hk : k < 10 := by have := (List.getElem?_eq_some_iff.1 hl).1; have := h.lk; omega
  obtain ⟨v, hv⟩ : ∃ v, vs[k]? = some v := ⟨vs[k]'(by have := h.lv; omega), List.getElem?_eq_getElem _⟩
  have ho := h.own k v l hv hl
  have hc := h.cell hv
  have hvers := vers_of_owns ho
  obtain ⟨ad, n, cap, rfl⟩ : ∃ ad n cap, v = .slice ad n cap := by
    rcases hvers with ⟨e, _⟩ | ⟨g, cap, e, h1, h2⟩
    · exact ⟨_, _, _, e⟩
    · exact ⟨_, _, _, e⟩
  have hs := h.lt
  have hkb : keyB (k : Int) = true := by simp [keyB]; omega
  have hk0 : (0 : Int) ≤ (k : Int) := by omega
  have hk1 : (k : Int) < 10 := by omega
  have HM : Hid (lat l t = -1) := hm
  clear hm ho hv hl
  go_enter Tryz.func111, Tryz.ntmps111
  go_wp2_with (first | (go_at_call 159; refine (isKey_any _ _).mono ?_; rintro e w' ⟨rfl, rfl⟩))
  have hal : Below w.heap.size w (w.alloc (.cells #[.int .i64 0, .int .i64 0] 199)) := (Below.refl _ _).alloc (Nat.le_refl _) _
  have hR1 : (w.alloc (.cells #[.int .i64 0, .int .i64 0] 199)).heap[w.heap.size]? = some (.cells #[.int .i64 0, .int .i64 0] 199 (0, 0)) := World.alloc_heap_new w _
  refine (latest_any _ _ _ t l hlen _ ((hvers.below hal).mono (by simp))).mono ?_
  rintro e w1 ⟨rfl, hb1⟩
  rw [HM.out]
  have hbw : Below w.heap.size w w1 := hal.trans (hb1.mono (by simp))
  have hR2 : w1.heap[w.heap.size]? = some (.cells #[.int .i64 0, .int .i64 0] 199 (0, 0)) := (hb1.block _ (by simp)).trans hR1
  have c0 : w1.cell? ⟨w.heap.size, 0, none⟩ = some (.int .i64 0) := (cell_of_row _ _ 0 _ 199 (0, 0) hR2).trans rfl
  have c1 : w1.cell? ⟨w.heap.size, 1, none⟩ = some (.int .i64 0) := (cell_of_row _ _ 1 _ 199 (0, 0) hR2).trans rfl
  have f0 := frozen_of_row w1 w.heap.size 0 _ 199 hR2
  have f1 := frozen_of_row w1 w.heap.size 1 _ 199 hR2
  have HB : Hid (Below w.heap.size w w1) := hbw
  clear hR1 hal hb1 hbw hR2 hc hvers
  go_wp2
  exact bodyPost_ret (v := .tuple #[.agg #[.int .i64 0, .int .i64 0], .iface 24 (.int .i64 8)]) (by simp [results, Tryz.results111, go_sem, c0, c1]) rfl ⟨rfl, (HB.out.setCell (p := ⟨w.heap.size, 0, none⟩) (Nat.le_refl _) _).setCell (p := ⟨w.heap.size, 1, none⟩) (Nat.le_refl _) _⟩
set_option maxHeartbeats 1000000 in
theorem last_any (base s : Nat) (last : Int) (vs : List Value) (ks : List (List (Int × Int))) (w : World) (h : Sto P w base s last vs ks) :
    Calls Tryz.prog 97 #[.pointer (some ⟨s, 0, none⟩)] w fun e w' => e = .returned (.int .i64 last) ∧ w' = w := by
  have hc := h.cellLast
  go_enter Tryz.func97, Tryz.ntmps97
  go_wp2
  go_ret
  exact ⟨rfl, rfl⟩
end Go.Proofs.YtjefgmeejhakbaaGreatDoor

/- (*Store).Many. -/
namespace Go.Proofs.YtjefgmeejhakbaaGreatDoor
open Go.RowKit
variable {P : Tail}
theorem info24 : (Tryz.prog.info? 154).map (·.size) = some 10 := by kernel_rfl
theorem info23 : (Tryz.prog.info? 153).map (·.size) = some 1 := by kernel_rfl
theorem run_key {vs : List Value} {k : Nat} {v : Value} (hv : vs[k]? = some v) (hk : k < 10) (w : World) :
    (Instr.index 154 (.agg vs.toArray) (.int .i64 (k : Int))).run Tryz.prog w = .ok v w := by
  have hk0 : (0 : Int) ≤ (k : Int) ∧ (k : Int) < 10 := by omega
  cases hq : Tryz.prog.info? 153 with
  | none => have := info23; simp [hq] at this
  | some i =>
    have hs : i.size = 1 := by have := info23; simpa [hq] using this
    simp [Instr.index, asIntOf, run_underlying Tryz.underlying154, sizeOf, typeInfo, hq, hs, hk0]
    rw [if_pos hk]
    simp [part, isAgg, run_underlying Tryz.underlying153, hv]
theorem Sto.slice {w : World} {base s : Nat} {last : Int} {vs : List Value} {ks : List (List (Int × Int))} (h : Sto P w base s last vs ks) {k : Nat} (hk : k < 10) :
    ∃ ad cap l, vs[k]? = some (.slice ad l.length cap) ∧ ks[k]? = some l ∧ w.ownsRow base 199 2 (.slice ad l.length cap) l.length (vrow l) := by
  obtain ⟨v, hv⟩ : ∃ v, vs[k]? = some v := ⟨vs[k]'(by have := h.lv; omega), List.getElem?_eq_getElem _⟩
  obtain ⟨l, hl⟩ : ∃ v, ks[k]? = some v := ⟨ks[k]'(by have := h.lk; omega), List.getElem?_eq_getElem _⟩
  have ho := h.own k v l hv hl
  obtain ⟨ad, cap, rfl⟩ : ∃ ad cap, v = .slice ad l.length cap := by
    rcases ho.2 with ⟨e, e0⟩ | ⟨g, cap, cur, e, _⟩
    · exact ⟨_, _, by rw [e0]; exact e⟩
    · exact ⟨_, _, e⟩
  exact ⟨ad, cap, l, hv, hl, ho⟩
end Go.Proofs.YtjefgmeejhakbaaGreatDoor
