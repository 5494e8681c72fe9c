/- EsRead EsMany EkAsk EkDropP BsSum: put together for a claim. -/
import Derived.Test.YtjefgmeejhakbaaGreatDoorMgAF
import Derived.Deep.MidRow
import Derived.Test.YtjefgmeejhakbaaGreatDoorMgAA
import Derived.Laws.BitsAllLaws
/- (*Store).Read, Last, Many. -/
namespace Go.Proofs.YtjefgmeejhakbaaGreatDoor
open Go.RowKit
variable {P : Tail}
theorem lat_lt (l : List (Int × Int)) (t : Int) : ∀ m, latN l t m < m ∧ -1 ≤ latN l t m
  | 0 => by simp [latN]
  | m + 1 => by
    have := lat_lt l t m
    simp only [latN]
    split <;> omega
theorem Vers.mono {n₀ n₁ : Nat} {W : World} {sv : Value} {zs : List (Int × Int)} (h : Vers n₀ W sv zs) (hn : n₀ ≤ n₁) : Vers n₁ W sv zs := by
  rcases h with h | ⟨b, cap, e, hb, hc⟩
  · exact .inl h
  · exact .inr ⟨b, cap, e, Nat.lt_of_lt_of_le hb hn, hc⟩
set_option maxRecDepth 100000 in
set_option maxHeartbeats 1000000 in
theorem read_some (base s k : Nat) (last t : Int) (vs : List Value) (ks : List (List (Int × Int))) (l : List (Int × Int)) (w : World) (h : Sto P w base s last vs ks) (hl : ks[k]? = some l) (hlen : l.length ≤ 1000000) (m : Nat) (hm : lat l t = m) (a x : Int) (hax : l[m]? = some (a, x)) :
    Calls Tryz.prog 111 #[.pointer (some ⟨s, 0, none⟩), .int .i64 (k : Int), .int .i64 t] w fun e w' => e = .returned (.tuple #[.agg #[.int .i64 a, .int .i64 x], .nilIface]) ∧ Below w.heap.size w w' := by
  have hk : k < 10 := by have := (List.getElem?_eq_some_iff.1 hl).1; have := h.lk; omega
  obtain ⟨v, hv⟩ : ∃ v, vs[k]? = some v := ⟨vs[k]'(by have := h.lv; omega), List.getElem?_eq_getElem _⟩
  have ho := h.own k v l hv hl
  have hc := h.cell hv
  have hvers := vers_of_owns ho
  obtain ⟨g, cap, rfl, hg, hrow⟩ : ∃ g cap, v = .slice (some ⟨g, 0, none⟩) l.length cap ∧ g < w.heap.size ∧ Row w g l := by
    rcases hvers with ⟨_, e⟩ | ⟨g, cap, e, h1, h2⟩
    · subst e; simp at hax
    · exact ⟨g, cap, e, h1, h2⟩
  have hs := h.lt
  have hml := (List.getElem?_eq_some_iff.1 hax).1
  have hkb : keyB (k : Int) = true := by simp [keyB]; omega
  have hk0 : (0 : Int) ≤ (k : Int) := by omega
  have hk1 : (k : Int) < 10 := by omega
  have hm0 : (0 : Int) ≤ (m : Int) := by omega
  have hm1 : (m : Int) < (l.length : Int) := by omega
  have HM : Hid (lat l t = m) := hm
  clear hm ho hv hl
  go_enter Tryz.func111, Tryz.ntmps111
  go_wp2_with (first | (go_at_call 159; refine (isKey_any _ _).mono ?_; rintro e w' ⟨rfl, rfl⟩))
  have hal : Below w.heap.size w (w.alloc (.cells #[.int .i64 0, .int .i64 0] 199)) := (Below.refl _ _).alloc (Nat.le_refl _) _
  have hR1 : (w.alloc (.cells #[.int .i64 0, .int .i64 0] 199)).heap[w.heap.size]? = some (.cells #[.int .i64 0, .int .i64 0] 199 (0, 0)) := World.alloc_heap_new w _
  refine (latest_any _ _ _ t l hlen _ (.inr ⟨g, cap, rfl, by simp; omega, hrow.below hal hg⟩)).mono ?_
  rintro e w1 ⟨rfl, hb1⟩
  rw [HM.out]
  have hbw : Below w.heap.size w w1 := hal.trans (hb1.mono (by simp))
  have hR2 : w1.heap[w.heap.size]? = some (.cells #[.int .i64 0, .int .i64 0] 199 (0, 0)) := (hb1.block _ (by simp)).trans hR1
  have c0 : w1.cell? ⟨w.heap.size, 0, none⟩ = some (.int .i64 0) := (cell_of_row _ _ 0 _ 199 (0, 0) hR2).trans rfl
  have c1 : w1.cell? ⟨w.heap.size, 1, none⟩ = some (.int .i64 0) := (cell_of_row _ _ 1 _ 199 (0, 0) hR2).trans rfl
  have f0 := frozen_of_row w1 w.heap.size 0 _ 199 hR2
  have f1 := frozen_of_row w1 w.heap.size 1 _ 199 hR2
  have hc1 := (hbw.cell (p := ⟨s, 1 + k, none⟩) hs).trans hc
  obtain ⟨r1, r2⟩ := (hrow.below hbw hg) m a x hax
  have HB : Hid (Below w.heap.size w w1) := hbw
  have HR : Hid (w1.heap[w.heap.size]? = some (.cells #[.int .i64 0, .int .i64 0] 199 (0, 0))) := hR2
  clear hR1 hal hb1 hbw hR2 hc hax hrow hvers
  go_wp2
  exact bodyPost_ret (v := .tuple #[.agg #[.int .i64 a, .int .i64 x], .nilIface]) (by simp [results, Tryz.results111, go_sem, c0, c1]) rfl ⟨rfl, (HB.out.setCell (p := ⟨w.heap.size, 0, none⟩) (Nat.le_refl _) _).setCell (p := ⟨w.heap.size, 1, none⟩) (Nat.le_refl _) _⟩
set_option maxRecDepth 100000 in
set_option maxHeartbeats 1000000 in
theorem read_none (base s k : Nat) (last t : Int) (vs : List Value) (ks : List (List (Int × Int))) (l : List (Int × Int)) (w : World) (h : Sto P w base s last vs ks) (hl : ks[k]? = some l) (hlen : l.length ≤ 1000000) (hm : lat l t = -1) :
    Calls Tryz.prog 111 #[.pointer (some ⟨s, 0, none⟩), .int .i64 (k : Int), .int .i64 t] w fun e w' => e = .returned (.tuple #[.agg #[.int .i64 0, .int .i64 0], .iface 24 (.int .i64 8)]) ∧ Below w.heap.size w w' := by
  have hk : k < 10 := by have := (List.getElem?_eq_some_iff.1 hl).1; have := h.lk; omega
  obtain ⟨v, hv⟩ : ∃ v, vs[k]? = some v := ⟨vs[k]'(by have := h.lv; omega), List.getElem?_eq_getElem _⟩
  have ho := h.own k v l hv hl
  have hc := h.cell hv
  have hvers := vers_of_owns ho
  obtain ⟨ad, n, cap, rfl⟩ : ∃ ad n cap, v = .slice ad n cap := by
    rcases hvers with ⟨e, _⟩ | ⟨g, cap, e, h1, h2⟩
    · exact ⟨_, _, _, e⟩
    · exact ⟨_, _, _, e⟩
  have hs := h.lt
  have hkb : keyB (k : Int) = true := by simp [keyB]; omega
  have hk0 : (0 : Int) ≤ (k : Int) := by omega
  have hk1 : (k : Int) < 10 := by omega
  have HM : Hid (lat l t = -1) := hm
  clear hm ho hv hl
  go_enter Tryz.func111, Tryz.ntmps111
  go_wp2_with (first | (go_at_call 159; refine (isKey_any _ _).mono ?_; rintro e w' ⟨rfl, rfl⟩))
  have hal : Below w.heap.size w (w.alloc (.cells #[.int .i64 0, .int .i64 0] 199)) := (Below.refl _ _).alloc (Nat.le_refl _) _
  have hR1 : (w.alloc (.cells #[.int .i64 0, .int .i64 0] 199)).heap[w.heap.size]? = some (.cells #[.int .i64 0, .int .i64 0] 199 (0, 0)) := World.alloc_heap_new w _
  refine (latest_any _ _ _ t l hlen _ ((hvers.below hal).mono (by simp))).mono ?_
  rintro e w1 ⟨rfl, hb1⟩
  rw [HM.out]
  have hbw : Below w.heap.size w w1 := hal.trans (hb1.mono (by simp))
  have hR2 : w1.heap[w.heap.size]? = some (.cells #[.int .i64 0, .int .i64 0] 199 (0, 0)) := (hb1.block _ (by simp)).trans hR1
  have c0 : w1.cell? ⟨w.heap.size, 0, none⟩ = some (.int .i64 0) := (cell_of_row _ _ 0 _ 199 (0, 0) hR2).trans rfl
  have c1 : w1.cell? ⟨w.heap.size, 1, none⟩ = some (.int .i64 0) := (cell_of_row _ _ 1 _ 199 (0, 0) hR2).trans rfl
  have f0 := frozen_of_row w1 w.heap.size 0 _ 199 hR2
  have f1 := frozen_of_row w1 w.heap.size 1 _ 199 hR2
  have HB : Hid (Below w.heap.size w w1) := hbw
  clear hR1 hal hb1 hbw hR2 hc hvers
  go_wp2
  exact bodyPost_ret (v := .tuple #[.agg #[.int .i64 0, .int .i64 0], .iface 24 (.int .i64 8)]) (by simp [results, Tryz.results111, go_sem, c0, c1]) rfl ⟨rfl, (HB.out.setCell (p := ⟨w.heap.size, 0, none⟩) (Nat.le_refl _) _).setCell (p := ⟨w.heap.size, 1, none⟩) (Nat.le_refl _) _⟩
set_option maxRecDepth 100000 in
set_option maxHeartbeats 1000000 in
theorem read_range (s : Nat) (k t : Int) (w : World) (hk : keyB k = false) :
    Calls Tryz.prog 111 #[.pointer (some ⟨s, 0, none⟩), .int .i64 k, .int .i64 t] w fun e w' => e = .returned (.tuple #[.agg #[.int .i64 0, .int .i64 0], .iface 24 (.int .i64 2)]) ∧ Below w.heap.size w w' := by
  go_enter Tryz.func111, Tryz.ntmps111
  go_wp2_with (first | (go_at_call 159; refine (isKey_any _ _).mono ?_; rintro e w' ⟨rfl, rfl⟩))
  exact bodyPost_ret (v := .tuple #[.agg #[.int .i64 0, .int .i64 0], .iface 24 (.int .i64 2)]) (by simp [results, Tryz.results111, go_sem]) rfl ⟨rfl, (Below.refl _ _).alloc (Nat.le_refl _) _⟩
set_option maxHeartbeats 1000000 in
theorem last_any (base s : Nat) (last : Int) (vs : List Value) (ks : List (List (Int × Int))) (w : World) (h : Sto P w base s last vs ks) :
    Calls Tryz.prog 97 #[.pointer (some ⟨s, 0, none⟩)] w fun e w' => e = .returned (.int .i64 last) ∧ w' = w := by
  have hc := h.cellLast
  go_enter Tryz.func97, Tryz.ntmps97
  go_wp2
  go_ret
  exact ⟨rfl, rfl⟩
end Go.Proofs.YtjefgmeejhakbaaGreatDoor

/- (*Store).Many. -/
namespace Go.Proofs.YtjefgmeejhakbaaGreatDoor
open Go.RowKit
variable {P : Tail}
theorem info24 : (Tryz.prog.info? 154).map (·.size) = some 10 := by kernel_rfl
theorem info23 : (Tryz.prog.info? 153).map (·.size) = some 1 := by kernel_rfl
theorem run_key {vs : List Value} {k : Nat} {v : Value} (hv : vs[k]? = some v) (hk : k < 10) (w : World) :
    (Instr.index 154 (.agg vs.toArray) (.int .i64 (k : Int))).run Tryz.prog w = .ok v w := by
  have hk0 : (0 : Int) ≤ (k : Int) ∧ (k : Int) < 10 := by omega
  cases hq : Tryz.prog.info? 153 with
  | none => have := info23; simp [hq] at this
  | some i =>
    have hs : i.size = 1 := by have := info23; simpa [hq] using this
    simp [Instr.index, asIntOf, run_underlying Tryz.underlying154, sizeOf, typeInfo, hq, hs, hk0]
    rw [if_pos hk]
    simp [part, isAgg, run_underlying Tryz.underlying153, hv]
def manyP (ks : List (List (Int × Int))) : Nat := (ks.map List.length).sum
theorem manyP_snoc (ks : List (List (Int × Int))) (l : List (Int × Int)) : manyP (ks ++ [l]) = manyP ks + l.length := by simp [manyP]
theorem manyP_bound : ∀ (ks : List (List (Int × Int))) (N : Nat), (∀ l ∈ ks, l.length ≤ N) → manyP ks ≤ ks.length * N
  | [], _, _ => by simp [manyP]
  | l :: r, N, h => by
    have h1 := manyP_bound r N (fun m hm => h m (List.mem_cons_of_mem _ hm))
    have h2 := h l (List.mem_cons_self ..)
    simp only [manyP, List.map_cons, List.sum_cons, List.length_cons, Nat.add_mul] at *
    omega
theorem Sto.slice {w : World} {base s : Nat} {last : Int} {vs : List Value} {ks : List (List (Int × Int))} (h : Sto P w base s last vs ks) {k : Nat} (hk : k < 10) :
    ∃ ad cap l, vs[k]? = some (.slice ad l.length cap) ∧ ks[k]? = some l ∧ w.ownsRow base 199 2 (.slice ad l.length cap) l.length (vrow l) := by
  obtain ⟨v, hv⟩ : ∃ v, vs[k]? = some v := ⟨vs[k]'(by have := h.lv; omega), List.getElem?_eq_getElem _⟩
  obtain ⟨l, hl⟩ : ∃ v, ks[k]? = some v := ⟨ks[k]'(by have := h.lk; omega), List.getElem?_eq_getElem _⟩
  have ho := h.own k v l hv hl
  obtain ⟨ad, cap, rfl⟩ : ∃ ad cap, v = .slice ad l.length cap := by
    rcases ho.2 with ⟨e, e0⟩ | ⟨g, cap, cur, e, _⟩
    · exact ⟨_, _, by rw [e0]; exact e⟩
    · exact ⟨_, _, e⟩
  exact ⟨ad, cap, l, hv, hl, ho⟩
set_option maxRecDepth 100000 in
set_option maxHeartbeats 1000000 in
theorem many_any (base s : Nat) (last : Int) (vs : List Value) (ks : List (List (Int × Int))) (w : World) (h : Sto P w base s last vs ks) (hks : ∀ l ∈ ks, l.length ≤ 1000000) :
    Calls Tryz.prog 146 #[.pointer (some ⟨s, 0, none⟩)] w fun e w' => e = .returned (.int .i64 (manyP ks : Nat)) ∧ w' = w := by
  have hld : w.rangeAt s 1 vs := fun j v hv => h.cell hv
  have hin : (Tryz.prog.info? 154).map (·.size) = some vs.length := by rw [info24, h.lv]
  go_enter Tryz.func146, Tryz.ntmps146
  go_wp2_with (refine wpList_load_mid (by rfl) 154 _ (by rfl) s 1 (by rfl) vs (.array 10 153) hld Tryz.underlying154 rfl hin ?_)
  clear hld hin
  go_loop [3, 10] (fun n i => ∃ k : Nat, k ≤ 10 ∧ i = .int .i64 k ∧ n = .int .i64 (manyP (ks.take k) : Nat)) (fun _ i => 10 - (intOf i).toNat)
  case atStart => exact ⟨0, by omega, rfl, by simp [manyP]⟩
  case round =>
    obtain ⟨k, hk, rfl, rfl⟩ := hrel
    have hb := manyP_bound (ks.take k) 1000000 (fun l hl => hks l (List.mem_of_mem_take hl))
    have hb2 : (ks.take k).length ≤ 10 := by simp; omega
    have hb3 : manyP (ks.take k) ≤ 10000000 := by omega
    clear hb hb2
    by_cases hlt : k < 10
    · obtain ⟨ad, cap, l, hv, hl, _⟩ := h.slice hlt
      have hix := run_key hv hlt w
      have hll := hks l (List.mem_of_getElem? hl)
      have hst : Hid (manyP (ks.take (k + 1)) = manyP (ks.take k) + l.length) := by
        show _ = _
        rw [List.take_add_one, hl]
        exact manyP_snoc _ _
      clear hl hv
      have hk1 : (k : Int) < 10 := by omega
      go_wp2
      go_round
      case rel => exact ⟨k + 1, by omega, by go_num, by rw [hst.out]; go_num⟩
      case measure => simp [intOf]; omega
    · have e : ks.take k = ks := List.take_of_length_le (by rw [h.lk]; omega)
      rw [e]
      clear e
      go_wp2
      go_ret
      exact ⟨rfl, rfl⟩
end Go.Proofs.YtjefgmeejhakbaaGreatDoor

/- (*Table).Ask. -/
namespace Go.Proofs.YtjefgmeejhakbaaGreatDoor
open Go.RowKit
variable {C : Emb}
theorem waits_mem {T T' : Tab} {x : Int} (h : ∀ k, x ∈ (T k).tail ↔ x ∈ (T' k).tail) : waitsP T x = waitsP T' x := by
  unfold waitsP
  have : (fun k => decide (x ∈ (T k).tail)) = fun k => decide (x ∈ (T' k).tail) := by funext k; exact decide_eq_decide.2 (h k)
  rw [this]
def TabAt (C : Emb) (w : World) (s N : Nat) (M : LkM) (T : Tab) : Prop := ∃ h wa ln, Raw C w s N M h wa ln ∧ Rep T h wa ln
theorem TabAt.same {w w' : World} {s N : Nat} {M : LkM} {T : Tab} (h : TabAt C w s N M T) (hs : ∀ b, M.own s b → w'.heap[b]? = w.heap[b]?) : TabAt C w' s N M T := by
  obtain ⟨a, b, c, r, R⟩ := h
  exact ⟨a, b, c, r.same hs, R⟩
theorem TabAt.mono {w : World} {s N N' : Nat} {M : LkM} {T : Tab} (h : TabAt C w s N M T) (hN : N ≤ N') : TabAt C w s N' M T := by
  obtain ⟨a, b, c, r, R⟩ := h
  exact ⟨a, b, c, r.mono hN, R⟩
section
variable {T : Tab} {h wa : Int → Option Int} {ln : Int → List Int}
theorem Rep.hold (R : Rep T h wa ln) {k tx : Int} (hk : T k = []) : Rep (updT T k [tx]) (updT h k (some tx)) wa ln := by
  have ht : ∀ j, (updT T k [tx] j).tail = (T j).tail := by
    intro j
    by_cases e : j = k
    · subst e; rw [updT_same, hk]; rfl
    · rw [updT_other _ _ e]
  refine ⟨fun j => ?_, fun x => ?_, fun j => ?_⟩
  · by_cases e : j = k
    · subst e; rw [updT_same, updT_same]; rfl
    · rw [updT_other _ _ e, updT_other _ _ e]; exact R.h j
  · rw [waits_mem (T := updT T k [tx]) (T' := T) (fun j => by rw [ht j])]; exact R.wa x
  · rw [ht j]; exact R.ln j
theorem Rep.wait (R : Rep T h wa ln) {k tx : Int} (hk : T k ≠ []) (hk0 : 0 ≤ k) (hg : Tidy0 (updT T k (T k ++ [tx]))) : Rep (updT T k (T k ++ [tx])) h (updT wa tx (some k)) (updT ln k (ln k ++ [tx])) := by
  obtain ⟨a, l, hal⟩ : ∃ a l, T k = a :: l := by
    cases hT : T k with
    | nil => exact (hk hT).elim
    | cons a l => exact ⟨a, l, rfl⟩
  have ht : (T k ++ [tx]).tail = (T k).tail ++ [tx] := by rw [hal]; rfl
  refine ⟨fun j => ?_, fun x => ?_, fun j => ?_⟩
  · by_cases e : j = k
    · subst e; rw [updT_same, R.h j, hal]; rfl
    · rw [updT_other _ _ e]; exact R.h j
  · by_cases e : x = tx
    · subst e
      have : waitsP (updT T k (T k ++ [x])) x = k := waits_of_mem hg (by rw [updT_same, ht]; simp)
      rw [this, updT_same]
      refine ⟨rfl, ?_⟩
      constructor
      · intro h; cases h
      · intro h; omega
    · rw [updT_other _ _ e, waits_mem (T := updT T k (T k ++ [tx])) (T' := T) (fun j => ?_)]
      · exact R.wa x
      · by_cases ej : j = k
        · subst ej; rw [updT_same, ht]; simp [e]
        · rw [updT_other _ _ ej]
  · by_cases e : j = k
    · subst e; rw [updT_same, updT_same, ht, R.ln j]
    · rw [updT_other _ _ e, updT_other _ _ e]; exact R.ln j
end
def errV (c : Int) : Value := if c = 0 then .nilIface else .iface 24 (.int .i64 c)
def AskPost (C : Emb) (s N : Nat) (M : LkM) (p : Bool × Int × Tab) (w : World) (e : Ending) (w' : World) : Prop :=
  e = .returned (.tuple #[.bool p.1, errV p.2.1]) ∧ ∃ M', TabAt C w' s (N + 2) M' p.2.2 ∧ KeptO (M.own s) (M'.own s) w w'
section
variable {w : World} {s N : Nat} {M : LkM} {T : Tab}
theorem askPost_same {c : Int} {b : Bool} {ev : Value} (h : TabAt C w s N M T) (he : ev = errV c) : AskPost C s N M (b, c, T) w (.returned (.tuple #[.bool b, ev])) w :=
  ⟨by rw [he], M, h.mono (by omega), KeptO.refl _ _⟩
end
set_option maxRecDepth 100000 in
set_option maxHeartbeats 4000000 in
theorem ask_range (s : Nat) (tx key : Int) (w : World) (hb : ¬ (0 ≤ key ∧ key < 10 ∧ 1 ≤ tx)) :
    Calls Tryz.prog 115 #[.pointer (some ⟨s, C.o, none⟩), .int .i64 tx, .int .i64 key] w fun e w' => e = .returned (.tuple #[.bool false, .iface 24 (.int .i64 2)]) ∧ w' = w := by
  by_cases h1 : key < 0
  · clear hb
    go_enter Tryz.func115, Tryz.ntmps115
    go_wp2
    go_ret2
    exact ⟨rfl, rfl⟩
  · by_cases h2 : 10 ≤ key
    · clear hb
      go_enter Tryz.func115, Tryz.ntmps115
      go_wp2
      go_ret2
      exact ⟨rfl, rfl⟩
    · have h3 : tx < 1 := by omega
      clear hb
      go_enter Tryz.func115, Tryz.ntmps115
      go_wp2
      go_ret2
      exact ⟨rfl, rfl⟩
set_option maxRecDepth 100000 in
set_option maxHeartbeats 4000000 in
theorem ask_any (s N : Nat) (M : LkM) (T : Tab) (q : Int → Nat) (tx key : Int) (w : World) (hT : TabAt C w s N M T) (hG : Good T) (hq : Ranked T q) (hx : I64 tx) (hky : I64 key) (hN : N ≤ 100000) :
    Calls Tryz.prog 115 #[.pointer (some ⟨s, C.o, none⟩), .int .i64 tx, .int .i64 key] w (AskPost C s N M (askP T q tx key) w) := by
  have hG2 := hG.ask hq tx key (by unfold I64 at hx; omega)
  unfold askP at hG2 ⊢
  by_cases hb : 0 ≤ key ∧ key < 10 ∧ 1 ≤ tx
  · rw [if_neg (by simpa using hb)] at hG2 ⊢
    obtain ⟨h1, h2, h3⟩ := hb
    have g1 : ¬ key < 0 := by omega
    have g2 : ¬ 10 ≤ key := by omega
    have g3 : ¬ tx < 1 := by omega
    have HT := hid hT
    obtain ⟨h, wa, ln, r, R⟩ := hT
    have HR := hid r
    have HP := hid R
    have HG := hid hG
    have HQ := hid hq
    clear r R hG hq
    have hwc := waits_cases T tx
    have hw64 := waits_i64 T tx
    have hh64 := holds_i64 HG.out.tidy key
    obtain ⟨k0, hk0⟩ : ∃ k0, waitsP T tx = k0 := ⟨_, rfl⟩
    obtain ⟨y, hy⟩ : ∃ y, holdsP T key = y := ⟨_, rfl⟩
    rw [hk0] at hwc hG2 ⊢
    rw [hy] at hG2 hh64 ⊢
    have HK0 := hid hk0
    have HY := hid hy
    clear hk0 hy hw64
    by_cases hw : 0 ≤ k0
    · rw [if_pos hw] at hG2 ⊢
      have e1 : (k0 != -1) = true := by simp; omega
      clear hwc
      go_enter Tryz.func115, Tryz.ntmps115
      go_wp2_with (go_at_call 99; refine (waitsR s N M HP.out tx _ HR.out hx).mono ?_; rw [HK0.out]; rintro e w' ⟨rfl, rfl⟩)
      go_ret2
      exact askPost_same HT.out rfl
    · rw [if_neg hw] at hG2 ⊢
      have hk1 : k0 = -1 := by omega
      subst hk1
      by_cases hyx : y = tx
      · rw [if_pos hyx] at hG2 ⊢
        subst hyx
        have e2 : (y == 0) = false := by simp; omega
        clear hwc hw
        go_enter Tryz.func115, Tryz.ntmps115
        go_wp2_with (first
          | (go_at_call 99; refine (waitsR s N M HP.out y _ HR.out hx).mono ?_; rw [HK0.out]; rintro e w' ⟨rfl, rfl⟩)
          | (go_at_call 98; refine (holdsR s N M HP.out key _ HR.out hky).mono ?_; rw [HY.out]; rintro e w' ⟨rfl, rfl⟩))
        go_ret2
        exact askPost_same HT.out rfl
      · rw [if_neg hyx] at hG2 ⊢
        by_cases hn : T key = []
        · rw [if_pos hn] at hG2 ⊢
          have hy0 : y = 0 := by rw [← HY.out]; exact (holds_zero HG.out.tidy).2 hn
          subst hy0
          have HRH := hid (HP.out.hold (tx := tx) hn)
          have HGG := hid hG2
          clear hwc hw hyx hn hG2
          go_enter Tryz.func115, Tryz.ntmps115
          go_wp2_with (first
            | (go_at_call 99; refine (waitsR s N M HP.out tx _ HR.out hx).mono ?_; rw [HK0.out]; rintro e w' ⟨rfl, rfl⟩)
            | (go_at_call 98; refine (holdsR s N M HP.out key _ HR.out hky).mono ?_; rw [HY.out]; rintro e w' ⟨rfl, rfl⟩)
            | (go_at_call 163; refine (hold_any s N M h wa ln tx key _ HR.out hky (by omega)).mono ?_; rintro e w' ⟨rfl, hM⟩))
          go_ret2
          obtain ⟨M', hM1, hM2⟩ := hM
          exact ⟨rfl, M', ⟨_, _, _, hM1.mono (Nat.le_succ _), HRH.out⟩, hM2⟩
        · rw [if_neg hn] at hG2 ⊢
          have hyp : 1 ≤ y := by rw [← HY.out]; exact holds_pos HG.out.tidy hn
          have e2 : (y == 0) = false := by simp; omega
          have e3 : (y == tx) = false := by simpa using hyx
          by_cases hc : reachP T tx (q y + 1) y = true
          · rw [if_pos hc] at hG2 ⊢
            have HC := hid hc
            clear hwc hw hn hG2 hc
            go_enter Tryz.func115, Tryz.ntmps115
            go_wp2_with (first
              | (go_at_call 99; refine (waitsR s N M HP.out tx _ HR.out hx).mono ?_; rw [HK0.out]; rintro e w' ⟨rfl, rfl⟩)
              | (go_at_call 98; refine (holdsR s N M HP.out key _ HR.out hky).mono ?_; rw [HY.out]; rintro e w' ⟨rfl, rfl⟩)
              | (go_at_call 164; refine (waitsFor_any s N M h wa ln T q y tx _ HR.out HP.out HG.out.tidy HQ.out hh64 hyx).mono ?_; rw [HC.out]; rintro e w' ⟨rfl, rfl⟩))
            go_ret2
            exact askPost_same HT.out rfl
          · rw [if_neg hc] at hG2 ⊢
            have HC := hid (show reachP T tx (q y + 1) y = false by simpa using hc)
            have HRH := hid (HP.out.wait (tx := tx) hn h1 hG2.tidy)
            clear hwc hw hn hG2 hc
            go_enter Tryz.func115, Tryz.ntmps115
            go_wp2_with (first
              | (go_at_call 99; refine (waitsR s N M HP.out tx _ HR.out hx).mono ?_; rw [HK0.out]; rintro e w' ⟨rfl, rfl⟩)
              | (go_at_call 98; refine (holdsR s N M HP.out key _ HR.out hky).mono ?_; rw [HY.out]; rintro e w' ⟨rfl, rfl⟩)
              | (go_at_call 164; refine (waitsFor_any s N M h wa ln T q y tx _ HR.out HP.out HG.out.tidy HQ.out hh64 hyx).mono ?_; rw [HC.out]; rintro e w' ⟨rfl, rfl⟩)
              | (go_at_call 165; refine (wait_any s N M h wa ln tx key _ HR.out hky hx hN).mono ?_; rintro e w' ⟨rfl, hM⟩))
            go_ret2
            obtain ⟨M', hM1, hM2⟩ := hM
            exact ⟨rfl, M', ⟨_, _, _, hM1, HRH.out⟩, hM2⟩
  · rw [if_pos (by simpa using hb)]
    refine (ask_range s tx key w hb).mono ?_
    rintro e w' ⟨rfl, rfl⟩
    exact askPost_same hT rfl
end Go.Proofs.YtjefgmeejhakbaaGreatDoor

/- Plain: how Drop goes on from key to key. -/
namespace Go.Proofs.YtjefgmeejhakbaaGreatDoor
open Go.RowKit
def midT (T : Tab) (tx : Int) (j : Int) : Tab := fun k => if k < j ∨ holdsP T k ≠ tx then (T k).filter (fun x => x != tx) else T k
theorem midT_sub (T : Tab) (tx j : Int) (k : Int) : (midT T tx j k).Sublist (T k) := by
  unfold midT
  split
  · exact List.filter_sublist
  · exact List.Sublist.refl _
theorem Good.mid {T : Tab} (h : Good T) (tx j : Int) : Good (midT T tx j) := h.sub (midT_sub T tx j)
theorem midT_end {T : Tab} (h : Tidy0 T) (tx : Int) : midT T tx 10 = dropP T tx := by
  funext k
  unfold midT dropP
  by_cases hk : k < 10 ∨ holdsP T k ≠ tx
  · rw [if_pos hk]
  · rw [if_neg hk]
    by_cases e : T k = []
    · rw [e]; rfl
    · have := h.rng k e; omega
theorem filter_none {l : List Int} {tx : Int} (h : tx ∉ l) : l.filter (fun x => x != tx) = l := by
  refine List.filter_eq_self.2 (fun x hx => ?_)
  simp only [bne_iff_ne, ne_eq]
  rintro rfl
  exact h hx
theorem head_or {T : Tab} {k x : Int} (h : x ∈ T k) : holdsP T k = x ∨ x ∈ (T k).tail := by
  unfold holdsP
  cases hT : T k with
  | nil => rw [hT] at h; simp at h
  | cons a l =>
    rw [hT] at h
    rcases List.mem_cons.1 h with e | e
    · exact .inl e.symm
    · exact .inr e
theorem mid_none {T : Tab} (hT : Tidy0 T) {tx : Int} (hw : waitsP T tx = -1) : midT T tx 0 = T := by
  funext k
  unfold midT
  by_cases hh : k < 0 ∨ holdsP T k ≠ tx
  · rw [if_pos hh]
    refine filter_none (fun hm => ?_)
    rcases hh with hh | hh
    · have := hT.rng k (fun e => by rw [e] at hm; simp at hm); omega
    · rcases head_or hm with e | e
      · exact hh e
      · exact waits_none hT (by omega) k e
  · rw [if_neg hh]
theorem mid_tail {T : Tab} (hT : Tidy0 T) (tx k x : Int) : x ∈ (midT T tx 0 k).tail ↔ x ∈ (T k).tail ∧ x ≠ tx := by
  have hnod := hT.nod k
  unfold midT
  by_cases hh : k < 0 ∨ holdsP T k ≠ tx
  · rw [if_pos hh]
    cases hTk : T k with
    | nil => simp
    | cons a l =>
      have ha : a ≠ tx := by
        rcases hh with hh | hh
        · have := hT.rng k (by rw [hTk]; simp); omega
        · simpa [holdsP, hTk] using hh
      simp [ha]
  · rw [if_neg hh]
    have hh2 : holdsP T k = tx := Classical.not_not.1 (fun h => hh (.inr h))
    constructor
    · intro hx
      refine ⟨hx, ?_⟩
      rintro rfl
      rcases head_not_tail hnod with h | h
      · exact h (by have := hh2; unfold holdsP at this; rw [this]; exact hx)
      · rw [h] at hx; simp at hx
    · exact fun h => h.1
theorem Rep.leave {T : Tab} {h wa : Int → Option Int} {ln : Int → List Int} (R : Rep T h wa ln) (hT : Tidy0 T) {tx k : Int} (hw : waitsP T tx = k) (hk : 0 ≤ k) : Rep (midT T tx 0) h (updT wa tx none) (updT ln k ((ln k).filter (fun x => x != tx))) := by
  have hmem : tx ∈ (T k).tail := by rw [← hw]; exact mem_of_waits (by omega)
  have hhead : ∀ j, (midT T tx 0 j).head? = (T j).head? := by
    intro j
    unfold midT
    split
    · rename_i hh
      cases hTj : T j with
      | nil => rfl
      | cons a l =>
        have ha : a ≠ tx := by
          rcases hh with hh | hh
          · have := hT.rng j (by rw [hTj]; simp); omega
          · simpa [holdsP, hTj] using hh
        simp [ha]
    · rfl
  refine ⟨fun j => (R.h j).trans (hhead j).symm, fun x => ?_, fun j => ?_⟩
  · by_cases e : x = tx
    · subst e
      have : waitsP (midT T x 0) x = -1 := by
        unfold waitsP
        rw [List.find?_eq_none.2]
        · rfl
        · intro j _
          simp [mid_tail hT]
      rw [this, updT_same]
      exact ⟨rfl, by simp⟩
    · rw [updT_other _ _ e, waits_mem (T := midT T tx 0) (T' := T) (fun j => by rw [mid_tail hT]; simp [e])]
      exact R.wa x
  · by_cases e : j = k
    · subst e
      rw [updT_same, R.ln j]
      cases hTj : T j with
      | nil => rw [hTj] at hmem; simp at hmem
      | cons a l =>
        have hn := hT.nod j
        rw [hTj] at hn hmem
        have ha : a ≠ tx := by rintro rfl; exact (List.nodup_cons.1 hn).1 hmem
        unfold midT
        rw [if_pos (.inr (by simpa [holdsP, hTj] using ha)), hTj]
        simp [ha]
    · rw [updT_other _ _ e, R.ln j]
      unfold midT
      split
      · rename_i hh
        rw [filter_none]
        intro hm
        rcases head_or hm with e2 | e2
        · rcases hh with hh | hh
          · have := hT.rng j (fun e => by rw [e] at hm; simp at hm); omega
          · exact hh e2
        · exact e ((waits_of_mem hT e2).symm.trans hw)
      · rfl
theorem mid_skip {T : Tab} {tx j : Int} (hh : holdsP T j ≠ tx ∨ T j = []) : midT T tx (j + 1) = midT T tx j := by
  funext k
  unfold midT
  by_cases e : k = j
  · subst e
    rw [if_pos (.inl (by omega))]
    rcases hh with hh | hh
    · rw [if_pos (.inr hh)]
    · rw [hh]; simp
  · by_cases h1 : k < j
    · rw [if_pos (.inl (by omega)), if_pos (.inl h1)]
    · by_cases h2 : holdsP T k ≠ tx
      · rw [if_pos (.inr h2), if_pos (.inr h2)]
      · rw [if_neg (by omega), if_neg (by omega)]
theorem mid_hit {T : Tab} (hT : Tidy0 T) {tx j : Int} {l : List Int} (hh : T j = tx :: l) : midT T tx j j = tx :: l ∧ midT T tx (j + 1) = updT (midT T tx j) j l := by
  have hl : tx ∉ l := by have := hT.nod j; rw [hh] at this; exact (List.nodup_cons.1 this).1
  have e1 : midT T tx j j = tx :: l := by
    unfold midT
    rw [if_neg, hh]
    simp [holdsP, hh]
  refine ⟨e1, ?_⟩
  funext k
  by_cases e : k = j
  · subst e
    rw [updT_same]
    unfold midT
    rw [if_pos (.inl (by omega)), hh]
    simp [filter_none hl]
  · rw [updT_other _ _ e]
    unfold midT
    by_cases h1 : k < j
    · rw [if_pos (.inl (by omega)), if_pos (.inl h1)]
    · by_cases h2 : holdsP T k ≠ tx
      · rw [if_pos (.inr h2), if_pos (.inr h2)]
      · rw [if_neg (by omega), if_neg (by omega)]
section
variable {T : Tab} {h wa : Int → Option Int} {ln : Int → List Int}
theorem Rep.empty (R : Rep T h wa ln) {j x : Int} (hj : T j = [x]) : Rep (updT T j []) (updT h j none) wa ln := by
  have ht : ∀ k, (updT T j [] k).tail = (T k).tail := by
    intro k
    by_cases e : k = j
    · subst e; rw [updT_same, hj]; rfl
    · rw [updT_other _ _ e]
  refine ⟨fun k => ?_, fun y => ?_, fun k => ?_⟩
  · by_cases e : k = j
    · subst e; rw [updT_same, updT_same]; rfl
    · rw [updT_other _ _ e, updT_other _ _ e]; exact R.h k
  · rw [waits_mem (T := updT T j []) (T' := T) (fun k => by rw [ht k])]; exact R.wa y
  · rw [ht k]; exact R.ln k
theorem Rep.next (R : Rep T h wa ln) (hT : Tidy0 T) {j x f : Int} {l : List Int} (hj : T j = x :: f :: l) : Rep (updT T j (f :: l)) (updT (updT h j none) j (some f)) (updT wa f none) (updT ln j ((ln j).filter (fun y => y != f))) := by
  have hn := hT.nod j
  rw [hj] at hn
  have hfl : f ∉ l := (List.nodup_cons.1 (List.nodup_cons.1 hn).2).1
  have hff : ∀ k, f ∈ (T k).tail → k = j := fun k hk => hT.one k j f hk (by rw [hj]; simp)
  refine ⟨fun k => ?_, fun y => ?_, fun k => ?_⟩
  · by_cases e : k = j
    · subst e; rw [updT_same, updT_same]; rfl
    · rw [updT_other _ _ e, updT_other _ _ e, updT_other _ _ e]; exact R.h k
  · by_cases e : y = f
    · subst e
      have : waitsP (updT T j (y :: l)) y = -1 := by
        unfold waitsP
        rw [List.find?_eq_none.2]
        · rfl
        · intro k _
          by_cases ek : k = j
          · subst ek; rw [updT_same]; simp [hfl]
          · rw [updT_other _ _ ek]; simpa using fun hk => ek (hff k hk)
      rw [this, updT_same]
      exact ⟨rfl, by simp⟩
    · rw [updT_other _ _ e, waits_mem (T := updT T j (f :: l)) (T' := T) (fun k => ?_)]
      · exact R.wa y
      · by_cases ek : k = j
        · subst ek; rw [updT_same, hj]; simp [e]
        · rw [updT_other _ _ ek]
  · by_cases e : k = j
    · subst e
      rw [updT_same, updT_same, R.ln k, hj]
      simp [filter_none hfl]
    · rw [updT_other _ _ e, updT_other _ _ e]; exact R.ln k
end
def outTo (T : Tab) (tx : Int) (j : Nat) : List (Int × Int) := (keysP.take j).flatMap (outOf T tx)
theorem keysP_get {j : Nat} (h : j < 10) : keysP[j]? = some (j : Int) := by
  match j, h with
  | 0, _ => rfl | 1, _ => rfl | 2, _ => rfl | 3, _ => rfl | 4, _ => rfl | 5, _ => rfl | 6, _ => rfl | 7, _ => rfl | 8, _ => rfl | 9, _ => rfl
theorem outTo_step (T : Tab) (tx : Int) {j : Nat} (h : j < 10) : outTo T tx (j + 1) = outTo T tx j ++ outOf T tx j := by
  unfold outTo
  rw [List.take_add_one, keysP_get h]
  simp
theorem outTo_end (T : Tab) (tx : Int) : outTo T tx 10 = outP T tx := rfl
theorem outTo_length (T : Tab) (tx : Int) : ∀ j, j ≤ 10 → (outTo T tx j).length ≤ j
  | 0, _ => by simp [outTo]
  | j + 1, h => by
    have := outTo_length T tx j (by omega)
    rw [outTo_step T tx (by omega), List.length_append]
    have : (outOf T tx j).length ≤ 1 := by unfold outOf; split <;> simp
    omega
theorem outOf_skip {T : Tab} {tx j : Int} (hh : holdsP T j ≠ tx ∨ T j = []) : outOf T tx j = [] := by
  unfold outOf
  rw [if_neg]
  rintro ⟨h1, h2⟩
  rcases hh with hh | hh
  · exact hh h1
  · exact h2 (by simp [dropP, hh])
theorem outOf_none {T : Tab} {tx j : Int} (hh : T j = [tx]) : outOf T tx j = [] := by
  unfold outOf
  rw [if_neg]
  rintro ⟨_, h2⟩
  exact h2 (by simp [dropP, hh])
theorem outOf_next {T : Tab} (hT : Tidy0 T) {tx j f : Int} {l : List Int} (hh : T j = tx :: f :: l) : outOf T tx j = [(j, f)] := by
  have hn := hT.nod j
  rw [hh] at hn
  have e : dropP T tx j = f :: l := by
    unfold dropP
    rw [hh, List.filter_cons, if_neg (by simp)]
    exact filter_none (List.nodup_cons.1 hn).1
  unfold outOf
  rw [if_pos ⟨by simp [holdsP, hh], by rw [e]; simp⟩]
  simp [holdsP, e]
end Go.Proofs.YtjefgmeejhakbaaGreatDoor

/- base's sum and number: of bytes. -/
namespace Go.Proofs.YtjefgmeejhakbaaGreatDoor
open Go.RowKit
end Go.Proofs.YtjefgmeejhakbaaGreatDoor
