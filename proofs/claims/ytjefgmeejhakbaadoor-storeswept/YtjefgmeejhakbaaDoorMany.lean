/- (*Store).Many. -/
import Derived.Test.YtjefgmeejhakbaaDoorRead
import Derived.Deep.MidRow
namespace Go.Proofs.YtjefgmeejhakbaaDoor
open Go.RowKit

theorem info24 : (Tryd.prog.info? 24).map (·.size) = some 10 := by kernel_rfl
theorem info23 : (Tryd.prog.info? 23).map (·.size) = some 1 := by kernel_rfl

/-- All keys' rows at once. -/
theorem run_keys {w : World} {base s : Nat} {last : Int} {vs : List Value} {ks : List (List (Int × Int))} (h : Sto w base s last vs ks) :
    (Instr.loadAt 24 (.pointer (some ⟨s, 1, none⟩))).run Tryd.prog w = .ok (.agg vs.toArray) w :=
  run_loadAt_mid w s 1 24 vs (.array 10 23) (fun j v hv => h.cell hv) Tryd.underlying24 rfl (by rw [info24, h.lv])

/-- One key's row of them. -/
theorem run_key {vs : List Value} {k : Nat} {v : Value} (hv : vs[k]? = some v) (hk : k < 10) (w : World) :
    (Instr.index 24 (.agg vs.toArray) (.int .i64 (k : Int))).run Tryd.prog w = .ok v w := by
  have hk0 : (0 : Int) ≤ (k : Int) ∧ (k : Int) < 10 := by omega
  cases hq : Tryd.prog.info? 23 with
  | none => have := info23; simp [hq] at this
  | some i =>
    have hs : i.size = 1 := by have := info23; simpa [hq] using this
    simp [Instr.index, asIntOf, run_underlying Tryd.underlying24, sizeOf, typeInfo, hq, hs, hk0]
    rw [if_pos hk]
    simp [part, isAgg, run_underlying Tryd.underlying23, hv]

/-- How many versions there are. -/
def manyP (ks : List (List (Int × Int))) : Nat := (ks.map List.length).sum
theorem manyP_snoc (ks : List (List (Int × Int))) (l : List (Int × Int)) : manyP (ks ++ [l]) = manyP ks + l.length := by simp [manyP]
theorem manyP_bound : ∀ (ks : List (List (Int × Int))) (N : Nat), (∀ l ∈ ks, l.length ≤ N) → manyP ks ≤ ks.length * N
  | [], _, _ => by simp [manyP]
  | l :: r, N, h => by
    have h1 := manyP_bound r N (fun m hm => h m (List.mem_cons_of_mem _ hm))
    have h2 := h l (List.mem_cons_self ..)
    simp only [manyP, List.map_cons, List.sum_cons, List.length_cons, Nat.add_mul] at *
    omega

/-- A key's row as a slice value. -/
theorem Sto.slice {w : World} {base s : Nat} {last : Int} {vs : List Value} {ks : List (List (Int × Int))} (h : Sto w base s last vs ks) {k : Nat} (hk : k < 10) :
    ∃ ad cap l, vs[k]? = some (.slice ad l.length cap) ∧ ks[k]? = some l ∧ w.ownsRow base 44 2 (.slice ad l.length cap) l.length (vrow l) := by
  obtain ⟨v, hv⟩ : ∃ v, vs[k]? = some v := ⟨vs[k]'(by have := h.lv; omega), List.getElem?_eq_getElem _⟩
  obtain ⟨l, hl⟩ : ∃ v, ks[k]? = some v := ⟨ks[k]'(by have := h.lk; omega), List.getElem?_eq_getElem _⟩
  have ho := h.own k v l hv hl
  obtain ⟨ad, cap, rfl⟩ : ∃ ad cap, v = .slice ad l.length cap := by
    rcases ho.2 with ⟨e, e0⟩ | ⟨g, cap, cur, e, _⟩
    · exact ⟨_, _, by rw [e0]; exact e⟩
    · exact ⟨_, _, e⟩
  exact ⟨ad, cap, l, hv, hl, ho⟩

set_option maxRecDepth 100000 in
set_option maxHeartbeats 1000000 in
theorem many_any (base s : Nat) (last : Int) (vs : List Value) (ks : List (List (Int × Int))) (w : World) (h : Sto w base s last vs ks) (hks : ∀ l ∈ ks, l.length ≤ 1000000) :
    Calls Tryd.prog 20 #[.pointer (some ⟨s, 0, none⟩)] w fun e w' => e = .returned (.int .i64 (manyP ks : Nat)) ∧ w' = w := by
  have hld : w.rangeAt s 1 vs := fun j v hv => h.cell hv
  have hin : (Tryd.prog.info? 24).map (·.size) = some vs.length := by rw [info24, h.lv]
  go_enter Tryd.func20, Tryd.ntmps20
  go_wp2_with (refine wpList_load_mid (by rfl) 24 _ (by rfl) s 1 (by rfl) vs (.array 10 23) hld Tryd.underlying24 rfl hin ?_)
  clear hld hin
  go_loop [3, 10] (fun n i => ∃ k : Nat, k ≤ 10 ∧ i = .int .i64 k ∧ n = .int .i64 (manyP (ks.take k) : Nat)) (fun _ i => 10 - (intOf i).toNat)
  case atStart => exact ⟨0, by omega, rfl, by simp [manyP]⟩
  case round =>
    obtain ⟨k, hk, rfl, rfl⟩ := hrel
    have hb := manyP_bound (ks.take k) 1000000 (fun l hl => hks l (List.mem_of_mem_take hl))
    have hb2 : (ks.take k).length ≤ 10 := by simp; omega
    have hb3 : manyP (ks.take k) ≤ 10000000 := by omega
    clear hb hb2
    by_cases hlt : k < 10
    · obtain ⟨ad, cap, l, hv, hl, _⟩ := h.slice hlt
      have hix := run_key hv hlt w
      have hll := hks l (List.mem_of_getElem? hl)
      have hst : Hid (manyP (ks.take (k + 1)) = manyP (ks.take k) + l.length) := by
        show _ = _
        rw [List.take_add_one, hl]
        exact manyP_snoc _ _
      clear hl hv
      have hk1 : (k : Int) < 10 := by omega
      go_wp2
      go_round
      case rel => exact ⟨k + 1, by omega, by go_num, by rw [hst.out]; go_num⟩
      case measure => simp [intOf]; omega
    · have e : ks.take k = ks := List.take_of_length_le (by rw [h.lk]; omega)
      rw [e]
      clear e
      go_wp2
      go_ret
      exact ⟨rfl, rfl⟩

end Go.Proofs.YtjefgmeejhakbaaDoor
