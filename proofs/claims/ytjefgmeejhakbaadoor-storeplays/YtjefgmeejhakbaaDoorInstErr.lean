/- (*Store).Install where something is wrong, or there is nothing to install. -/
import Derived.Test.YtjefgmeejhakbaaDoorRefNewer
namespace Go.Proofs.YtjefgmeejhakbaaDoor
open Go.RowKit

set_option maxHeartbeats 1000000 in
theorem wrong_key (k v : Int) (w : World) (h1 : keyB k = false) :
    Calls Tryd.prog 45 #[.agg #[.int .i64 k, .int .i64 v]] w fun e w' => e = .returned (.int .i64 2) ∧ Below w.heap.size w w' := by
  go_enter Tryd.func45, Tryd.ntmps45
  go_wp2_with (go_at_call 51; refine (isKey_any _ _).mono ?_; rintro e w' ⟨rfl, rfl⟩)
  go_ret
  exact ⟨rfl, (Below.refl _ _).alloc (Nat.le_refl _) _⟩

set_option maxHeartbeats 1000000 in
theorem wrong_low (k v : Int) (w : World) (h1 : keyB k = true) (h2 : v < -1099511627776) :
    Calls Tryd.prog 45 #[.agg #[.int .i64 k, .int .i64 v]] w fun e w' => e = .returned (.int .i64 1) ∧ Below w.heap.size w w' := by
  go_enter Tryd.func45, Tryd.ntmps45
  go_wp2_with (go_at_call 51; refine (isKey_any _ _).mono ?_; rintro e w' ⟨rfl, rfl⟩)
  go_ret
  exact ⟨rfl, (Below.refl _ _).alloc (Nat.le_refl _) _⟩

set_option maxHeartbeats 1000000 in
theorem wrong_high (k v : Int) (w : World) (h1 : keyB k = true) (h2 : ¬ v < -1099511627776) (h3 : 1099511627776 < v) :
    Calls Tryd.prog 45 #[.agg #[.int .i64 k, .int .i64 v]] w fun e w' => e = .returned (.int .i64 1) ∧ Below w.heap.size w w' := by
  go_enter Tryd.func45, Tryd.ntmps45
  go_wp2_with (go_at_call 51; refine (isKey_any _ _).mono ?_; rintro e w' ⟨rfl, rfl⟩)
  go_ret
  exact ⟨rfl, (Below.refl _ _).alloc (Nat.le_refl _) _⟩

/-- What may not be so of a write: ErrRange, ErrArg. -/
def Bad (p : Int × Int) (c : Int) : Prop := (keyB p.1 = false ∧ c = 2) ∨ (keyB p.1 = true ∧ (p.2 < -1099511627776 ∨ 1099511627776 < p.2) ∧ c = 1)
theorem Bad.ne {p : Int × Int} {c : Int} (h : Bad p c) : c = 2 ∨ c = 1 := by rcases h with h | h; exact .inl h.2; exact .inr h.2.2
theorem wrong_bad {k v c : Int} (w : World) (h : Bad (k, v) c) : Calls Tryd.prog 45 #[.agg #[.int .i64 k, .int .i64 v]] w fun e w' => e = .returned (.int .i64 c) ∧ Below w.heap.size w w' := by
  rcases h with ⟨h1, rfl⟩ | ⟨h1, h2, rfl⟩
  · exact wrong_key k v w h1
  · by_cases h3 : v < -1099511627776
    · exact wrong_low k v w h1 h3
    · exact wrong_high k v w h1 h3 (by rcases h2 with h | h; exact absurd h h3; exact h)

set_option maxRecDepth 100000 in
set_option maxHeartbeats 2000000 in
theorem install_order (base s : Nat) (last t : Int) (lv : Value) (vs : List Value) (ks : List (List (Int × Int))) (w : World) (h : Sto w base s last vs ks) (ho : t ≤ last ∨ 1099511627776 < t) :
    Calls Tryd.prog 9 #[.pointer (some ⟨s, 0, none⟩), .int .i64 t, lv] w fun e w' => e = .returned (.iface 38 (.int .i64 10)) ∧ w' = w := by
  have hc0 := h.cellLast
  by_cases h1 : t ≤ last
  · go_enter Tryd.func9, Tryd.ntmps9
    go_wp2
    go_ret
    exact ⟨rfl, rfl⟩
  · have h2 : 1099511627776 < t := by omega
    go_enter Tryd.func9, Tryd.ntmps9
    go_wp2
    go_ret
    exact ⟨rfl, rfl⟩

set_option maxRecDepth 100000 in
set_option maxHeartbeats 2000000 in
theorem install_bad (base s b off cap i : Nat) (last t c : Int) (vs : List Value) (ks : List (List (Int × Int))) (ws : List (Int × Int)) (p : Int × Int) (w : World) (h : Sto w base s last vs ks)
    (hws : WRow w b off ws) (hbl : b < w.heap.size) (hfine : ∀ p ∈ ws.take i, Fine p) (hi : ws[i]? = some p) (hbad : Bad p c) (h1 : last < t) (h2 : t ≤ 1099511627776) (hn : ws.length ≤ 1000) :
    Calls Tryd.prog 9 #[.pointer (some ⟨s, 0, none⟩), .int .i64 t, .slice (some ⟨b, off, none⟩) ws.length cap] w fun e w' =>
      (∃ pb, e = .returned (.iface 101 (.pointer (some ⟨pb, 0, none⟩))) ∧ w'.cell? ⟨pb, 0, none⟩ = some (.int .i64 c) ∧ w'.cell? ⟨pb, 1, none⟩ = some (.int .i64 (i : Int))) ∧ Below w.heap.size w w' := by
  have hc0 := h.cellLast
  have d1 : decide (t ≤ last) = false := by simp; omega
  have d2 : decide (1099511627776 < t) = false := by simp; omega
  have hil := (List.getElem?_eq_some_iff.1 hi).1
  have hcn := hbad.ne
  go_enter Tryd.func9, Tryd.ntmps9
  go_wp2
  go_loopw [25] (fun v wr => ∃ k : Nat, k ≤ i ∧ v = .int .i64 k ∧ Below w.heap.size w wr) (fun v _ => ws.length - (intOf v).toNat)
  case atStart => exact ⟨0, Nat.zero_le _, rfl, Below.refl _ _⟩
  case round =>
    obtain ⟨k, hk, rfl, hB⟩ := hrel
    have hBs := hB.size
    have hk0 : (0 : Int) ≤ (k : Int) := by omega
    have hk1 : (k : Int) < (ws.length : Int) := by omega
    by_cases hlt : k < i
    · obtain ⟨⟨a, v⟩, hav⟩ : ∃ p, ws[k]? = some p := ⟨ws[k], List.getElem?_eq_getElem (by omega)⟩
      obtain ⟨hf1, hf2, hf3⟩ := hfine (a, v) (List.mem_of_getElem? (show (ws.take i)[k]? = some (a, v) by rw [List.getElem?_take, if_pos hlt]; exact hav))
      obtain ⟨ca, cv⟩ := (hws.same (hB.block b hbl)) k a v hav
      simp only at hf1 hf2 hf3
      clear hav hi
      go_wp2_with (go_at_call 45; refine (wrong_good _ _ _ hf1 hf2 hf3).mono ?_; rintro e w' ⟨rfl, hb1⟩)
      go_roundw
      case rel => exact ⟨k + 1, by omega, by go_num, hB.trans (((Below.refl _ _).alloc hB.size _).trans (hb1.mono (by simp; omega)))⟩
      case measure => simp [intOf]; omega
    · have hki : k = i := by omega
      subst hki
      obtain ⟨a, v⟩ := p
      obtain ⟨ca, cv⟩ := (hws.same (hB.block b hbl)) k a v hi
      have hcz : (c != 0) = true := by rcases hcn with rfl | rfl <;> rfl
      have HBD := hid hbad
      clear hbad hi hcn
      go_wp2_with (go_at_call 45; refine (wrong_bad _ HBD.out).mono ?_; rintro e w1 ⟨rfl, hb1⟩)
      go_ret
      have hbw := hB.trans (((Below.refl wr.heap.size wr).alloc (Nat.le_refl _) (.cells #[.int .i64 a, .int .i64 v] 64)).mono hBs |>.trans (hb1.mono (by simp; omega)))
      refine ⟨⟨w1.heap.size, rfl, ?_, ?_⟩, hbw.alloc hbw.size _⟩
      · exact (cell_of_row _ _ 0 _ 102 (0, 0) (World.alloc_heap_new w1 _)).trans rfl
      · exact (cell_of_row _ _ 1 _ 102 (0, 0) (World.alloc_heap_new w1 _)).trans rfl

set_option maxRecDepth 100000 in
set_option maxHeartbeats 2000000 in
theorem install_empty (base s cap : Nat) (ad : Option Addr) (last t : Int) (vs : List Value) (ks : List (List (Int × Int))) (w : World) (h : Sto w base s last vs ks) (h1 : last < t) (h2 : t ≤ 1099511627776) :
    Calls Tryd.prog 9 #[.pointer (some ⟨s, 0, none⟩), .int .i64 t, .slice ad 0 cap] w fun e w' => e = .returned .nilIface ∧
      ∃ vs', Sto w' base s t vs' ks ∧ Kept s vs vs' w w' := by
  have hc0 := h.cellLast
  have hf0 := h.free 0
  have d1 : decide (t ≤ last) = false := by simp; omega
  have d2 : decide (1099511627776 < t) = false := by simp; omega
  go_enter Tryd.func9, Tryd.ntmps9
  go_wp2
  go_loop [25] (fun i => i = .int .i64 0) (fun _ => 0)
  case atStart => rfl
  case round =>
    subst hrel
    go_wp2
    go_loop [42] (fun i => i = .int .i64 0) (fun _ => 0)
    case atStart => rfl
    case round =>
      subst hrel
      go_wp2
      go_ret
      exact ⟨rfl, vs, (h.setLast t).1, (h.setLast t).2⟩

end Go.Proofs.YtjefgmeejhakbaaDoor
