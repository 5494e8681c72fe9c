/- A list of ops that came in. -/
import Derived.Test.YtjefgmeejhakbaaGreatDoorRowBaseR
import Derived.Test.YtjefgmeejhakbaaGreatDoorOrOpsR
namespace Go.Proofs.YtjefgmeejhakbaaGreatDoor
open Go.ChangeShapes Go.WideShapes Go.ChangeAt Go.RowKit
theorem list_of {α : Type} (P : Nat → α → Prop) : ∀ n : Nat, (∀ i, i < n → ∃ o, P i o) → ∃ l : List α, l.length = n ∧ ∀ (i : Nat) (o : α), l[i]? = some o → P i o
  | 0, _ => ⟨[], rfl, fun i o h => by simp at h⟩
  | n + 1, h => by
    obtain ⟨l, hl, hP⟩ := list_of P n (fun i hi => h i (by omega))
    obtain ⟨o, ho⟩ := h n (by omega)
    refine ⟨l ++ [o], by simp [hl], fun i o' hi => ?_⟩
    by_cases e : i < l.length
    · rw [List.getElem?_append_left e] at hi
      exact hP i o' hi
    · rw [List.getElem?_append_right (by omega)] at hi
      have e0 : i - l.length = 0 := by
        rcases Nat.eq_zero_or_pos (i - l.length) with h0 | h0
        · exact h0
        · rw [List.getElem?_eq_none (by simp; omega)] at hi; cases hi
      rw [e0] at hi
      simp at hi
      subst hi
      have : i = n := by omega
      subst this
      exact ho
theorem tryd_cells_op : Tryz.prog.cellsOf 90 = 4 := by kernel_rfl
theorem tryd_cells_bool : Tryz.prog.cellsOf 4 = 1 := by kernel_rfl
section
variable {H : Type} {enc : TypeId × Value → H}
set_option maxRecDepth 100000 in
theorem open_ops {W : World} {base : Nat} {v : Value} {d : DataW H} {p : List MemPlace} (hv : Value.okWide Tryz.prog W .any base 22 v) (h : DataW.Trod enc Tryz.prog W 0 (fun _ => true) true 22 v d p) : ∃ ad cap l, v = .slice ad l.length cap ∧ OpsAt W ad l := by
  obtain ⟨ad, n, cap, rfl⟩ := okWide_slice Tryz.underlying22 hv
  obtain ⟨fuel, hf⟩ := h
  rcases Go.Deep.open_slice Tryz.underlying22 hf with ⟨e, _⟩ | ⟨a, len, cp, m, n', D, Pl, e, _, hl, _, hm, _, hx⟩
  · simp [Value.cells] at e
    obtain ⟨rfl, rfl, rfl⟩ := e
    exact ⟨_, _, [], rfl, fun i o h => by simp at h⟩
  · simp [Value.cells] at e
    obtain ⟨rfl, rfl, rfl⟩ := e
    have hm' : m = cap := by simpa using hm
    have each : ∀ i, i < m → ∃ (v0 v1 v2 v3 : Value), W.cell? (a.add (i * 4)) = some v0 ∧ W.cell? (a.add (i * 4 + 1)) = some v1 ∧ W.cell? (a.add (i * 4 + 2)) = some v2 ∧ W.cell? (a.add (i * 4 + 3)) = some v3 ∧
        (∃ y, DataW.trod enc Tryz.prog W 0 (fun _ => true) true (n' - 1) 3 [v0] = some y) ∧ (∃ y, DataW.trod enc Tryz.prog W 0 (fun _ => true) true (n' - 1) 3 [v1] = some y) ∧ (∃ y, DataW.trod enc Tryz.prog W 0 (fun _ => true) true (n' - 1) 4 [v2] = some y) ∧ (∃ y, DataW.trod enc Tryz.prog W 0 (fun _ => true) true (n' - 1) 3 [v3] = some y) := by
      intro i hi
      obtain ⟨cs', h1, h2⟩ := hx i hi
      rw [tryd_cells_op] at h1
      obtain ⟨_, hlen, hcell⟩ := World.cells?_some h1
      obtain ⟨xs, k, hk, hxy, _, hxl, hf'⟩ := DataW.trod_struct Tryz.underlying90 h2
      have hk' : k = n' - 1 := by omega
      subst hk'
      match xs, hxl, cs', hlen with
      | [y0, y1, y2, y3], _, [v0, v1, v2, v3], _ =>
        have g0 := hf' 0 _ rfl
        have g1 := hf' 1 _ rfl
        have g2 := hf' 2 _ rfl
        have g3 := hf' 3 _ rfl
        simp [tryd_cells3, tryd_cells_bool] at g0 g1 g2 g3
        have e0 := hcell 0 (by omega)
        have e1 := hcell 1 (by omega)
        have e2 := hcell 2 (by omega)
        have e3 := hcell 3 (by omega)
        rw [Go.Deep.add_add] at e0 e1 e2 e3
        exact ⟨v0, v1, v2, v3, by simpa using e0, by simpa using e1, by simpa using e2, by simpa using e3, ⟨y0, g0⟩, ⟨y1, g1⟩, ⟨y2, g2⟩, ⟨y3, g3⟩⟩
    obtain ⟨l, hll, hP⟩ := list_of (fun (i : Nat) (o : Opp) => ∃ g off, a = ⟨g, off, none⟩ ∧ g < W.heap.size ∧ OpCells W g (off + i * 4) o ∧ I64 o.1 ∧ I64 o.2.1 ∧ I64 o.2.2.2) n (fun i hi => by
      obtain ⟨_, _, _, _, h00, _⟩ := each 0 (by omega)
      obtain ⟨b, off, rfl⟩ := addr_plain (by simpa using h00)
      obtain ⟨v0, v1, v2, v3, h0, h1, h2, h3, ⟨_, t0⟩, ⟨_, t1⟩, ⟨_, t2⟩, ⟨_, t3⟩⟩ := each i (by omega)
      rw [Addr.add_mid] at h0 h1 h2 h3
      obtain ⟨q0, e0, _, g0⟩ := DataW.trod_int Tryz.underlying3 t0
      obtain ⟨q1, e1, _, g1⟩ := DataW.trod_int Tryz.underlying3 t1
      obtain ⟨q2, e2, _⟩ := DataW.trod_bool Tryz.underlying4 t2
      obtain ⟨q3, e3, _, g3⟩ := DataW.trod_int Tryz.underlying3 t3
      rw [(List.cons.inj e0).1] at h0
      rw [(List.cons.inj e1).1] at h1
      rw [(List.cons.inj e2).1] at h2
      rw [(List.cons.inj e3).1] at h3
      exact ⟨(q0, q1, q2, q3), b, off, rfl, World.block_lt_of_cell? W _ h0, ⟨h0, h1, h2, h3⟩, i64_of_wf g0, i64_of_wf g1, i64_of_wf g3⟩)
    refine ⟨some a, cap, l, by rw [hll], fun i o ho => ?_⟩
    obtain ⟨g, off, e, r⟩ := hP i o ho
    exact ⟨g, off, by rw [e], r⟩
end
end Go.Proofs.YtjefgmeejhakbaaGreatDoor
