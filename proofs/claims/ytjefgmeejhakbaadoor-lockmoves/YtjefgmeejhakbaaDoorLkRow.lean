/- Lists of calls that came in. -/
import Derived.Test.YtjefgmeejhakbaaDoorRowBase
import Derived.Test.YtjefgmeejhakbaaDoorLkMoves
namespace Go.Proofs.YtjefgmeejhakbaaDoor
open Go.ChangeShapes Go.WideShapes Go.ChangeAt Go.RowKit

theorem tryd_cells_lawCalls : Tryd.prog.cellsOf 77 = 3 := by kernel_rfl
section
variable {H : Type} {enc : TypeId × Value → H}
set_option maxRecDepth 100000 in
theorem open_lawCalls {W : World} {base : Nat} {v : Value} {d : DataW H} {p : List MemPlace} (hv : Value.okWide Tryd.prog W .any base 67 v) (h : DataW.Trod enc Tryd.prog W 0 (fun _ => true) true 67 v d p) : ∃ ad n cap, v = .slice ad n cap ∧ Cals W ad n := by
  obtain ⟨ad, n, cap, rfl⟩ := okWide_slice Tryd.underlying67 hv
  refine ⟨ad, n, cap, rfl, ?_⟩
  obtain ⟨fuel, hf⟩ := h
  rcases Go.Deep.open_slice Tryd.underlying67 hf with ⟨e, _⟩ | ⟨a, len, cp, m, n', D, Pl, e, _, hl, _, hm, _, hx⟩
  · simp [Value.cells] at e
    obtain ⟨rfl, rfl, rfl⟩ := e
    intro i hi
    omega
  · simp [Value.cells] at e
    obtain ⟨rfl, rfl, rfl⟩ := e
    have hm' : m = cap := by simpa using hm
    have each : ∀ i, i < m → ∃ (v0 v1 v2 : Value), W.cell? (a.add (i * 3)) = some v0 ∧ W.cell? (a.add (i * 3 + 1)) = some v1 ∧ W.cell? (a.add (i * 3 + 2)) = some v2 ∧
        (∃ y, DataW.trod enc Tryd.prog W 0 (fun _ => true) true (n' - 1) 3 [v0] = some y) ∧ (∃ y, DataW.trod enc Tryd.prog W 0 (fun _ => true) true (n' - 1) 3 [v1] = some y) ∧ (∃ y, DataW.trod enc Tryd.prog W 0 (fun _ => true) true (n' - 1) 3 [v2] = some y) := by
      intro i hi
      obtain ⟨cs', h1, h2⟩ := hx i hi
      rw [tryd_cells_lawCalls] at h1
      obtain ⟨_, hlen, hcell⟩ := World.cells?_some h1
      obtain ⟨xs, k, hk, hxy, _, hxl, hf'⟩ := DataW.trod_struct Tryd.underlying77 h2
      have hk' : k = n' - 1 := by omega
      subst hk'
      match xs, hxl, cs', hlen with
      | [y0, y1, y2], _, [v0, v1, v2], _ =>
        have g0 := hf' 0 _ rfl
        have g1 := hf' 1 _ rfl
        have g2 := hf' 2 _ rfl
        simp [tryd_cells3] at g0 g1 g2
        have e0 := hcell 0 (by omega)
        have e1 := hcell 1 (by omega)
        have e2 := hcell 2 (by omega)
        rw [Go.Deep.add_add] at e0 e1 e2
        exact ⟨v0, v1, v2, by simpa using e0, by simpa using e1, by simpa using e2, ⟨y0, g0⟩, ⟨y1, g1⟩, ⟨y2, g2⟩⟩
    intro i hi
    obtain ⟨_, _, _, h00, _⟩ := each 0 (by omega)
    obtain ⟨b, off, rfl⟩ := addr_plain (by simpa using h00)
    obtain ⟨v0, v1, v2, h0, h1, h2, ⟨_, t0⟩, ⟨_, t1⟩, ⟨_, t2⟩⟩ := each i (by omega)
    rw [Addr.add_mid] at h0 h1 h2
    obtain ⟨q0, e0, _⟩ := DataW.trod_int Tryd.underlying3 t0
    obtain ⟨q1, e1, _, g1⟩ := DataW.trod_int Tryd.underlying3 t1
    obtain ⟨q2, e2, _, g2⟩ := DataW.trod_int Tryd.underlying3 t2
    rw [(List.cons.inj e0).1] at h0
    rw [(List.cons.inj e1).1] at h1
    rw [(List.cons.inj e2).1] at h2
    exact ⟨b, off, q0, q1, q2, rfl, i64_of_wf g1, i64_of_wf g2, h0, h1, h2⟩
end

theorem tryd_cells_keepCalls : Tryd.prog.cellsOf 85 = 3 := by kernel_rfl
section
variable {H : Type} {enc : TypeId × Value → H}
set_option maxRecDepth 100000 in
theorem open_keepCalls {W : World} {base : Nat} {v : Value} {d : DataW H} {p : List MemPlace} (hv : Value.okWide Tryd.prog W .any base 84 v) (h : DataW.Trod enc Tryd.prog W 0 (fun _ => true) true 84 v d p) : ∃ ad n cap, v = .slice ad n cap ∧ Cals W ad n := by
  obtain ⟨ad, n, cap, rfl⟩ := okWide_slice Tryd.underlying84 hv
  refine ⟨ad, n, cap, rfl, ?_⟩
  obtain ⟨fuel, hf⟩ := h
  rcases Go.Deep.open_slice Tryd.underlying84 hf with ⟨e, _⟩ | ⟨a, len, cp, m, n', D, Pl, e, _, hl, _, hm, _, hx⟩
  · simp [Value.cells] at e
    obtain ⟨rfl, rfl, rfl⟩ := e
    intro i hi
    omega
  · simp [Value.cells] at e
    obtain ⟨rfl, rfl, rfl⟩ := e
    have hm' : m = cap := by simpa using hm
    have each : ∀ i, i < m → ∃ (v0 v1 v2 : Value), W.cell? (a.add (i * 3)) = some v0 ∧ W.cell? (a.add (i * 3 + 1)) = some v1 ∧ W.cell? (a.add (i * 3 + 2)) = some v2 ∧
        (∃ y, DataW.trod enc Tryd.prog W 0 (fun _ => true) true (n' - 1) 3 [v0] = some y) ∧ (∃ y, DataW.trod enc Tryd.prog W 0 (fun _ => true) true (n' - 1) 3 [v1] = some y) ∧ (∃ y, DataW.trod enc Tryd.prog W 0 (fun _ => true) true (n' - 1) 3 [v2] = some y) := by
      intro i hi
      obtain ⟨cs', h1, h2⟩ := hx i hi
      rw [tryd_cells_keepCalls] at h1
      obtain ⟨_, hlen, hcell⟩ := World.cells?_some h1
      obtain ⟨xs, k, hk, hxy, _, hxl, hf'⟩ := DataW.trod_struct Tryd.underlying85 h2
      have hk' : k = n' - 1 := by omega
      subst hk'
      match xs, hxl, cs', hlen with
      | [y0, y1, y2], _, [v0, v1, v2], _ =>
        have g0 := hf' 0 _ rfl
        have g1 := hf' 1 _ rfl
        have g2 := hf' 2 _ rfl
        simp [tryd_cells3] at g0 g1 g2
        have e0 := hcell 0 (by omega)
        have e1 := hcell 1 (by omega)
        have e2 := hcell 2 (by omega)
        rw [Go.Deep.add_add] at e0 e1 e2
        exact ⟨v0, v1, v2, by simpa using e0, by simpa using e1, by simpa using e2, ⟨y0, g0⟩, ⟨y1, g1⟩, ⟨y2, g2⟩⟩
    intro i hi
    obtain ⟨_, _, _, h00, _⟩ := each 0 (by omega)
    obtain ⟨b, off, rfl⟩ := addr_plain (by simpa using h00)
    obtain ⟨v0, v1, v2, h0, h1, h2, ⟨_, t0⟩, ⟨_, t1⟩, ⟨_, t2⟩⟩ := each i (by omega)
    rw [Addr.add_mid] at h0 h1 h2
    obtain ⟨q0, e0, _⟩ := DataW.trod_int Tryd.underlying3 t0
    obtain ⟨q1, e1, _, g1⟩ := DataW.trod_int Tryd.underlying3 t1
    obtain ⟨q2, e2, _, g2⟩ := DataW.trod_int Tryd.underlying3 t2
    rw [(List.cons.inj e0).1] at h0
    rw [(List.cons.inj e1).1] at h1
    rw [(List.cons.inj e2).1] at h2
    exact ⟨b, off, q0, q1, q2, rfl, i64_of_wf g1, i64_of_wf g2, h0, h1, h2⟩
end

end Go.Proofs.YtjefgmeejhakbaaDoor
