/- Lists of acts and of numbers that came in. -/
import Derived.Test.YtmmjolknfgjbeaaGreatDoorMgAC
import Derived.Test.YtmmjolknfgjbeaaGreatDoorKtMovesA
namespace Go.Proofs.YtmmjolknfgjbeaaGreatDoor
open Go.ChangeShapes Go.WideShapes Go.ChangeAt Go.RowKit

theorem tryd_cells_act : Tryz.prog.cellsOf 62 = 4 := by kernel_rfl
section
variable {H : Type} {enc : TypeId × Value → H}
set_option maxRecDepth 100000 in
theorem open_acts {W : World} {base : Nat} {v : Value} {d : DataW H} {p : List MemPlace} (hv : Value.okWide Tryz.prog W .any base 56 v) (h : DataW.Trod enc Tryz.prog W 0 (fun _ => true) true 56 v d p) : ∃ ad n cap, v = .slice ad n cap ∧ ActsAt W ad n := by
  obtain ⟨ad, n, cap, rfl⟩ := okWide_slice Tryz.underlying56 hv
  refine ⟨ad, n, cap, rfl, ?_⟩
  obtain ⟨fuel, hf⟩ := h
  rcases Go.Deep.open_slice Tryz.underlying56 hf with ⟨e, _⟩ | ⟨a, len, cp, m, n', D, Pl, e, _, hl, _, hm, _, hx⟩
  · simp [Value.cells] at e
    obtain ⟨rfl, rfl, rfl⟩ := e
    intro i hi
    omega
  · simp [Value.cells] at e
    obtain ⟨rfl, rfl, rfl⟩ := e
    have hm' : m = cap := by simpa using hm
    have each : ∀ i, i < m → ∃ (v0 v1 v2 v3 : Value), W.cell? (a.add (i * 4)) = some v0 ∧ W.cell? (a.add (i * 4 + 1)) = some v1 ∧ W.cell? (a.add (i * 4 + 2)) = some v2 ∧ W.cell? (a.add (i * 4 + 3)) = some v3 ∧
        (∃ y, DataW.trod enc Tryz.prog W 0 (fun _ => true) true (n' - 1) 3 [v0] = some y) ∧ (∃ y, DataW.trod enc Tryz.prog W 0 (fun _ => true) true (n' - 1) 3 [v1] = some y) ∧ (∃ y, DataW.trod enc Tryz.prog W 0 (fun _ => true) true (n' - 1) 3 [v2] = some y) ∧ (∃ y, DataW.trod enc Tryz.prog W 0 (fun _ => true) true (n' - 1) 3 [v3] = some y) := by
      intro i hi
      obtain ⟨cs', h1, h2⟩ := hx i hi
      rw [tryd_cells_act] at h1
      obtain ⟨_, hlen, hcell⟩ := World.cells?_some h1
      obtain ⟨xs, k, hk, hxy, _, hxl, hf'⟩ := DataW.trod_struct Tryz.underlying62 h2
      have hk' : k = n' - 1 := by omega
      subst hk'
      match xs, hxl, cs', hlen with
      | [y0, y1, y2, y3], _, [v0, v1, v2, v3], _ =>
        have g0 := hf' 0 _ rfl
        have g1 := hf' 1 _ rfl
        have g2 := hf' 2 _ rfl
        have g3 := hf' 3 _ rfl
        simp [tryd_cells3] at g0 g1 g2 g3
        have e0 := hcell 0 (by omega)
        have e1 := hcell 1 (by omega)
        have e2 := hcell 2 (by omega)
        have e3 := hcell 3 (by omega)
        rw [Go.Deep.add_add] at e0 e1 e2 e3
        exact ⟨v0, v1, v2, v3, by simpa using e0, by simpa using e1, by simpa using e2, by simpa using e3, ⟨y0, g0⟩, ⟨y1, g1⟩, ⟨y2, g2⟩, ⟨y3, g3⟩⟩
    intro i hi
    obtain ⟨_, _, _, _, h00, _⟩ := each 0 (by omega)
    obtain ⟨b, off, rfl⟩ := addr_plain (by simpa using h00)
    obtain ⟨v0, v1, v2, v3, h0, h1, h2, h3, ⟨_, t0⟩, ⟨_, t1⟩, ⟨_, t2⟩, ⟨_, t3⟩⟩ := each i (by omega)
    rw [Addr.add_mid] at h0 h1 h2 h3
    obtain ⟨q0, e0, _⟩ := DataW.trod_int Tryz.underlying3 t0
    obtain ⟨q1, e1, _⟩ := DataW.trod_int Tryz.underlying3 t1
    obtain ⟨q2, e2, _⟩ := DataW.trod_int Tryz.underlying3 t2
    obtain ⟨q3, e3, _⟩ := DataW.trod_int Tryz.underlying3 t3
    rw [(List.cons.inj e0).1] at h0
    rw [(List.cons.inj e1).1] at h1
    rw [(List.cons.inj e2).1] at h2
    rw [(List.cons.inj e3).1] at h3
    exact ⟨b, off, q0, q1, q2, q3, rfl, h0, h1, h2, h3⟩
set_option maxRecDepth 100000 in
theorem open_nums {W : World} {base : Nat} {v : Value} {d : DataW H} {p : List MemPlace} (hv : Value.okWide Tryz.prog W .any base 29 v) (h : DataW.Trod enc Tryz.prog W 0 (fun _ => true) true 29 v d p) : ∃ ad n cap, v = .slice ad n cap ∧ IntsAt W ad n := by
  obtain ⟨ad, n, cap, rfl⟩ := okWide_slice Tryz.underlying29 hv
  refine ⟨ad, n, cap, rfl, ?_⟩
  obtain ⟨fuel, hf⟩ := h
  rcases Go.Deep.open_slice Tryz.underlying29 hf with ⟨e, _⟩ | ⟨a, len, cp, m, n', D, Pl, e, _, hl, _, hm, _, hx⟩
  · simp [Value.cells] at e
    obtain ⟨rfl, rfl, rfl⟩ := e
    intro i hi
    omega
  · simp [Value.cells] at e
    obtain ⟨rfl, rfl, rfl⟩ := e
    have hm' : m = cap := by simpa using hm
    have each : ∀ i, i < m → ∃ (v0 : Value) (k : Nat), W.cell? (a.add i) = some v0 ∧ (∃ y, DataW.trod enc Tryz.prog W 0 (fun _ => true) true k 3 [v0] = some y) := by
      intro i hi
      obtain ⟨cs', h1, h2⟩ := hx i hi
      rw [tryd_cells3] at h1
      obtain ⟨_, hlen, hcell⟩ := World.cells?_some h1
      match cs', hlen with
      | [v0], _ =>
        have e0 := hcell 0 (by omega)
        rw [Go.Deep.add_add] at e0
        exact ⟨v0, _, by simpa using e0, ⟨_, h2⟩⟩
    intro i hi
    obtain ⟨_, _, h00, _⟩ := each 0 (by omega)
    obtain ⟨b, off, rfl⟩ := addr_plain (by simpa using h00)
    obtain ⟨v0, k, h0, ⟨_, t0⟩⟩ := each i (by omega)
    rw [Addr.add_mid] at h0
    obtain ⟨q0, e0, _⟩ := DataW.trod_int Tryz.underlying3 t0
    rw [(List.cons.inj e0).1] at h0
    exact ⟨b, off, q0, rfl, h0⟩
end

end Go.Proofs.YtmmjolknfgjbeaaGreatDoor
