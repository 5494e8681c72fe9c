/- What the rows share: the listed variable, and lists of calls that came in. -/
import Derived.Test.YtalbgmllcohpeaaDoorCards
import Derived.Test.YtalbgmllcohpeaaDoorTie
import Derived.Test.YtalbgmllcohpeaaDoorLkMoves
import Derived.ProofKit
import Derived.OpenShut
import Derived.Carry
import Derived.Deep.Slices
import Derived.Deep.SlicePairs
import Derived.Deep.DeepHandedRow
import Derived.LaidLaws
import Derived.LaidHandle
namespace Go.Proofs.YtalbgmllcohpeaaDoor
open Go.ChangeShapes Go.WideShapes Go.ChangeAt Go.RowKit

theorem tryd_own : ownKnob Tryd.prog.godebug = none := by kernel_rfl
theorem tryd_laidOut : laidOutB Tryd.prog = true := by kernel_rfl
theorem tryd_et : Tryd.prog.globalNamed "errors.errorType" = some 0 := by kernel_rfl
theorem tryd_rt : (Tryd.prog.cutTypes.find? (·.1 == "internal/reflectlite.rtype")).map (·.2) = some 135 := by kernel_rfl
theorem tryd_oneRow : ((List.range 195).filter fun t => Tryd.prog.rowNamed t [101, 114, 114, 111, 114]) = [36] := by kernel_rfl
theorem tryd_size : Tryd.prog.types.size = 195 := by kernel_rfl

/-- What the listed variable gives the walk: its one cell. -/
theorem handle_of_laid {W : World} (h : laidMetH Tryd.prog [("errors.errorType", Rows.laid_errors_errorType)] W) : Handle W := by
  have h' : laidMet Tryd.prog [] W ∧ handlesMet Tryd.prog [("errors.errorType", Rows.laid_errors_errorType)] W := h
  obtain ⟨name, u, ty, e1, e2, e3, e4, e5⟩ := h'.2 _ (List.mem_singleton.2 rfl)
  have en : name = [101, 114, 114, 111, 114] := (Option.some.inj e1).symm
  subst en
  obtain rfl := Option.some.inj (tryd_rt.symm.trans e2)
  have hm : ty ∈ (List.range 195).filter fun t => Tryd.prog.rowNamed t [101, 114, 114, 111, 114] := List.mem_filter.2 ⟨List.mem_range.2 (by rw [← tryd_size]; exact e3), e4⟩
  rw [tryd_oneRow] at hm
  obtain rfl := List.mem_singleton.1 hm
  have hh : typeHandle Tryd.prog 36 = .pointer (some ⟨1, 36, none⟩) := by kernel_rfl
  rw [hh] at e5
  simpa [Handle] using World.var?_cell tryd_et e5 0

theorem tryd_cells3 : Tryd.prog.cellsOf 3 = 1 := by kernel_rfl

/-- An address at which a cell lies has no spot. -/
theorem addr_plain {w : World} {a : Addr} {v : Value} (h : w.cell? (a.add 0) = some v) : ∃ b off, a = ⟨b, off, none⟩ := by
  obtain ⟨b, off, sp⟩ := a
  cases sp with
  | none => exact ⟨b, off, rfl⟩
  | some s =>
    exfalso
    simp only [Addr.add, if_true, World.cell?, Option.isSome_some] at h
    split at h <;> simp at h
theorem i64_of_wf {a : Int} (h : (Lit.int .i64 a).wf = true) : I64 a := by
  simp [Lit.wf, IntKind.min, IntKind.max, IntKind.signed, IntKind.bits] at h
  unfold I64
  omega

theorem tryd_cells_lawCalls : Tryd.prog.cellsOf 77 = 3 := by kernel_rfl
section
variable {H : Type} {enc : TypeId × Value → H}
set_option maxRecDepth 100000 in
theorem open_lawCalls {W : World} {base : Nat} {v : Value} {d : DataW H} {p : List MemPlace} (hv : Value.okWide Tryd.prog W .any base 67 v) (h : DataW.Trod enc Tryd.prog W 0 (fun _ => true) true 67 v d p) : ∃ ad n cap, v = .slice ad n cap ∧ Cals W ad n := by
  obtain ⟨ad, n, cap, rfl⟩ := okWide_slice Tryd.underlying67 hv
  refine ⟨ad, n, cap, rfl, ?_⟩
  obtain ⟨fuel, hf⟩ := h
  rcases Go.Deep.open_slice Tryd.underlying67 hf with ⟨e, _⟩ | ⟨a, len, cp, m, n', D, Pl, e, _, hl, _, hm, _, hx⟩
  · simp [Value.cells] at e
    obtain ⟨rfl, rfl, rfl⟩ := e
    intro i hi
    omega
  · simp [Value.cells] at e
    obtain ⟨rfl, rfl, rfl⟩ := e
    have hm' : m = cap := by simpa using hm
    have each : ∀ i, i < m → ∃ (v0 v1 v2 : Value), W.cell? (a.add (i * 3)) = some v0 ∧ W.cell? (a.add (i * 3 + 1)) = some v1 ∧ W.cell? (a.add (i * 3 + 2)) = some v2 ∧
        (∃ y, DataW.trod enc Tryd.prog W 0 (fun _ => true) true (n' - 1) 3 [v0] = some y) ∧ (∃ y, DataW.trod enc Tryd.prog W 0 (fun _ => true) true (n' - 1) 3 [v1] = some y) ∧ (∃ y, DataW.trod enc Tryd.prog W 0 (fun _ => true) true (n' - 1) 3 [v2] = some y) := by
      intro i hi
      obtain ⟨cs', h1, h2⟩ := hx i hi
      rw [tryd_cells_lawCalls] at h1
      obtain ⟨_, hlen, hcell⟩ := World.cells?_some h1
      obtain ⟨xs, k, hk, hxy, _, hxl, hf'⟩ := DataW.trod_struct Tryd.underlying77 h2
      have hk' : k = n' - 1 := by omega
      subst hk'
      match xs, hxl, cs', hlen with
      | [y0, y1, y2], _, [v0, v1, v2], _ =>
        have g0 := hf' 0 _ rfl
        have g1 := hf' 1 _ rfl
        have g2 := hf' 2 _ rfl
        simp [tryd_cells3] at g0 g1 g2
        have e0 := hcell 0 (by omega)
        have e1 := hcell 1 (by omega)
        have e2 := hcell 2 (by omega)
        rw [Go.Deep.add_add] at e0 e1 e2
        exact ⟨v0, v1, v2, by simpa using e0, by simpa using e1, by simpa using e2, ⟨y0, g0⟩, ⟨y1, g1⟩, ⟨y2, g2⟩⟩
    intro i hi
    obtain ⟨_, _, _, h00, _⟩ := each 0 (by omega)
    obtain ⟨b, off, rfl⟩ := addr_plain (by simpa using h00)
    obtain ⟨v0, v1, v2, h0, h1, h2, ⟨_, t0⟩, ⟨_, t1⟩, ⟨_, t2⟩⟩ := each i (by omega)
    rw [Addr.add_mid] at h0 h1 h2
    obtain ⟨q0, e0, _⟩ := DataW.trod_int Tryd.underlying3 t0
    obtain ⟨q1, e1, _, g1⟩ := DataW.trod_int Tryd.underlying3 t1
    obtain ⟨q2, e2, _, g2⟩ := DataW.trod_int Tryd.underlying3 t2
    rw [(List.cons.inj e0).1] at h0
    rw [(List.cons.inj e1).1] at h1
    rw [(List.cons.inj e2).1] at h2
    exact ⟨b, off, q0, q1, q2, rfl, i64_of_wf g1, i64_of_wf g2, h0, h1, h2⟩
end

theorem tryd_cells_keepCalls : Tryd.prog.cellsOf 85 = 3 := by kernel_rfl
section
variable {H : Type} {enc : TypeId × Value → H}
set_option maxRecDepth 100000 in
theorem open_keepCalls {W : World} {base : Nat} {v : Value} {d : DataW H} {p : List MemPlace} (hv : Value.okWide Tryd.prog W .any base 84 v) (h : DataW.Trod enc Tryd.prog W 0 (fun _ => true) true 84 v d p) : ∃ ad n cap, v = .slice ad n cap ∧ Cals W ad n := by
  obtain ⟨ad, n, cap, rfl⟩ := okWide_slice Tryd.underlying84 hv
  refine ⟨ad, n, cap, rfl, ?_⟩
  obtain ⟨fuel, hf⟩ := h
  rcases Go.Deep.open_slice Tryd.underlying84 hf with ⟨e, _⟩ | ⟨a, len, cp, m, n', D, Pl, e, _, hl, _, hm, _, hx⟩
  · simp [Value.cells] at e
    obtain ⟨rfl, rfl, rfl⟩ := e
    intro i hi
    omega
  · simp [Value.cells] at e
    obtain ⟨rfl, rfl, rfl⟩ := e
    have hm' : m = cap := by simpa using hm
    have each : ∀ i, i < m → ∃ (v0 v1 v2 : Value), W.cell? (a.add (i * 3)) = some v0 ∧ W.cell? (a.add (i * 3 + 1)) = some v1 ∧ W.cell? (a.add (i * 3 + 2)) = some v2 ∧
        (∃ y, DataW.trod enc Tryd.prog W 0 (fun _ => true) true (n' - 1) 3 [v0] = some y) ∧ (∃ y, DataW.trod enc Tryd.prog W 0 (fun _ => true) true (n' - 1) 3 [v1] = some y) ∧ (∃ y, DataW.trod enc Tryd.prog W 0 (fun _ => true) true (n' - 1) 3 [v2] = some y) := by
      intro i hi
      obtain ⟨cs', h1, h2⟩ := hx i hi
      rw [tryd_cells_keepCalls] at h1
      obtain ⟨_, hlen, hcell⟩ := World.cells?_some h1
      obtain ⟨xs, k, hk, hxy, _, hxl, hf'⟩ := DataW.trod_struct Tryd.underlying85 h2
      have hk' : k = n' - 1 := by omega
      subst hk'
      match xs, hxl, cs', hlen with
      | [y0, y1, y2], _, [v0, v1, v2], _ =>
        have g0 := hf' 0 _ rfl
        have g1 := hf' 1 _ rfl
        have g2 := hf' 2 _ rfl
        simp [tryd_cells3] at g0 g1 g2
        have e0 := hcell 0 (by omega)
        have e1 := hcell 1 (by omega)
        have e2 := hcell 2 (by omega)
        rw [Go.Deep.add_add] at e0 e1 e2
        exact ⟨v0, v1, v2, by simpa using e0, by simpa using e1, by simpa using e2, ⟨y0, g0⟩, ⟨y1, g1⟩, ⟨y2, g2⟩⟩
    intro i hi
    obtain ⟨_, _, _, h00, _⟩ := each 0 (by omega)
    obtain ⟨b, off, rfl⟩ := addr_plain (by simpa using h00)
    obtain ⟨v0, v1, v2, h0, h1, h2, ⟨_, t0⟩, ⟨_, t1⟩, ⟨_, t2⟩⟩ := each i (by omega)
    rw [Addr.add_mid] at h0 h1 h2
    obtain ⟨q0, e0, _⟩ := DataW.trod_int Tryd.underlying3 t0
    obtain ⟨q1, e1, _, g1⟩ := DataW.trod_int Tryd.underlying3 t1
    obtain ⟨q2, e2, _, g2⟩ := DataW.trod_int Tryd.underlying3 t2
    rw [(List.cons.inj e0).1] at h0
    rw [(List.cons.inj e1).1] at h1
    rw [(List.cons.inj e2).1] at h2
    exact ⟨b, off, q0, q1, q2, rfl, i64_of_wf g1, i64_of_wf g2, h0, h1, h2⟩
end

end Go.Proofs.YtalbgmllcohpeaaDoor
