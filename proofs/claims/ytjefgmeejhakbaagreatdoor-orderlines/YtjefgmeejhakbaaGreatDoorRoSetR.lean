/- Sets of twos: maps keyed by api.Write. -/
import Derived.Test.YtjefgmeejhakbaaGreatDoorOrRowsR
import Derived.Test.YtjefgmeejhakbaaGreatDoorOrOpsR
import Derived.Maps.RangeWalk
import Derived.DeepKeys4
namespace Go.Proofs.YtjefgmeejhakbaaGreatDoor
open Go.RowKit
open Go.Maps (Keyed)
def pv (p : Int × Int) : Value := .agg #[.int .i64 p.1, .int .i64 p.2]
theorem laidOutW : laidOutB Tryz.prog = true := by kernel_rfl
theorem wideW : (match Tryz.prog.underlying 78 with | some (.array _ _) | some (.struct _) => true | _ => false) = true := by rw [Tryz.underlying78]
set_option maxRecDepth 100000 in
theorem rowW : (78 : TypeId) < Tryz.prog.types.size := of_decide_eq_true (by kernel_rfl)
set_option maxRecDepth 100000 in
theorem kt2W : Tryz.prog.keyTypeAt 2 78 = true := by kernel_rfl
set_option maxRecDepth 100000 in
theorem lawW : Keyed Tryz.prog 78 := Keyed.of_law (deep_law_laid laidOutW (m := 2) (by omega) rowW kt2W wideW)
theorem keyTypeW : Tryz.prog.keyType 78 = true := by kernel_rfl
theorem wf64 {a : Int} (h : I64 a) : (Lit.int .i64 a).wf = true := WalkArith.wf_i64 (by unfold I64 at h; omega)
theorem cellsW : Tryz.prog.cellsOf 78 = 2 := by kernel_rfl
theorem cellsI : Tryz.prog.cellsOf 3 = 1 := by kernel_rfl
theorem typesN : Tryz.prog.types.size = 364 := by kernel_rfl
set_option maxRecDepth 10000 in
theorem litsI (d : Nat) (v : Value) : Tryz.prog.keyLits (d + 1) 3 [v] = (match v with | .int q n => if q = .i64 ∧ (Lit.int .i64 n).wf = true then some [.int .i64 n] else none | _ => none) := by
  unfold Program.keyLits
  rw [Tryz.underlying3]
  cases v <;> rfl
set_option maxRecDepth 10000 in
theorem litsW (d : Nat) (u v : Value) : Tryz.prog.keyLits (d + 1 + 1) 78 [u, v] = (Tryz.prog.keyLits (d + 1) 3 [u]).bind (fun a => (Tryz.prog.keyLits (d + 1) 3 [v]).map (fun b => a ++ b)) := by
  conv => lhs; unfold Program.keyLits
  rw [Tryz.underlying78]
  simp [cellsW, cellsI]
  cases Tryz.prog.keyLits (d + 1) 3 [u] <;> cases Tryz.prog.keyLits (d + 1) 3 [v] <;> simp
theorem i64_wf {a : Int} (h : (Lit.int .i64 a).wf = true) : I64 a := by
  simp [Lit.wf, IntKind.min, IntKind.max, IntKind.signed, IntKind.bits] at h
  unfold I64
  omega
set_option maxRecDepth 10000 in
theorem keyW_agg (u v : Value) : keyOf Tryz.prog 78 (.agg #[u, v]) = ((Tryz.prog.keyLits 364 3 [u]).bind (fun a => (Tryz.prog.keyLits 364 3 [v]).map (fun b => a ++ b))).map (fun ls => .string (keyBytes ls)) := by
  unfold keyOf
  rw [Tryz.underlying78]
  simp only [keyTypeW, Value.formed, Tryz.underlying78, cellsW, typesN]
  rw [if_pos (by rfl), show (364 + 1 : Nat) = 363 + 1 + 1 from rfl]
  show Option.map _ (Tryz.prog.keyLits _ _ [u, v]) = _
  rw [litsW]
set_option maxRecDepth 10000 in
theorem keyW {a b : Int} (ha : I64 a) (hb : I64 b) : keyOf Tryz.prog 78 (.agg #[.int .i64 a, .int .i64 b]) = some (.string (keyBytes [.int .i64 a, .int .i64 b])) := by
  rw [keyW_agg, show (364 : Nat) = 363 + 1 from rfl, litsI, litsI]
  simp [wf64 ha, wf64 hb]
set_option maxRecDepth 10000 in
theorem keyW_inv {v : Value} {kl : Lit} (h : keyOf Tryz.prog 78 v = some kl) : ∃ a b, v = .agg #[.int .i64 a, .int .i64 b] ∧ I64 a ∧ I64 b := by
  have hv : ∃ u x, v = .agg #[u, x] := by
    unfold keyOf at h
    rw [Tryz.underlying78] at h
    simp only [keyTypeW, Value.formed, Tryz.underlying78, cellsW] at h
    cases v with
    | agg cs =>
      by_cases hs : cs.size = 2
      · obtain ⟨l⟩ := cs
        match l, hs with
        | [u, x], _ => exact ⟨u, x, rfl⟩
      · simp [hs] at h
    | _ => simp at h
  obtain ⟨u, x, rfl⟩ := hv
  rw [keyW_agg, show (364 : Nat) = 363 + 1 from rfl, litsI, litsI] at h
  cases u with
  | int q a =>
    cases x with
    | int q' b =>
      simp only at h
      by_cases h1 : q = .i64 ∧ (Lit.int .i64 a).wf = true
      · by_cases h2 : q' = .i64 ∧ (Lit.int .i64 b).wf = true
        · obtain ⟨rfl, h1⟩ := h1
          obtain ⟨rfl, h2⟩ := h2
          exact ⟨a, b, rfl, i64_wf h1, i64_wf h2⟩
        · rw [if_neg h2] at h
          cases (if q = .i64 ∧ (Lit.int .i64 a).wf = true then some [Lit.int .i64 a] else none) <;> simp at h
      · rw [if_neg h1] at h; simp at h
    | _ => cases (if q = .i64 ∧ (Lit.int .i64 a).wf = true then some [Lit.int .i64 a] else none) <;> simp at h
  | _ => simp at h
def PSet (w : World) (b n : Nat) (ps : List (Int × Int)) : Prop :=
  (∀ p ∈ ps, I64 p.1 ∧ I64 p.2) ∧ ∃ D : DataW Value, w.ownsMap Tryz.prog 78 anyElem b n D ∧ ∀ kl, Maps.has D kl = true ↔ ∃ p ∈ ps, keyOf Tryz.prog 78 (pv p) = some kl
theorem PSet.lt {w : World} {b n : Nat} {ps : List (Int × Int)} (h : PSet w b n ps) : b < w.heap.size := by
  obtain ⟨_, D, h1, _⟩ := h
  exact h1.lt
theorem PSet.same {w w' : World} {b n : Nat} {ps : List (Int × Int)} (h : PSet w b n ps) (hs : w'.heap[b]? = w.heap[b]?) : PSet w' b n ps := by
  obtain ⟨h0, D, ⟨es, clock, hb, r⟩, h2⟩ := h
  exact ⟨h0, D, ⟨es, clock, hs.trans hb, r⟩, h2⟩
theorem PSet.ne {w : World} {b n : Nat} {ps : List (Int × Int)} (h : PSet w b n ps) {g : Nat} {cs : Array Value} {t : TypeId} {fr : Nat × Nat} (hg : w.heap[g]? = some (.cells cs t fr)) : b ≠ g := by
  rintro rfl
  obtain ⟨_, D, ⟨es, clock, hb, r⟩, h2⟩ := h
  rw [hb] at hg
  cases hg
theorem PSet.made (w : World) : PSet (w.alloc (.map #[] 0)) w.heap.size 0 [] :=
  ⟨fun p hp => by simp at hp, .map [], World.ownsMap_made w _ _ _, fun kl => ⟨fun h => (by cases h), fun ⟨p, hp, _⟩ => (by simp at hp)⟩⟩
theorem PSet.store {w : World} {b n : Nat} {ps : List (Int × Int)} (h : PSet w b n ps) (hn : n < maxLen) {x y : Int} (hx : I64 x) (hy : I64 y) :
    ∃ w', (Instr.mapUpdate 125 (.map (some b)) (.agg #[.int .i64 x, .int .i64 y]) (.bool true)).run Tryz.prog w = .ok () w' ∧ PSet w' b (n + 1) (ps ++ [(x, y)]) ∧ w.grownBy w' (some b) := by
  obtain ⟨h0, D, h1, h2⟩ := h
  obtain ⟨w', hr, h3, h4⟩ := h1.update lawW Tryz.underlying125 hn (keyW hx hy) (val := .bool true) (d := .held (.bool true)) (ps := []) rfl
  refine ⟨w', hr, ⟨fun p hp => ?_, _, h3, fun kl => ?_⟩, h4⟩
  · rcases List.mem_append.1 hp with hp | hp
    · exact h0 p hp
    · rw [List.mem_singleton.1 hp]; exact ⟨hx, hy⟩
  · by_cases e : kl = .string (keyBytes [.int .i64 x, .int .i64 y])
    · subst e
      rw [Maps.has_put_same h1.isMap (lawW.key (keyW hx hy)) _]
      simp only [true_iff]
      exact ⟨(x, y), by simp, keyW hx hy⟩
    · rw [Maps.has_put_other e _, h2 kl]
      constructor
      · rintro ⟨p, hp, hk⟩
        exact ⟨p, List.mem_append.2 (.inl hp), hk⟩
      · rintro ⟨p, hp, hk⟩
        rcases List.mem_append.1 hp with hp | hp
        · exact ⟨p, hp, hk⟩
        · rw [List.mem_singleton.1 hp] at hk
          have := keyW hx hy
          exact (e (Option.some.inj (hk.symm.trans this))).elim
end Go.Proofs.YtjefgmeejhakbaaGreatDoor
