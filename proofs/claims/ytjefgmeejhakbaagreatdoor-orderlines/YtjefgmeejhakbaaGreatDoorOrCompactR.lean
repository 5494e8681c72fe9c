/- slices.Compact over twos. -/
import Derived.Test.YtjefgmeejhakbaaGreatDoorOrSortR
import Derived.Test.YtjefgmeejhakbaaGreatDoorOrWrittenR
import Derived.Lib.SliceRun
import Derived.Laws.StructEq
namespace Go.Proofs.YtjefgmeejhakbaaGreatDoor
open Go.RowKit
theorem comp_snoc : ∀ (l : List (Int × Int)) (a b : Int × Int), compP (l ++ [a, b]) = if a = b then compP (l ++ [a]) else compP (l ++ [a]) ++ [b]
  | [], a, b => by by_cases e : a = b <;> simp [compP, e]
  | [x], a, b => by
    simp only [List.cons_append, List.nil_append, compP]
    by_cases e : x = a <;> by_cases e2 : a = b <;> simp [e, e2]
  | x :: y :: r, a, b => by
    have ih := comp_snoc (y :: r) a b
    simp only [List.cons_append, compP] at ih ⊢
    rw [ih]
    by_cases e : x = y <;> by_cases e2 : a = b <;> simp [e, e2]
theorem compTo_step {d : List (Int × Int)} {i : Nat} {a b : Int × Int} (h1 : d[i]? = some a) (h2 : d[i + 1]? = some b) : compP (d.take (i + 1 + 1)) = if a = b then compP (d.take (i + 1)) else compP (d.take (i + 1)) ++ [b] := by
  have e1 : d.take (i + 1) = d.take i ++ [a] := by rw [List.take_add_one, h1]; rfl
  have e2 : d.take (i + 1 + 1) = d.take i ++ [a, b] := by rw [List.take_add_one, h2, e1]; simp
  rw [e1, e2, comp_snoc]
theorem comp_one {d : List (Int × Int)} : compP (d.take (0 + 1)) = d.take (0 + 1) := by
  cases d with
  | nil => rfl
  | cons a r => rfl
theorem comp_len : ∀ d : List (Int × Int), (compP d).length ≤ d.length
  | [] => Nat.le_refl _
  | [_] => Nat.le_refl _
  | a :: b :: r => by
    have := comp_len (b :: r)
    rw [compP]
    split <;> simp at * <;> omega
theorem eqW (a b c d : Int) (w : World) : (binOp .eql 78 (.agg #[.int .i64 a, .int .i64 b]) (.agg #[.int .i64 c, .int .i64 d])).run Tryz.prog w = .ok (.bool (a == c && b == d)) w := by
  have hS : Tryz.prog.underlying 78 = some (.struct (Tryz.prog.fieldsOf 78)) := by kernel_rfl
  have hp : Tryz.prog.stoodInHeld 78 = false := by kernel_rfl
  have u3 := Tryz.underlying3
  have a3 := Tryz.isAgg3
  have z3 := Tryz.sizeOf3
  rw [run_eql_struct, show (10000 : Nat) = 9999 + 1 from rfl, run_equalIn_agg w 9999 78 _ _ hS hp]
  simp only [Program.fieldsOf, Tryz.underlying78]
  go_simp
  by_cases h1 : a = c <;> by_cases h2 : b = d <;> simp [h1, h2]
theorem neW (a b c d : Int) (w : World) : (binOp .neq 78 (.agg #[.int .i64 a, .int .i64 b]) (.agg #[.int .i64 c, .int .i64 d])).run Tryz.prog w = .ok (.bool (!(a == c && b == d))) w := by
  have hS : Tryz.prog.underlying 78 = some (.struct (Tryz.prog.fieldsOf 78)) := by kernel_rfl
  have hp : Tryz.prog.stoodInHeld 78 = false := by kernel_rfl
  have u3 := Tryz.underlying3
  have a3 := Tryz.isAgg3
  have z3 := Tryz.sizeOf3
  rw [run_neq_struct, show (10000 : Nat) = 9999 + 1 from rfl, run_equalIn_agg w 9999 78 _ _ hS hp]
  simp only [Program.fieldsOf, Tryz.underlying78]
  go_simp
  by_cases h1 : a = c <;> by_cases h2 : b = d <;> simp [h1, h2]
theorem grown_drewN (w : World) (q : Nat) (r : Option Nat) : w.grownBy (w.drewN q) r :=
  let b := below_drewN (Below.refl w.heap.size w) q
  ⟨b.os, b.tape, b.output, b.size, fun k hk _ => b.block k hk⟩
theorem grown_trans {a b c : World} {r : Option Nat} (h : a.grownBy b r) (k : b.grownBy c r) : a.grownBy c r :=
  ⟨k.os.trans h.os, k.tape.trans h.tape, k.output.trans h.output, Nat.le_trans h.size k.size, fun i hi hne => (k.block i (Nat.lt_of_lt_of_le hi h.size) hne).trans (h.block i hi hne)⟩
theorem grown_setTwo (w : World) (g i j : Nat) (u v : Value) : w.grownBy ((w.setCell ⟨g, i, none⟩ u).setCell ⟨g, j, none⟩ v) (some g) :=
  ⟨rfl, rfl, rfl, by simp, fun k _ hne => (heap_setCell_other _ ⟨g, j, none⟩ k v (fun e => hne (by rw [e]))).trans (heap_setCell_other w ⟨g, i, none⟩ k u (fun e => hne (by rw [e])))⟩
theorem heap_setCells_keep {g : Nat} {e : TypeId} : ∀ (vs : List Value) (o : Nat) (w : World) (cur : Array Value), w.heap[g]? = some (.cells cur e (0, 0)) → ∃ cur', (w.setCells g o vs).heap[g]? = some (.cells cur' e (0, 0)) ∧ cur'.size = cur.size ∧ ∀ i, i < o → cur'[i]? = cur[i]?
  | [], _, _, cur, h => ⟨cur, h, rfl, fun _ _ => rfl⟩
  | v :: r, o, w, cur, h => by
    rw [World.setCells]
    obtain ⟨cur', h1, h2, h3⟩ := heap_setCells_keep r (o + 1) _ _ (heap_setCell_same w g o cur e v h)
    refine ⟨cur', h1, by rw [h2]; simp, fun i hi => ?_⟩
    rw [h3 i (by omega), Array.getElem?_setIfInBounds, if_neg (by omega)]
theorem size_setCells' (b : Nat) : ∀ (vs : List Value) (o : Nat) (w : World), (w.setCells b o vs).heap.size = w.heap.size
  | [], _, _ => rfl
  | v :: r, o, w => by rw [World.setCells, size_setCells' b r]; simp
theorem grown_setCells {g : Nat} : ∀ (vs : List Value) (o : Nat) (w : World), w.grownBy (w.setCells g o vs) (some g)
  | [], _, w => ⟨rfl, rfl, rfl, Nat.le_refl _, fun _ _ _ => rfl⟩
  | v :: r, o, w => by
    have h := grown_setCells (g := g) r (o + 1) (w.setCell ⟨g, o, none⟩ v)
    rw [World.setCells]
    exact ⟨h.os, h.tape, h.output, by simp, fun k hk hne => (h.block k (by simpa using hk) hne).trans (heap_setCell_other w ⟨g, o, none⟩ k v (fun e => hne (by rw [e])))⟩
theorem owns_setTwo {w : World} {N g n cap : Nat} {m : List (Int × Int)} {e : TypeId} (h : w.ownsRow N e 2 (.slice (some ⟨g, 0, none⟩) n cap) n (vrow m)) (k : Nat) (a b : Int) (hm : m.length = n) (hk : k < n) :
    ((w.setCell ⟨g, k * 2, none⟩ (.int .i64 a)).setCell ⟨g, k * 2 + 1, none⟩ (.int .i64 b)).ownsRow N e 2 (.slice (some ⟨g, 0, none⟩) n cap) n (vrow (m.set k (a, b))) := by
  refine ⟨by rw [vrow_length, List.length_set, hm], ?_⟩
  rcases h.2 with ⟨e1, _⟩ | ⟨g', cap', cur, e1, hb, hg, h1, h2, h3, h4⟩
  · cases e1
  · cases e1
    refine .inr ⟨g, cap, _, rfl, hb, heap_setCell_same _ g (k * 2 + 1) _ e _ (heap_setCell_same w g (k * 2) cur e _ hg), h1, h2, by simpa using h3, ?_⟩
    have hv : vrow (m.set k (a, b)) = ((vrow m).set (k * 2) (.int .i64 a)).set (k * 2 + 1) (.int .i64 b) := by
      clear h h1 h2 h3 h4 hg hb
      induction m generalizing k n with
      | nil => simp at hm; omega
      | cons x r ih =>
        obtain ⟨x1, x2⟩ := x
        cases k with
        | zero => simp [vrow]
        | succ k =>
          have := ih (n := r.length) k rfl (by simp at hm; omega)
          simp only [List.set_cons_succ, vrow]
          rw [this, show (k + 1) * 2 = k * 2 + 1 + 1 by omega]
          simp
    rw [hv, ← h4]
    simp [List.take_set]
theorem clear_keeps2 {w : World} {N g n cap k : Nat} {m : List (Int × Int)} (h : w.ownsRow N 78 2 (.slice (some ⟨g, 0, none⟩) n cap) n (vrow m)) (hk : k ≤ n) (ty : TypeId) (c : Nat) :
    ∃ w', (Builtin.clear_ #[23] ty #[.slice (some ⟨g, k * 2, none⟩) (n - k) c]).run Tryz.prog w = .ok (.tuple #[]) w' ∧ w'.ownsRow N 78 2 (.slice (some ⟨g, 0, none⟩) k cap) k (vrow (m.take k)) ∧ w.grownBy w' (some g) := by
  have hml : m.length = n := by have := h.1; rw [vrow_length] at this; omega
  have hvt : (vrow m).take (k * 2) = vrow (m.take k) := by
    clear h
    induction m generalizing k n with
    | nil => simp [vrow]
    | cons x r ih =>
      obtain ⟨x1, x2⟩ := x
      cases k with
      | zero => simp [vrow]
      | succ k =>
        rw [show (k + 1) * 2 = k * 2 + 1 + 1 by omega]
        simp only [vrow, List.take_succ_cons]
        rw [ih (n := r.length) (by simp at hml; omega) rfl]
  rcases h.2 with ⟨e1, _⟩ | ⟨g', cap', cur, e1, hb, hg, h1, h2, h3, h4⟩
  · cases e1
  · cases e1
    have fin : ∀ (w' : World) (cur' : Array Value), w'.heap[g]? = some (.cells cur' 78 (0, 0)) → cur'.size = cur.size → (∀ i, i < k * 2 → cur'[i]? = cur[i]?) → w'.ownsRow N 78 2 (.slice (some ⟨g, 0, none⟩) k cap) k (vrow (m.take k)) := by
      intro w' cur' hg' hs' hi'
      refine ⟨by rw [vrow_length, List.length_take]; omega, .inr ⟨g, cap, cur', rfl, hb, hg', by omega, h2, by rw [hs', h3], ?_⟩⟩
      rw [← hvt, ← h4, List.take_take, Nat.min_eq_left (by omega)]
      apply List.ext_getElem?
      intro i
      rw [List.getElem?_take, List.getElem?_take]
      by_cases hi : i < k * 2
      · rw [if_pos hi, if_pos hi, Array.getElem?_toList, Array.getElem?_toList]; exact hi' i hi
      · rw [if_neg hi, if_neg hi]
    by_cases e0 : n - k = 0
    · rw [e0]
      refine ⟨w, ?_, fin w cur hg rfl (fun _ _ => rfl), ⟨rfl, rfl, rfl, Nat.le_refl _, fun _ _ _ => rfl⟩⟩
      simp [Builtin.clear_, run_underlying Tryz.underlying23]
    · obtain ⟨vs, hvs⟩ : ∃ vs, (Builtin.zeroCells (Value.agg #[.int .i64 0, .int .i64 0]).cells (n - k)).toList = vs := ⟨_, rfl⟩
      have hvl : vs.length = (n - k) * 2 := by rw [← hvs]; simp [Builtin.zeroCells, Value.cells]
      have hv1 : ∀ v ∈ vs, v.oneCell' = true := by
        intro v hv
        rw [← hvs] at hv
        simp only [Builtin.zeroCells, Value.cells, Array.toList_map, List.mem_map] at hv
        obtain ⟨i, _, rfl⟩ := hv
        have : ∀ j, ((#[Value.int .i64 0, Value.int .i64 0] : Array Value)[j % 2]!).oneCell' = true := fun j => by
          rcases Nat.mod_two_eq_zero_or_one j with e | e <;> rw [e] <;> rfl
        exact this i
      have hcs : ∀ j, j < vs.length → (w.cell? ⟨g, k * 2 + j, none⟩).isSome = true := fun j hj => by
        rw [cell_of_row w g (k * 2 + j) cur _ (0, 0) hg, Array.getElem?_eq_getElem (by rw [h3]; omega)]; rfl
      have hst := run_storeCells_cells (P := Tryz.prog) g (k * 2) vs 0 w (by simpa using hcs) (fun j _ => by simp [World.frozen?, hg]) hv1
      simp only [Nat.add_zero] at hst
      obtain ⟨q, hq⟩ : ∃ q, n - k = q + 1 := ⟨n - k - 1, by omega⟩
      obtain ⟨cur', g1, g2, g3⟩ := heap_setCells_keep vs (k * 2) w cur hg
      refine ⟨w.setCells g (k * 2) vs, ?_, fin _ cur' g1 g2 g3, grown_setCells vs (k * 2) w⟩
      have hzv : ∀ w, (zeroValue 78).run Tryz.prog w = .ok (.agg #[.int .i64 0, .int .i64 0]) w := fun w => by kernel_rfl
      rw [hq] at hvs ⊢
      simp [Builtin.clear_, run_underlying Tryz.underlying23, hzv, hvs, hst]
end Go.Proofs.YtjefgmeejhakbaaGreatDoor
