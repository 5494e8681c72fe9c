/- The writers of a key in memory: (*writers).behind, add. -/
import Derived.Test.YtjefgmeejhakbaaGreatDoorOrOpsR
namespace Go.Proofs.YtjefgmeejhakbaaGreatDoor
open Go.RowKit
def firstV (s : List Int) (x : Int) : Option Value := (firstAt x s).map (fun i => Value.int .i64 (i : Nat))
structure WrAt (w : World) (K k : Nat) (av : Value) (mv : Option Nat) (s : List Int) : Prop where
  c0 : w.cell? ⟨K, k, none⟩ = some av
  c1 : w.cell? ⟨K, k + 1, none⟩ = some (.map mv)
  row : w.ownsRow 0 3 1 av s.length (intsV s)
  map : MapIs w mv s.length (firstV s)
set_option maxRecDepth 100000 in
set_option maxHeartbeats 1000000 in
theorem behindW_any (K k : Nat) (av : Value) (mv : Option Nat) (s : List Int) (x : Int) (w : World) (h : WrAt w K k av mv s) (hx : I64 x) (hn : s.length ≤ 100000) :
    Calls Tryz.prog 123 #[.pointer (some ⟨K, k, none⟩), .int .i64 x] w fun e w' => w' = w ∧
      (x = 0 → e = .returned (.tuple #[.int .i64 0, .bool true])) ∧ (x ≠ 0 → ∀ i, firstAt x s = some i → e = .returned (.tuple #[.int .i64 ((i : Int) + 1), .bool true])) ∧ (x ≠ 0 → firstAt x s = none → e = .returned (.tuple #[.int .i64 0, .bool false])) := by
  have c1 := h.c1
  have hl := h.map.look Tryz.underlying69 (zeroI w) hx
  clear h
  by_cases h0 : x = 0
  · subst h0
    clear hl
    go_enter Tryz.func123, Tryz.ntmps123
    go_wp2
    go_ret2
    exact ⟨rfl, fun _ => rfl, fun h => (h rfl).elim, fun h => (h rfl).elim⟩
  · have e0 : (x == 0) = false := by simpa using h0
    cases hf : firstAt x s with
    | none =>
      simp only [firstV, hf, Option.map_none, Option.getD_none, Option.isSome_none] at hl
      clear hf
      go_enter Tryz.func123, Tryz.ntmps123
      go_wp2
      go_ret2
      exact ⟨rfl, fun e => (h0 e).elim, fun _ i e => (by cases e), fun _ _ => rfl⟩
    | some i =>
      have hi := firstAt_lt hf
      simp only [firstV, hf, Option.map_some, Option.getD_some, Option.isSome_some] at hl
      clear hf
      go_enter Tryz.func123, Tryz.ntmps123
      go_wp2
      go_ret2
      exact ⟨rfl, fun e => (h0 e).elim, fun _ i e => (by cases e; rfl), fun _ e => (by cases e)⟩
end Go.Proofs.YtjefgmeejhakbaaGreatDoor
