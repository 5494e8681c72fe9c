/- What is kept but for some blocks; small facts on maps of ints. -/
import Derived.Test.YtjefgmeejhakbaaGreatDoorLkMapR
namespace Go.Proofs.YtjefgmeejhakbaaGreatDoor
open Go.RowKit
structure KeptO (o o' : Nat → Prop) (w w' : World) : Prop where
  os : w'.os = w.os
  tape : w'.tape = w.tape
  output : w'.output = w.output
  size : w.heap.size ≤ w'.heap.size
  block : ∀ b, b < w.heap.size → ¬ o b → w'.heap[b]? = w.heap[b]?
  sub : ∀ g, o' g → o g ∨ w.heap.size ≤ g
theorem KeptO.trans {o o' o'' : Nat → Prop} {a b c : World} (h : KeptO o o' a b) (k : KeptO o' o'' b c) : KeptO o o'' a c :=
  ⟨k.os.trans h.os, k.tape.trans h.tape, k.output.trans h.output, Nat.le_trans h.size k.size,
    fun i hi hn => (k.block i (Nat.lt_of_lt_of_le hi h.size) (fun hr => (h.sub i hr).elim hn (fun e => by omega))).trans (h.block i hi hn),
    fun g hg => (k.sub g hg).elim (h.sub g) (fun e => .inr (Nat.le_trans h.size e))⟩
theorem KeptO.refl (o : Nat → Prop) (w : World) : KeptO o o w w := ⟨rfl, rfl, rfl, Nat.le_refl _, fun _ _ _ => rfl, fun _ h => .inl h⟩
theorem KeptO.of_below {o : Nat → Prop} {w w' : World} (h : Below w.heap.size w w') : KeptO o o w w' :=
  ⟨h.os, h.tape, h.output, h.size, fun b hb _ => h.block b hb, fun _ h => .inl h⟩
theorem KeptO.below {B : Nat} {o o' : Nat → Prop} {w w' : World} (h : KeptO o o' w w') (hB : B ≤ w.heap.size) (hs : ∀ b, o b → B ≤ b) : Below B w w' :=
  ⟨h.os, h.tape, h.output, h.size, fun k hk => h.block k (by omega) (fun e => by have := hs k e; omega)⟩
theorem KeptO.drewN {o o' : Nat → Prop} {a w : World} (h : KeptO o o' a w) : ∀ q, KeptO o o' a (w.drewN q)
  | 0 => h
  | q + 1 => ⟨(h.drewN q).os, (h.drewN q).tape, (h.drewN q).output, (h.drewN q).size, (h.drewN q).block, (h.drewN q).sub⟩
theorem eqlSome (b : Nat) (w : World) : (binOp .eql 69 (.map (some b)) (.map none)).run Tryz.prog w = .ok (.bool false) w := by kernel_rfl
theorem eqlNil (w : World) : (binOp .eql 69 (.map none) (.map none)).run Tryz.prog w = .ok (.bool true) w := by kernel_rfl
theorem zeroI (w : World) : (zeroValue 3).run Tryz.prog w = .ok (.int .i64 0) w := by kernel_rfl
end Go.Proofs.YtjefgmeejhakbaaGreatDoor
