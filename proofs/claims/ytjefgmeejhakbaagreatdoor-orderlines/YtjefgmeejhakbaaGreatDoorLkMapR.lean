/- Maps keyed by ints, by what they hold at each key. -/
import Derived.Test.YtjefgmeejhakbaaGreatDoorLkBaseR
import Derived.Test.YtjefgmeejhakbaaGreatDoorLkPlainR
import Derived.Maps.OwnSet
namespace Go.Proofs.YtjefgmeejhakbaaGreatDoor
open Go.RowKit
open Go.Maps (Keyed)
def anyElem (v : Value) : Option (DataW Value × List MemPlace) := some (.held v, [])
def IMap (w : World) (b n : Nat) (f : Int → Option Value) : Prop :=
  ∃ D : DataW Value, w.ownsMap Tryz.prog 3 anyElem b n D ∧ ∀ a : Int, Maps.has D (.int .i64 a) = (f a).isSome ∧ ∀ v, f a = some v → ∀ z, D.atKey (.int .i64 a) z = .held v
theorem lawI : Keyed Tryz.prog 3 := Maps.int_keyed Tryz.underlying3
def I64 (a : Int) : Prop := -9223372036854775808 ≤ a ∧ a ≤ 9223372036854775807
theorem keyI {a : Int} (h : I64 a) : keyOf Tryz.prog 3 (.int .i64 a) = some (.int .i64 a) := Maps.keyOf_int_mk Tryz.underlying3 (WalkArith.wf_i64 (by unfold I64 at h; omega))
theorem litNe {a b : Int} (h : a ≠ b) : Lit.int .i64 a ≠ Lit.int .i64 b := fun e => h (by injection e)
theorem litKey (a : Int) : WideAt.IsKeyLit (.int .i64 a) := trivial
section
variable {w : World} {b n : Nat} {f : Int → Option Value}
theorem IMap.mono (h : IMap w b n f) {n' : Nat} (hn : n ≤ n') : IMap w b n' f := by
  obtain ⟨D, h1, h2⟩ := h
  exact ⟨D, h1.mono hn, h2⟩
theorem IMap.lt (h : IMap w b n f) : b < w.heap.size := by
  obtain ⟨D, h1, _⟩ := h
  exact h1.lt
theorem IMap.same {w' : World} (h : IMap w b n f) (hs : w'.heap[b]? = w.heap[b]?) : IMap w' b n f := by
  obtain ⟨D, ⟨es, clock, hb, r⟩, h2⟩ := h
  exact ⟨D, ⟨es, clock, hs.trans hb, r⟩, h2⟩
theorem IMap.ne (h : IMap w b n f) {g : Nat} {cs : Array Value} {t : TypeId} {fr : Nat × Nat} (hg : w.heap[g]? = some (.cells cs t fr)) : b ≠ g := by
  rintro rfl
  obtain ⟨D, ⟨es, clock, hb, r⟩, h2⟩ := h
  rw [hb] at hg
  cases hg
theorem IMap.made (w : World) : IMap (w.alloc (.map #[] 0)) w.heap.size 0 (fun _ => none) :=
  ⟨.map [], World.ownsMap_made w _ _ _, fun a => ⟨rfl, fun v h => by cases h⟩⟩
theorem IMap.look (h : IMap w b n f) {t e : TypeId} (ht : Tryz.prog.underlying t = some (.map 3 e)) {z : Value} (hz : (zeroValue e).run Tryz.prog w = .ok z w) {a : Int} (ha : I64 a) :
    (Instr.lookup t (.map (some b)) (.int .i64 a) true).run Tryz.prog w = .ok (.tuple #[(f a).getD z, .bool (f a).isSome]) w := by
  obtain ⟨D, h1, h2⟩ := h
  obtain ⟨v, ps, hr, hv⟩ := h1.look_ok lawI ht hz (zd := .held z) (zp := []) rfl (keyI ha)
  rw [hr, (h2 a).1]
  simp only [anyElem, Option.some.injEq, Prod.mk.injEq] at hv
  have e : v = (f a).getD z := by
    cases hf : f a with
    | none =>
      have := Maps.atKey_of_not_has (D := D) (k := .int .i64 a) (by rw [(h2 a).1, hf]; rfl) (.held z)
      rw [this] at hv
      injection hv.1
    | some u =>
      rw [(h2 a).2 u hf] at hv
      injection hv.1
  rw [e]
theorem IMap.look1 (h : IMap w b n f) {t e : TypeId} (ht : Tryz.prog.underlying t = some (.map 3 e)) {z : Value} (hz : (zeroValue e).run Tryz.prog w = .ok z w) {a : Int} (ha : I64 a) :
    (Instr.lookup t (.map (some b)) (.int .i64 a) false).run Tryz.prog w = .ok ((f a).getD z) w := by
  obtain ⟨D, h1, h2⟩ := h
  obtain ⟨v, ps, hr, hv⟩ := h1.lookup lawI ht hz (zd := .held z) (zp := []) rfl (keyI ha)
  rw [hr]
  simp only [anyElem, Option.some.injEq, Prod.mk.injEq] at hv
  have e : v = (f a).getD z := by
    cases hf : f a with
    | none =>
      have := Maps.atKey_of_not_has (D := D) (k := .int .i64 a) (by rw [(h2 a).1, hf]; rfl) (.held z)
      rw [this] at hv
      injection hv.1
    | some u =>
      rw [(h2 a).2 u hf] at hv
      injection hv.1
  rw [e]
theorem IMap.store (h : IMap w b n f) {t e : TypeId} (ht : Tryz.prog.underlying t = some (.map 3 e)) (hn : n < maxLen) {a : Int} (ha : I64 a) (v : Value) :
    ∃ w', (Instr.mapUpdate t (.map (some b)) (.int .i64 a) v).run Tryz.prog w = .ok () w' ∧ IMap w' b (n + 1) (updT f a (some v)) ∧ w.grownBy w' (some b) := by
  obtain ⟨D, h1, h2⟩ := h
  obtain ⟨w', hr, h3, h4⟩ := h1.update lawI ht hn (keyI ha) (val := v) (d := .held v) (ps := []) rfl
  refine ⟨w', hr, ⟨_, h3, fun c => ?_⟩, h4⟩
  by_cases e : c = a
  · subst e
    rw [updT_same]
    exact ⟨Maps.has_put_same h1.isMap (litKey c) _, fun u hu z => by cases hu; exact Maps.atKey_put_same h1.isMap (litKey c) _ z⟩
  · rw [updT_other _ _ e]
    exact ⟨(Maps.has_put_other (litNe e) _).trans (h2 c).1, fun u hu z => (Maps.atKey_put_other (litNe e) _ z).trans ((h2 c).2 u hu z)⟩
theorem IMap.del (h : IMap w b n f) {t e : TypeId} (ht : Tryz.prog.underlying t = some (.map 3 e)) {a : Int} (ha : I64 a) (ty : TypeId) :
    ∃ w', (Builtin.delete_ #[t, 3] ty #[.map (some b), .int .i64 a]).run Tryz.prog w = .ok (.tuple #[]) w' ∧ IMap w' b n (updT f a none) ∧ w.grownBy w' (some b) := by
  obtain ⟨D, h1, h2⟩ := h
  obtain ⟨w', hr, h3, h4⟩ := h1.drop lawI ht (keyI ha) ty
  refine ⟨w', hr, ⟨_, h3, fun c => ?_⟩, h4.grown⟩
  by_cases e : c = a
  · subst e
    rw [updT_same]
    exact ⟨Maps.has_del_same, fun u hu => by cases hu⟩
  · rw [updT_other _ _ e]
    exact ⟨(Maps.has_del_other (litNe e)).trans (h2 c).1, fun u hu z => (Maps.atKey_del_other (litNe e) z).trans ((h2 c).2 u hu z)⟩
end
section
variable {P : Program} {w w' : World} {ops : Array Oper} {rest : List Oper} {o : Oper} {a : Act} {K : Act → World → Prop} {Q : Exit → Act → World → Prop} {E : Prop}
theorem wpList_del (hgd : o.guard = none) (m x : Operand) (t k : TypeId) (hop : o.op = Op.call { callee := Callee.builtin Builtin.delete, args := #[m, x], argTypes := #[t, k] }) (mv key : Value) (hm : a.eval m = mv) (hx : a.eval x = key)
    (hrun : (Builtin.delete_ #[t, k] o.type #[mv, key]).run P w = .ok (.tuple #[]) w') (hK : wpList P ops Q rest (a.put o.dst (.tuple #[])) w') : wpList P ops Q (o :: rest) a w := by
  refine wpList_plain hgd fun K' hK' => ?_
  unfold Oper.wp
  simp [execOp, hop, resolve, invoke, builtin, hm, hx, hrun, Result.andThen]
  exact hK' _ _ hK
end
def MapIs (w : World) (mv : Option Nat) (n : Nat) (f : Int → Option Value) : Prop := (mv = none ∧ ∀ a, f a = none) ∨ ∃ b, mv = some b ∧ IMap w b n f
section
variable {w : World} {mv : Option Nat} {n : Nat} {f : Int → Option Value}
theorem MapIs.lt (h : MapIs w mv n f) {b : Nat} (e : mv = some b) : b < w.heap.size := by
  rcases h with h | ⟨b', e', h⟩
  · rw [h.1] at e; cases e
  · rw [e'] at e; cases e; exact h.lt
theorem MapIs.same {w' : World} (h : MapIs w mv n f) (hs : ∀ b, mv = some b → w'.heap[b]? = w.heap[b]?) : MapIs w' mv n f := by
  rcases h with h | ⟨b, e, h⟩
  · exact .inl h
  · exact .inr ⟨b, e, h.same (hs b e)⟩
theorem MapIs.ne (h : MapIs w mv n f) {g : Nat} {cs : Array Value} {t : TypeId} {fr : Nat × Nat} (hg : w.heap[g]? = some (.cells cs t fr)) : mv ≠ some g := by
  rintro rfl
  rcases h with h | ⟨b, e, h⟩
  · cases h.1
  · cases e; exact h.ne hg rfl
theorem MapIs.at {b : Nat} (h : MapIs w (some b) n f) : IMap w b n f := by
  rcases h with h | ⟨b', e, h⟩
  · cases h.1
  · cases e; exact h
theorem MapIs.look (h : MapIs w mv n f) {t e : TypeId} (ht : Tryz.prog.underlying t = some (.map 3 e)) {z : Value} (hz : (zeroValue e).run Tryz.prog w = .ok z w) {a : Int} (ha : I64 a) :
    (Instr.lookup t (.map mv) (.int .i64 a) true).run Tryz.prog w = .ok (.tuple #[(f a).getD z, .bool (f a).isSome]) w := by
  rcases h with ⟨rfl, h⟩ | ⟨b, rfl, h⟩
  · rw [h a]; exact Maps.look_nil true lawI ht hz (keyI ha)
  · exact h.look ht hz ha
end
end Go.Proofs.YtjefgmeejhakbaaGreatDoor
