/- RowBase EnSmall EnAhead EnTight KtPick: put together for a claim. -/
import Derived.Test.YtjefgmeejhakbaaGreatDoorCards
import Derived.Test.YtjefgmeejhakbaaGreatDoorTie
import Derived.Test.YtjefgmeejhakbaaGreatDoorMgABQ
import Derived.Test.YtjefgmeejhakbaaGreatDoorMgACQ
import Derived.ProofKit
import Derived.OpenShut
import Derived.Carry
import Derived.Deep.Slices
import Derived.Deep.SlicePairs
import Derived.Deep.DeepHandedRow
import Derived.LaidLaws
import Derived.LaidHandle
import Derived.Test.YtjefgmeejhakbaaGreatDoorEsAllQ
import Derived.Test.YtjefgmeejhakbaaGreatDoorEkDropQ
import Derived.Test.YtjefgmeejhakbaaGreatDoorMgAAQ
/- What the rows share: the listed variable. -/
namespace Go.Proofs.YtjefgmeejhakbaaGreatDoor
open Go.ChangeShapes Go.WideShapes Go.ChangeAt Go.RowKit
theorem tryd_own : ownKnob Tryz.prog.godebug = none := by kernel_rfl
theorem tryd_laidOut : laidOutB Tryz.prog = true := by kernel_rfl
theorem tryd_et : Tryz.prog.globalNamed "errors.errorType" = some 0 := by kernel_rfl
theorem tryd_rt : (Tryz.prog.cutTypes.find? (·.1 == "internal/reflectlite.rtype")).map (·.2) = some 263 := by kernel_rfl
theorem tryd_oneRow : ((List.range 364).filter fun t => Tryz.prog.rowNamed t [101, 114, 114, 111, 114]) = [33] := by kernel_rfl
theorem tryd_size : Tryz.prog.types.size = 364 := by kernel_rfl
theorem handle_of_laid {W : World} (h : laidMetH Tryz.prog [("errors.errorType", Rows.laid_errors_errorType)] W) : Handle W := by
  have h' : laidMet Tryz.prog [] W ∧ handlesMet Tryz.prog [("errors.errorType", Rows.laid_errors_errorType)] W := h
  obtain ⟨name, u, ty, e1, e2, e3, e4, e5⟩ := h'.2 _ (List.mem_singleton.2 rfl)
  have en : name = [101, 114, 114, 111, 114] := (Option.some.inj e1).symm
  subst en
  obtain rfl := Option.some.inj (tryd_rt.symm.trans e2)
  have hm : ty ∈ (List.range 364).filter fun t => Tryz.prog.rowNamed t [101, 114, 114, 111, 114] := List.mem_filter.2 ⟨List.mem_range.2 (by rw [← tryd_size]; exact e3), e4⟩
  rw [tryd_oneRow] at hm
  obtain rfl := List.mem_singleton.1 hm
  have hh : typeHandle Tryz.prog 33 = .pointer (some ⟨1, 33, none⟩) := by kernel_rfl
  rw [hh] at e5
  simpa [Handle] using World.var?_cell tryd_et e5 0
theorem tryd_cells3 : Tryz.prog.cellsOf 3 = 1 := by kernel_rfl
theorem addr_plain {w : World} {a : Addr} {v : Value} (h : w.cell? (a.add 0) = some v) : ∃ b off, a = ⟨b, off, none⟩ := by
  obtain ⟨b, off, sp⟩ := a
  cases sp with
  | none => exact ⟨b, off, rfl⟩
  | some s =>
    exfalso
    simp only [Addr.add, if_true, World.cell?, Option.isSome_some] at h
    split at h <;> simp at h
end Go.Proofs.YtjefgmeejhakbaaGreatDoor

/- Small functions of package engine. -/
namespace Go.Proofs.YtjefgmeejhakbaaGreatDoor
open Go.RowKit
def liveB (st : Int) : Bool := st == 0 || st == 1
set_option maxRecDepth 100000 in
set_option maxHeartbeats 400000 in
theorem lives_any (b : Nat) (st : Int) (w : World) (h : w.cell? ⟨b, 3, none⟩ = some (.int .i64 st)) :
    Calls Tryz.prog 100 #[.pointer (some ⟨b, 0, none⟩)] w fun e w' => e = .returned (.bool (liveB st)) ∧ w' = w := by
  unfold liveB
  by_cases h0 : st = 0
  · subst h0
    go_enter Tryz.func100, Tryz.ntmps100
    go_wp2
    go_ret
    exact ⟨rfl, rfl⟩
  · have e0 : (st == 0) = false := by simpa using h0
    rw [e0]
    clear h0
    go_enter Tryz.func100, Tryz.ntmps100
    go_wp2
    go_ret
    exact ⟨rfl, rfl⟩
def ISet (w : World) (b n : Nat) (s : Int → Bool) : Prop := IMap w b n (fun a => if s a = true then some (.agg #[]) else none)
theorem ISet.len {w : World} {b n : Nat} {s : Int → Bool} (h : ISet w b n s) : ∃ k : Nat, k ≤ n ∧ (∀ ty, (Builtin.len_ #[181] ty #[.map (some b)]).run Tryz.prog w = .ok (.int .i64 k) w) ∧ (k = 0 ↔ ∀ a, s a = false) := by
  obtain ⟨k, h1, h2, h3⟩ := IMap.len h Tryz.underlying181
  refine ⟨k, h1, h2, h3.trans ⟨fun e a => ?_, fun e a => by rw [e a]; rfl⟩⟩
  have := e a
  cases hs : s a with
  | false => rfl
  | true => rw [hs] at this; cases this
def Between (sa sb : Int → Bool) : Prop := (∃ x, sa x = true) ∧ ∃ x, sb x = true
noncomputable def betB (sa sb : Int → Bool) : Bool := @decide (Between sa sb) (Classical.propDecidable _)
theorem betB_true {sa sb : Int → Bool} : betB sa sb = true ↔ Between sa sb := by unfold betB; exact @decide_eq_true_iff _ (Classical.propDecidable _)
theorem betB_false {sa sb : Int → Bool} (h : ¬ Between sa sb) : betB sa sb = false := by
  cases hb : betB sa sb with
  | false => rfl
  | true => exact (h (betB_true.1 hb)).elim
theorem none_or (s : Int → Bool) : (∃ x, s x = true) ∨ ∀ x, s x = false := by
  rcases Classical.em (∃ x, s x = true) with h | h
  · exact .inl h
  · exact .inr (fun x => by cases hx : s x with | false => rfl | true => exact (h ⟨x, hx⟩).elim)
set_option maxRecDepth 100000 in
set_option maxHeartbeats 400000 in
theorem between_any (b ab hb na nb : Nat) (sa sb : Int → Bool) (w : World) (ha : w.cell? ⟨b, 20, none⟩ = some (.map (some ab))) (hh : w.cell? ⟨b, 21, none⟩ = some (.map (some hb))) (hA : ISet w ab na sa) (hB : ISet w hb nb sb) :
    Calls Tryz.prog 103 #[.pointer (some ⟨b, 0, none⟩)] w fun e w' => e = .returned (.bool (betB sa sb)) ∧ w' = w := by
  obtain ⟨ka, _, la, za⟩ := hA.len
  obtain ⟨kb, _, lb, zb⟩ := hB.len
  have HZ := hid (And.intro za zb)
  clear za zb hA hB
  have hpos : ∀ {k : Nat} {s : Int → Bool}, (k = 0 ↔ ∀ a, s a = false) → (k ≠ 0 ↔ ∃ x, s x = true) := fun {k s} h => by
    constructor
    · intro hk
      rcases none_or s with e | e
      · exact e
      · exact (hk (h.2 e)).elim
    · rintro ⟨x, hx⟩ hk
      rw [h.1 hk x] at hx
      cases hx
  have HP := hid (And.intro (hpos HZ.out.1) (hpos HZ.out.2))
  clear hpos
  by_cases h1 : ka = 0
  · have e1 : ¬ (0 : Int) < (ka : Int) := by omega
    rw [betB_false (show ¬ Between sa sb from fun h => (HP.out.1.2 h.1) h1)]
    clear h1
    go_enter Tryz.func103, Tryz.ntmps103
    go_wp2
    go_ret
    exact ⟨rfl, rfl⟩
  · have e1 : (0 : Int) < (ka : Int) := by omega
    by_cases h2 : kb = 0
    · have hd : decide (0 < kb) = false := by rw [h2]; rfl
      rw [betB_false (show ¬ Between sa sb from fun h => (HP.out.2.2 h.2) h2)]
      clear h1 h2
      go_enter Tryz.func103, Tryz.ntmps103
      go_wp2
      go_ret
      exact ⟨rfl, rfl⟩
    · have hd : decide (0 < kb) = true := by simp; omega
      rw [betB_true.2 ⟨HP.out.1.1 h1, HP.out.2.1 h2⟩]
      clear h1 h2
      go_enter Tryz.func103, Tryz.ntmps103
      go_wp2
      go_ret
      exact ⟨rfl, rfl⟩
noncomputable def stuckB (st : Int) (sa sb : Int → Bool) : Bool := st == 2 && betB sa sb
set_option maxRecDepth 100000 in
set_option maxHeartbeats 400000 in
theorem stuck_any (b ab hb na nb : Nat) (st : Int) (sa sb : Int → Bool) (w : World) (hs : w.cell? ⟨b, 3, none⟩ = some (.int .i64 st)) (ha : w.cell? ⟨b, 20, none⟩ = some (.map (some ab))) (hh : w.cell? ⟨b, 21, none⟩ = some (.map (some hb))) (hA : ISet w ab na sa) (hB : ISet w hb nb sb) :
    Calls Tryz.prog 211 #[.pointer (some ⟨b, 0, none⟩)] w fun e w' => e = .returned (.bool (stuckB st sa sb)) ∧ w' = w := by
  have HC := hid (between_any b ab hb na nb sa sb w ha hh hA hB)
  clear ha hh hA hB
  unfold stuckB
  by_cases h2 : st = 2
  · subst h2
    go_enter Tryz.func211, Tryz.ntmps211
    go_wp2_with fail
    refine HC.out.mono ?_
    rintro e w1 ⟨rfl, rfl⟩
    go_wp2
    go_ret
    exact ⟨by simp, rfl⟩
  · have e2 : (st == 2) = false := by simpa using h2
    rw [e2]
    clear h2
    go_enter Tryz.func211, Tryz.ntmps211
    go_wp2
    go_ret
    exact ⟨rfl, rfl⟩
end Go.Proofs.YtjefgmeejhakbaaGreatDoor

/- engine.putAhead. -/
namespace Go.Proofs.YtjefgmeejhakbaaGreatDoor
open Go.RowKit
def TxC (w : World) (b : Nat) (num st : Int) (ab hb : Nat) : Prop :=
  ∃ cs, w.heap[b]? = some (.cells cs 183 (0, 0)) ∧ cs[0]? = some (.int .i64 num) ∧ cs[3]? = some (.int .i64 st) ∧ cs[20]? = some (.map (some ab)) ∧ cs[21]? = some (.map (some hb))
section
variable {w w' : World} {b ab hb : Nat} {num st : Int}
theorem TxC.c0 (h : TxC w b num st ab hb) : w.cell? ⟨b, 0, none⟩ = some (.int .i64 num) := by obtain ⟨cs, h1, h2, _⟩ := h; exact (cell_of_row w b 0 _ _ (0, 0) h1).trans h2
theorem TxC.c3 (h : TxC w b num st ab hb) : w.cell? ⟨b, 3, none⟩ = some (.int .i64 st) := by obtain ⟨cs, h1, _, h2, _⟩ := h; exact (cell_of_row w b 3 _ _ (0, 0) h1).trans h2
theorem TxC.c20 (h : TxC w b num st ab hb) : w.cell? ⟨b, 20, none⟩ = some (.map (some ab)) := by obtain ⟨cs, h1, _, _, h2, _⟩ := h; exact (cell_of_row w b 20 _ _ (0, 0) h1).trans h2
theorem TxC.c21 (h : TxC w b num st ab hb) : w.cell? ⟨b, 21, none⟩ = some (.map (some hb)) := by obtain ⟨cs, h1, _, _, _, h2⟩ := h; exact (cell_of_row w b 21 _ _ (0, 0) h1).trans h2
theorem TxC.same (h : TxC w b num st ab hb) (hs : w'.heap[b]? = w.heap[b]?) : TxC w' b num st ab hb := by obtain ⟨cs, h1, r⟩ := h; exact ⟨cs, hs.trans h1, r⟩
theorem TxC.lt (h : TxC w b num st ab hb) : b < w.heap.size := by obtain ⟨cs, h1, _⟩ := h; exact (Array.getElem?_eq_some_iff.1 h1).1
theorem TxC.ne (h : TxC w b num st ab hb) {m n : Nat} {s : Int → Bool} (hm : ISet w m n s) : b ≠ m := by obtain ⟨cs, h1, _⟩ := h; exact (IMap.ne hm h1).symm
end
theorem ISet.same {w w' : World} {b n : Nat} {s : Int → Bool} (h : ISet w b n s) (hs : w'.heap[b]? = w.heap[b]?) : ISet w' b n s := IMap.same h hs
theorem ISet.lt {w : World} {b n : Nat} {s : Int → Bool} (h : ISet w b n s) : b < w.heap.size := IMap.lt h
theorem ISet.store {w : World} {b n : Nat} {s : Int → Bool} (h : ISet w b n s) (hn : n < maxLen) {x : Int} (hx : I64 x) :
    ∃ w', (Instr.mapUpdate 181 (.map (some b)) (.int .i64 x) (.agg #[])).run Tryz.prog w = .ok () w' ∧ ISet w' b (n + 1) (fun a => s a || a == x) ∧ w.grownBy w' (some b) := by
  obtain ⟨w', h1, h2, h3⟩ := IMap.store h Tryz.underlying181 hn hx (.agg #[])
  refine ⟨w', h1, h2.congr (fun a => ?_), h3⟩
  by_cases e : a = x
  · subst e; rw [updT_same]; simp
  · rw [updT_other _ _ e]; simp [e]
set_option maxRecDepth 100000 in
set_option maxHeartbeats 1000000 in
theorem putAhead_any (b1 b2 ab1 hb1 ab2 hb2 m1 m2 m3 m4 : Nat) (n1 n2 st1 st2 : Int) (A1 B1 A2 B2 : Int → Bool) (w : World) (h1 : TxC w b1 n1 st1 ab1 hb1) (h2 : TxC w b2 n2 st2 ab2 hb2)
    (hA1 : ISet w ab1 m1 A1) (hB1 : ISet w hb1 m2 B1) (hA2 : ISet w ab2 m3 A2) (hB2 : ISet w hb2 m4 B2) (hn1 : I64 n1) (hn2 : I64 n2) (hm2 : m2 ≤ 1000000) (hm3 : m3 ≤ 1000000)
    (d1 : hb1 ≠ ab2) (d2 : ab1 ≠ hb1) (d3 : ab1 ≠ ab2) (d4 : hb2 ≠ hb1) (d5 : hb2 ≠ ab2) :
    Calls Tryz.prog 161 #[.pointer (some ⟨b1, 0, none⟩), .pointer (some ⟨b2, 0, none⟩)] w fun e w' =>
      e = .returned (.bool (!stuckB st1 A1 (fun a => B1 a || a == n2) && !stuckB st2 (fun a => A2 a || a == n1) B2)) ∧ ISet w' hb1 (m2 + 1) (fun a => B1 a || a == n2) ∧ ISet w' ab2 (m3 + 1) (fun a => A2 a || a == n1) ∧
      w'.os = w.os ∧ w'.tape = w.tape ∧ w'.output = w.output ∧ w.heap.size ≤ w'.heap.size ∧ ∀ g, g < w.heap.size → g ≠ hb1 → g ≠ ab2 → w'.heap[g]? = w.heap[g]? := by
  obtain ⟨w1, hrun1, hS1, hg1⟩ := (hB1.same (w' := w.drew) rfl).store (by unfold maxLen; omega) hn2
  have e1 : ∀ g, g < w.heap.size → g ≠ hb1 → w1.heap[g]? = w.heap[g]? := fun g hg hne => hg1.block g hg (fun e => hne (by injection e))
  have k1 := h1.same (e1 b1 h1.lt (h1.ne hB1))
  have k2 := h2.same (e1 b2 h2.lt (h2.ne hB1))
  obtain ⟨w2, hrun2, hS2, hg2⟩ := ((hA2.same (e1 ab2 hA2.lt d1.symm)).same (w' := w1.drew) rfl).store (by unfold maxLen; omega) hn1
  have hs1 : w.heap.size ≤ w1.heap.size := hg1.size
  have e2 : ∀ g, g < w1.heap.size → g ≠ ab2 → w2.heap[g]? = w1.heap[g]? := fun g hg hne => hg2.block g hg (fun e => hne (by injection e))
  have q1 := k1.same (e2 b1 k1.lt (h1.ne hA2))
  have q2 := k2.same (e2 b2 k2.lt (h2.ne hA2))
  have hB1' := hS1.same (e2 hb1 hS1.lt d1)
  have hA1' := (hA1.same (e1 ab1 hA1.lt d2)).same (e2 ab1 (Nat.lt_of_lt_of_le hA1.lt hs1) d3)
  have hB2' := (hB2.same (e1 hb2 hB2.lt d4)).same (e2 hb2 (Nat.lt_of_lt_of_le hB2.lt hs1) d5)
  have HC1 := hid (stuck_any b1 ab1 hb1 m1 (m2 + 1) st1 A1 (fun a => B1 a || a == n2) w2 q1.c3 q1.c20 q1.c21 hA1' hB1')
  have HC2 := hid (stuck_any b2 ab2 hb2 (m3 + 1) m4 st2 (fun a => A2 a || a == n1) B2 w2 q2.c3 q2.c20 q2.c21 hS2 hB2')
  have HF := hid (show ISet w2 hb1 (m2 + 1) (fun a => B1 a || a == n2) ∧ ISet w2 ab2 (m3 + 1) (fun a => A2 a || a == n1) ∧ w2.os = w.os ∧ w2.tape = w.tape ∧ w2.output = w.output ∧ w.heap.size ≤ w2.heap.size ∧ ∀ g, g < w.heap.size → g ≠ hb1 → g ≠ ab2 → w2.heap[g]? = w.heap[g]? from
    ⟨hB1', hS2, hg2.os.trans hg1.os, hg2.tape.trans hg1.tape, hg2.output.trans hg1.output, Nat.le_trans hs1 hg2.size, fun g hg ha hb => (e2 g (Nat.lt_of_lt_of_le hg hs1) hb).trans (e1 g hg ha)⟩)
  have c1 := h1.c21
  have c2 := h2.c0
  have y1 := k1.c21
  have y2 := k2.c0
  have y3 := k2.c20
  have y4 := k1.c0
  have z3 := q2.c20
  have z4 := q1.c0
  clear h1 h2 hA1 hB1 hA2 hB2 hS1 hg1 k1 k2 hS2 hg2 e1 e2 q1 q2 hB1' hA1' hB2'
  obtain ⟨s1, hs1e⟩ : ∃ s1, stuckB st1 A1 (fun a => B1 a || a == n2) = s1 := ⟨_, rfl⟩
  obtain ⟨s2, hs2e⟩ : ∃ s2, stuckB st2 (fun a => A2 a || a == n1) B2 = s2 := ⟨_, rfl⟩
  rw [hs1e] at HC1
  rw [hs2e] at HC2
  rw [hs1e, hs2e]
  clear hs1e hs2e
  go_enter Tryz.func161, Tryz.ntmps161
  go_wp2
  go_region_held3 (fun W => W.cell? ⟨b1, 21, none⟩ = some (.map (some hb1)) ∧ W.cell? ⟨b2, 0, none⟩ = some (.int .i64 n2))
    (first
      | go_keep
      | exact ⟨y1, y2⟩
      | fail)
    (fail)
  go_wp2
  go_region_held3 (fun W => W.cell? ⟨b2, 20, none⟩ = some (.map (some ab2)) ∧ W.cell? ⟨b1, 0, none⟩ = some (.int .i64 n1))
    (first
      | go_keep
      | exact ⟨z3, z4⟩
      | fail)
    (fail)
  cases s1 with
  | true =>
    go_wp2_with fail
    refine HC1.out.mono ?_
    rintro e w3 ⟨rfl, hw3⟩
    rw [hw3]
    clear hw3 w3
    go_wp2
    go_ret
    exact ⟨rfl, HF.out⟩
  | false =>
    go_wp2_with fail
    refine HC1.out.mono ?_
    rintro e w3 ⟨rfl, hw3⟩
    rw [hw3]
    clear hw3 w3
    go_wp2_with fail
    refine HC2.out.mono ?_
    rintro e w3 ⟨rfl, hw3⟩
    rw [hw3]
    clear hw3 w3
    go_wp2
    go_ret
    exact ⟨by cases s2 <;> rfl, HF.out⟩
end Go.Proofs.YtjefgmeejhakbaaGreatDoor

/- How many entries a map of ints can have, by its keys. -/
namespace Go.Proofs.YtjefgmeejhakbaaGreatDoor
open Go.RowKit
theorem nodup_le {α : Type} : ∀ (l m : List α), l.Pairwise (fun a b => a ≠ b) → (∀ x ∈ l, x ∈ m) → l.length ≤ m.length
  | [], _, _, _ => by simp
  | a :: r, m, hp, hs => by
    obtain ⟨m1, m2, rfl⟩ := List.append_of_mem (hs a (List.mem_cons_self ..))
    have hp' := List.pairwise_cons.1 hp
    have := nodup_le r (m1 ++ m2) hp'.2 (fun x hx => by
      have h1 := hs x (List.mem_cons_of_mem _ hx)
      have h2 := hp'.1 x hx
      rw [List.mem_append, List.mem_cons] at h1
      rw [List.mem_append]
      rcases h1 with h | h | h
      · exact .inl h
      · exact (h2 h.symm).elim
      · exact .inr h)
    simp only [List.length_append, List.length_cons] at this ⊢
    omega
theorem IMap.tight {w : World} {b n : Nat} {f : Int → Option Value} (h : IMap w b n f) (sup : List Int) (hs : ∀ a, f a ≠ none → a ∈ sup) : IMap w b sup.length f := by
  obtain ⟨D, ⟨es, clock, hb, F, hz, rfl⟩, h2⟩ := h
  refine ⟨_, ⟨es, clock, hb, F, ?_, rfl⟩, h2⟩
  have hA := Maps.fit_apart lawI F
  have h3 := nodup_le ((es.toList.map (WideElems.rg Tryz.prog 3 anyElem)).map (fun p => p.1)) (sup.map (Lit.int .i64)) (by rw [List.pairwise_map]; exact hA) (fun x hx => by
    obtain ⟨p, hp, rfl⟩ := List.mem_map.1 hx
    obtain ⟨y, hy, rfl⟩ := List.mem_map.1 hp
    obtain ⟨v, hv⟩ := Maps.fit_keys F _ hp
    obtain ⟨a, _, hk, _⟩ := Maps.keyOf_int_inv Tryz.underlying3 hv
    rw [hk]
    refine List.mem_map.2 ⟨a, hs a (fun e => ?_), rfl⟩
    have h3 := (h2 a).1
    rw [e] at h3
    have h4 : Maps.has (DataW.map ((es.toList.map (WideElems.rg Tryz.prog 3 anyElem)).foldr DataW.insert [])) (.int .i64 a) = true := by
      rw [Maps.has_eq, List.any_eq_true]
      refine ⟨_, (WideShapes.sorted_perm _).mem_iff.2 hp, ?_⟩
      rw [hk]
      simp [Lit.sameKey]
    rw [h4] at h3
    cases h3)
  simpa using h3
def upTo (n : Nat) : List Int := (List.range n).map Int.ofNat
theorem mem_upTo {n : Nat} {a : Int} (h0 : 0 ≤ a) (h1 : a < n) : a ∈ upTo n := List.mem_map.2 ⟨a.toNat, by rw [List.mem_range]; omega, by simp; omega⟩
theorem upTo_length (n : Nat) : (upTo n).length = n := by simp [upTo]
theorem IMap.upTo {w : World} {b n : Nat} {f : Int → Option Value} (h : IMap w b n f) (m : Nat) (hs : ∀ a, f a ≠ none → 0 ≤ a ∧ a < m) : IMap w b m f := by
  have := h.tight (Go.Proofs.YtjefgmeejhakbaaGreatDoor.upTo m) (fun a ha => mem_upTo (hs a ha).1 (hs a ha).2)
  rwa [upTo_length] at this
theorem MapIs.upTo {w : World} {mv : Option Nat} {n : Nat} {f : Int → Option Value} (h : MapIs w mv n f) (m : Nat) (hs : ∀ a, f a ≠ none → 0 ≤ a ∧ a < m) : MapIs w mv m f := by
  rcases h with h | ⟨b, e, h⟩
  · exact .inl h
  · exact .inr ⟨b, e, h.upTo m hs⟩
end Go.Proofs.YtjefgmeejhakbaaGreatDoor

/- keep.pick. -/
namespace Go.Proofs.YtjefgmeejhakbaaGreatDoor
open Go.RowKit
def pickP (a n : Int) : Int := wrap64 ((IntKind.u64.wrap a).tmod n)
theorem pickP_in (a n : Int) (h1 : 1 ≤ n) (h2 : n ≤ 1000) : 0 ≤ pickP a n ∧ pickP a n < n := by
  have hu : 0 ≤ IntKind.u64.wrap a := by
    simp only [IntKind.wrap, IntKind.signed, Bool.false_and, Bool.false_eq_true, if_false]
    exact Int.emod_nonneg _ (by simp [IntKind.bits])
  have hm0 : 0 ≤ (IntKind.u64.wrap a).tmod n := Int.tmod_nonneg _ hu
  have hm1 : (IntKind.u64.wrap a).tmod n < n := Int.tmod_lt_of_pos _ (by omega)
  unfold pickP
  rw [IntWalk.wrap64_in _ (by omega)]
  exact ⟨hm0, hm1⟩
set_option maxHeartbeats 400000 in
theorem pick_eq (a n : Int) (w : World) (h1 : 1 ≤ n) (h2 : n ≤ 1000) :
    Calls Tryz.prog 35 #[.int .i64 a, .int .i64 n] w fun e w' => e = .returned (.int .i64 (pickP a n)) ∧ w' = w := by
  go_enter Tryz.func35, Tryz.ntmps35
  go_wp2
  go_ret
  exact ⟨rfl, rfl⟩
end Go.Proofs.YtjefgmeejhakbaaGreatDoor
