/- EnSmall EnAhead EnTight EnMem KtPick OrHeap: put together for a claim. -/
import Derived.Test.YtjefgmeejhakbaaGreatDoorMgAI
import Derived.Test.YtjefgmeejhakbaaGreatDoorEkDrop
import Derived.Test.YtjefgmeejhakbaaGreatDoorMgAA
import Derived.Sort.LotB
/- Small functions of package engine. -/
namespace Go.Proofs.YtjefgmeejhakbaaGreatDoor
open Go.RowKit

def liveB (st : Int) : Bool := st == 0 || st == 1
set_option maxRecDepth 100000 in
set_option maxHeartbeats 400000 in
theorem lives_any (b : Nat) (st : Int) (w : World) (h : w.cell? ⟨b, 3, none⟩ = some (.int .i64 st)) :
    Calls Tryz.prog 100 #[.pointer (some ⟨b, 0, none⟩)] w fun e w' => e = .returned (.bool (liveB st)) ∧ w' = w := by
  unfold liveB
  by_cases h0 : st = 0
  · subst h0
    go_enter Tryz.func100, Tryz.ntmps100
    go_wp2
    go_ret
    exact ⟨rfl, rfl⟩
  · have e0 : (st == 0) = false := by simpa using h0
    rw [e0]
    clear h0
    go_enter Tryz.func100, Tryz.ntmps100
    go_wp2
    go_ret
    exact ⟨rfl, rfl⟩

def ISet (w : World) (b n : Nat) (s : Int → Bool) : Prop := IMap w b n (fun a => if s a = true then some (.agg #[]) else none)
theorem ISet.len {w : World} {b n : Nat} {s : Int → Bool} (h : ISet w b n s) : ∃ k : Nat, k ≤ n ∧ (∀ ty, (Builtin.len_ #[181] ty #[.map (some b)]).run Tryz.prog w = .ok (.int .i64 k) w) ∧ (k = 0 ↔ ∀ a, s a = false) := by
  obtain ⟨k, h1, h2, h3⟩ := IMap.len h Tryz.underlying181
  refine ⟨k, h1, h2, h3.trans ⟨fun e a => ?_, fun e a => by rw [e a]; rfl⟩⟩
  have := e a
  cases hs : s a with
  | false => rfl
  | true => rw [hs] at this; cases this
def Between (sa sb : Int → Bool) : Prop := (∃ x, sa x = true) ∧ ∃ x, sb x = true
noncomputable def betB (sa sb : Int → Bool) : Bool := @decide (Between sa sb) (Classical.propDecidable _)
theorem betB_true {sa sb : Int → Bool} : betB sa sb = true ↔ Between sa sb := by unfold betB; exact @decide_eq_true_iff _ (Classical.propDecidable _)
theorem betB_false {sa sb : Int → Bool} (h : ¬ Between sa sb) : betB sa sb = false := by
  cases hb : betB sa sb with
  | false => rfl
  | true => exact (h (betB_true.1 hb)).elim
theorem none_or (s : Int → Bool) : (∃ x, s x = true) ∨ ∀ x, s x = false := by
  rcases Classical.em (∃ x, s x = true) with h | h
  · exact .inl h
  · exact .inr (fun x => by cases hx : s x with | false => rfl | true => exact (h ⟨x, hx⟩).elim)

set_option maxRecDepth 100000 in
set_option maxHeartbeats 400000 in
theorem between_any (b ab hb na nb : Nat) (sa sb : Int → Bool) (w : World) (ha : w.cell? ⟨b, 20, none⟩ = some (.map (some ab))) (hh : w.cell? ⟨b, 21, none⟩ = some (.map (some hb))) (hA : ISet w ab na sa) (hB : ISet w hb nb sb) :
    Calls Tryz.prog 103 #[.pointer (some ⟨b, 0, none⟩)] w fun e w' => e = .returned (.bool (betB sa sb)) ∧ w' = w := by
  obtain ⟨ka, _, la, za⟩ := hA.len
  obtain ⟨kb, _, lb, zb⟩ := hB.len
  have HZ := hid (And.intro za zb)
  clear za zb hA hB
  have hpos : ∀ {k : Nat} {s : Int → Bool}, (k = 0 ↔ ∀ a, s a = false) → (k ≠ 0 ↔ ∃ x, s x = true) := fun {k s} h => by
    constructor
    · intro hk
      rcases none_or s with e | e
      · exact e
      · exact (hk (h.2 e)).elim
    · rintro ⟨x, hx⟩ hk
      rw [h.1 hk x] at hx
      cases hx
  have HP := hid (And.intro (hpos HZ.out.1) (hpos HZ.out.2))
  clear hpos
  by_cases h1 : ka = 0
  · have e1 : ¬ (0 : Int) < (ka : Int) := by omega
    rw [betB_false (show ¬ Between sa sb from fun h => (HP.out.1.2 h.1) h1)]
    clear h1
    go_enter Tryz.func103, Tryz.ntmps103
    go_wp2
    go_ret
    exact ⟨rfl, rfl⟩
  · have e1 : (0 : Int) < (ka : Int) := by omega
    by_cases h2 : kb = 0
    · have hd : decide (0 < kb) = false := by rw [h2]; rfl
      rw [betB_false (show ¬ Between sa sb from fun h => (HP.out.2.2 h.2) h2)]
      clear h1 h2
      go_enter Tryz.func103, Tryz.ntmps103
      go_wp2
      go_ret
      exact ⟨rfl, rfl⟩
    · have hd : decide (0 < kb) = true := by simp; omega
      rw [betB_true.2 ⟨HP.out.1.1 h1, HP.out.2.1 h2⟩]
      clear h1 h2
      go_enter Tryz.func103, Tryz.ntmps103
      go_wp2
      go_ret
      exact ⟨rfl, rfl⟩

noncomputable def stuckB (st : Int) (sa sb : Int → Bool) : Bool := st == 2 && betB sa sb
set_option maxRecDepth 100000 in
set_option maxHeartbeats 400000 in
theorem stuck_any (b ab hb na nb : Nat) (st : Int) (sa sb : Int → Bool) (w : World) (hs : w.cell? ⟨b, 3, none⟩ = some (.int .i64 st)) (ha : w.cell? ⟨b, 20, none⟩ = some (.map (some ab))) (hh : w.cell? ⟨b, 21, none⟩ = some (.map (some hb))) (hA : ISet w ab na sa) (hB : ISet w hb nb sb) :
    Calls Tryz.prog 211 #[.pointer (some ⟨b, 0, none⟩)] w fun e w' => e = .returned (.bool (stuckB st sa sb)) ∧ w' = w := by
  have HC := hid (between_any b ab hb na nb sa sb w ha hh hA hB)
  clear ha hh hA hB
  unfold stuckB
  by_cases h2 : st = 2
  · subst h2
    go_enter Tryz.func211, Tryz.ntmps211
    go_wp2_with fail
    refine HC.out.mono ?_
    rintro e w1 ⟨rfl, rfl⟩
    go_wp2
    go_ret
    exact ⟨by simp, rfl⟩
  · have e2 : (st == 2) = false := by simpa using h2
    rw [e2]
    clear h2
    go_enter Tryz.func211, Tryz.ntmps211
    go_wp2
    go_ret
    exact ⟨rfl, rfl⟩

end Go.Proofs.YtjefgmeejhakbaaGreatDoor

/- engine.putAhead. -/
namespace Go.Proofs.YtjefgmeejhakbaaGreatDoor
open Go.RowKit

def TxC (w : World) (b : Nat) (num st : Int) (ab hb : Nat) : Prop :=
  ∃ cs, w.heap[b]? = some (.cells cs 183 (0, 0)) ∧ cs[0]? = some (.int .i64 num) ∧ cs[3]? = some (.int .i64 st) ∧ cs[20]? = some (.map (some ab)) ∧ cs[21]? = some (.map (some hb))
section
variable {w w' : World} {b ab hb : Nat} {num st : Int}
theorem TxC.c0 (h : TxC w b num st ab hb) : w.cell? ⟨b, 0, none⟩ = some (.int .i64 num) := by obtain ⟨cs, h1, h2, _⟩ := h; exact (cell_of_row w b 0 _ _ (0, 0) h1).trans h2
theorem TxC.c3 (h : TxC w b num st ab hb) : w.cell? ⟨b, 3, none⟩ = some (.int .i64 st) := by obtain ⟨cs, h1, _, h2, _⟩ := h; exact (cell_of_row w b 3 _ _ (0, 0) h1).trans h2
theorem TxC.c20 (h : TxC w b num st ab hb) : w.cell? ⟨b, 20, none⟩ = some (.map (some ab)) := by obtain ⟨cs, h1, _, _, h2, _⟩ := h; exact (cell_of_row w b 20 _ _ (0, 0) h1).trans h2
theorem TxC.c21 (h : TxC w b num st ab hb) : w.cell? ⟨b, 21, none⟩ = some (.map (some hb)) := by obtain ⟨cs, h1, _, _, _, h2⟩ := h; exact (cell_of_row w b 21 _ _ (0, 0) h1).trans h2
theorem TxC.same (h : TxC w b num st ab hb) (hs : w'.heap[b]? = w.heap[b]?) : TxC w' b num st ab hb := by obtain ⟨cs, h1, r⟩ := h; exact ⟨cs, hs.trans h1, r⟩
theorem TxC.lt (h : TxC w b num st ab hb) : b < w.heap.size := by obtain ⟨cs, h1, _⟩ := h; exact (Array.getElem?_eq_some_iff.1 h1).1
theorem TxC.ne (h : TxC w b num st ab hb) {m n : Nat} {s : Int → Bool} (hm : ISet w m n s) : b ≠ m := by obtain ⟨cs, h1, _⟩ := h; exact (IMap.ne hm h1).symm
end
theorem ISet.same {w w' : World} {b n : Nat} {s : Int → Bool} (h : ISet w b n s) (hs : w'.heap[b]? = w.heap[b]?) : ISet w' b n s := IMap.same h hs
theorem ISet.lt {w : World} {b n : Nat} {s : Int → Bool} (h : ISet w b n s) : b < w.heap.size := IMap.lt h
theorem ISet.store {w : World} {b n : Nat} {s : Int → Bool} (h : ISet w b n s) (hn : n < maxLen) {x : Int} (hx : I64 x) :
    ∃ w', (Instr.mapUpdate 181 (.map (some b)) (.int .i64 x) (.agg #[])).run Tryz.prog w = .ok () w' ∧ ISet w' b (n + 1) (fun a => s a || a == x) ∧ w.grownBy w' (some b) := by
  obtain ⟨w', h1, h2, h3⟩ := IMap.store h Tryz.underlying181 hn hx (.agg #[])
  refine ⟨w', h1, h2.congr (fun a => ?_), h3⟩
  by_cases e : a = x
  · subst e; rw [updT_same]; simp
  · rw [updT_other _ _ e]; simp [e]

set_option maxRecDepth 100000 in
set_option maxHeartbeats 1000000 in
theorem putAhead_any (b1 b2 ab1 hb1 ab2 hb2 m1 m2 m3 m4 : Nat) (n1 n2 st1 st2 : Int) (A1 B1 A2 B2 : Int → Bool) (w : World) (h1 : TxC w b1 n1 st1 ab1 hb1) (h2 : TxC w b2 n2 st2 ab2 hb2)
    (hA1 : ISet w ab1 m1 A1) (hB1 : ISet w hb1 m2 B1) (hA2 : ISet w ab2 m3 A2) (hB2 : ISet w hb2 m4 B2) (hn1 : I64 n1) (hn2 : I64 n2) (hm2 : m2 ≤ 1000000) (hm3 : m3 ≤ 1000000)
    (d1 : hb1 ≠ ab2) (d2 : ab1 ≠ hb1) (d3 : ab1 ≠ ab2) (d4 : hb2 ≠ hb1) (d5 : hb2 ≠ ab2) :
    Calls Tryz.prog 161 #[.pointer (some ⟨b1, 0, none⟩), .pointer (some ⟨b2, 0, none⟩)] w fun e w' =>
      e = .returned (.bool (!stuckB st1 A1 (fun a => B1 a || a == n2) && !stuckB st2 (fun a => A2 a || a == n1) B2)) ∧ ISet w' hb1 (m2 + 1) (fun a => B1 a || a == n2) ∧ ISet w' ab2 (m3 + 1) (fun a => A2 a || a == n1) ∧
      w'.os = w.os ∧ w'.tape = w.tape ∧ w'.output = w.output ∧ w.heap.size ≤ w'.heap.size ∧ ∀ g, g < w.heap.size → g ≠ hb1 → g ≠ ab2 → w'.heap[g]? = w.heap[g]? := by
  obtain ⟨w1, hrun1, hS1, hg1⟩ := (hB1.same (w' := w.drew) rfl).store (by unfold maxLen; omega) hn2
  have e1 : ∀ g, g < w.heap.size → g ≠ hb1 → w1.heap[g]? = w.heap[g]? := fun g hg hne => hg1.block g hg (fun e => hne (by injection e))
  have k1 := h1.same (e1 b1 h1.lt (h1.ne hB1))
  have k2 := h2.same (e1 b2 h2.lt (h2.ne hB1))
  obtain ⟨w2, hrun2, hS2, hg2⟩ := ((hA2.same (e1 ab2 hA2.lt d1.symm)).same (w' := w1.drew) rfl).store (by unfold maxLen; omega) hn1
  have hs1 : w.heap.size ≤ w1.heap.size := hg1.size
  have e2 : ∀ g, g < w1.heap.size → g ≠ ab2 → w2.heap[g]? = w1.heap[g]? := fun g hg hne => hg2.block g hg (fun e => hne (by injection e))
  have q1 := k1.same (e2 b1 k1.lt (h1.ne hA2))
  have q2 := k2.same (e2 b2 k2.lt (h2.ne hA2))
  have hB1' := hS1.same (e2 hb1 hS1.lt d1)
  have hA1' := (hA1.same (e1 ab1 hA1.lt d2)).same (e2 ab1 (Nat.lt_of_lt_of_le hA1.lt hs1) d3)
  have hB2' := (hB2.same (e1 hb2 hB2.lt d4)).same (e2 hb2 (Nat.lt_of_lt_of_le hB2.lt hs1) d5)
  have HC1 := hid (stuck_any b1 ab1 hb1 m1 (m2 + 1) st1 A1 (fun a => B1 a || a == n2) w2 q1.c3 q1.c20 q1.c21 hA1' hB1')
  have HC2 := hid (stuck_any b2 ab2 hb2 (m3 + 1) m4 st2 (fun a => A2 a || a == n1) B2 w2 q2.c3 q2.c20 q2.c21 hS2 hB2')
  have HF := hid (show ISet w2 hb1 (m2 + 1) (fun a => B1 a || a == n2) ∧ ISet w2 ab2 (m3 + 1) (fun a => A2 a || a == n1) ∧ w2.os = w.os ∧ w2.tape = w.tape ∧ w2.output = w.output ∧ w.heap.size ≤ w2.heap.size ∧ ∀ g, g < w.heap.size → g ≠ hb1 → g ≠ ab2 → w2.heap[g]? = w.heap[g]? from
    ⟨hB1', hS2, hg2.os.trans hg1.os, hg2.tape.trans hg1.tape, hg2.output.trans hg1.output, Nat.le_trans hs1 hg2.size, fun g hg ha hb => (e2 g (Nat.lt_of_lt_of_le hg hs1) hb).trans (e1 g hg ha)⟩)
  have c1 := h1.c21
  have c2 := h2.c0
  have y1 := k1.c21
  have y2 := k2.c0
  have y3 := k2.c20
  have y4 := k1.c0
  have z3 := q2.c20
  have z4 := q1.c0
  clear h1 h2 hA1 hB1 hA2 hB2 hS1 hg1 k1 k2 hS2 hg2 e1 e2 q1 q2 hB1' hA1' hB2'
  obtain ⟨s1, hs1e⟩ : ∃ s1, stuckB st1 A1 (fun a => B1 a || a == n2) = s1 := ⟨_, rfl⟩
  obtain ⟨s2, hs2e⟩ : ∃ s2, stuckB st2 (fun a => A2 a || a == n1) B2 = s2 := ⟨_, rfl⟩
  rw [hs1e] at HC1
  rw [hs2e] at HC2
  rw [hs1e, hs2e]
  clear hs1e hs2e
  go_enter Tryz.func161, Tryz.ntmps161
  go_wp2
  go_region_held3 (fun W => W.cell? ⟨b1, 21, none⟩ = some (.map (some hb1)) ∧ W.cell? ⟨b2, 0, none⟩ = some (.int .i64 n2))
    (first
      | go_keep
      | exact ⟨y1, y2⟩
      | fail)
    (fail)
  go_wp2
  go_region_held3 (fun W => W.cell? ⟨b2, 20, none⟩ = some (.map (some ab2)) ∧ W.cell? ⟨b1, 0, none⟩ = some (.int .i64 n1))
    (first
      | go_keep
      | exact ⟨z3, z4⟩
      | fail)
    (fail)
  cases s1 with
  | true =>
    go_wp2_with fail
    refine HC1.out.mono ?_
    rintro e w3 ⟨rfl, hw3⟩
    rw [hw3]
    clear hw3 w3
    go_wp2
    go_ret
    exact ⟨rfl, HF.out⟩
  | false =>
    go_wp2_with fail
    refine HC1.out.mono ?_
    rintro e w3 ⟨rfl, hw3⟩
    rw [hw3]
    clear hw3 w3
    go_wp2_with fail
    refine HC2.out.mono ?_
    rintro e w3 ⟨rfl, hw3⟩
    rw [hw3]
    clear hw3 w3
    go_wp2
    go_ret
    exact ⟨by cases s2 <;> rfl, HF.out⟩

end Go.Proofs.YtjefgmeejhakbaaGreatDoor

/- How many entries a map of ints can have, by its keys. -/
namespace Go.Proofs.YtjefgmeejhakbaaGreatDoor
open Go.RowKit

theorem nodup_le {α : Type} : ∀ (l m : List α), l.Pairwise (fun a b => a ≠ b) → (∀ x ∈ l, x ∈ m) → l.length ≤ m.length
  | [], _, _, _ => by simp
  | a :: r, m, hp, hs => by
    obtain ⟨m1, m2, rfl⟩ := List.append_of_mem (hs a (List.mem_cons_self ..))
    have hp' := List.pairwise_cons.1 hp
    have := nodup_le r (m1 ++ m2) hp'.2 (fun x hx => by
      have h1 := hs x (List.mem_cons_of_mem _ hx)
      have h2 := hp'.1 x hx
      rw [List.mem_append, List.mem_cons] at h1
      rw [List.mem_append]
      rcases h1 with h | h | h
      · exact .inl h
      · exact (h2 h.symm).elim
      · exact .inr h)
    simp only [List.length_append, List.length_cons] at this ⊢
    omega

theorem IMap.tight {w : World} {b n : Nat} {f : Int → Option Value} (h : IMap w b n f) (sup : List Int) (hs : ∀ a, f a ≠ none → a ∈ sup) : IMap w b sup.length f := by
  obtain ⟨D, ⟨es, clock, hb, F, hz, rfl⟩, h2⟩ := h
  refine ⟨_, ⟨es, clock, hb, F, ?_, rfl⟩, h2⟩
  have hA := Maps.fit_apart lawI F
  have h3 := nodup_le ((es.toList.map (WideElems.rg Tryz.prog 3 anyElem)).map (fun p => p.1)) (sup.map (Lit.int .i64)) (by rw [List.pairwise_map]; exact hA) (fun x hx => by
    obtain ⟨p, hp, rfl⟩ := List.mem_map.1 hx
    obtain ⟨y, hy, rfl⟩ := List.mem_map.1 hp
    obtain ⟨v, hv⟩ := Maps.fit_keys F _ hp
    obtain ⟨a, _, hk, _⟩ := Maps.keyOf_int_inv Tryz.underlying3 hv
    rw [hk]
    refine List.mem_map.2 ⟨a, hs a (fun e => ?_), rfl⟩
    have h3 := (h2 a).1
    rw [e] at h3
    have h4 : Maps.has (DataW.map ((es.toList.map (WideElems.rg Tryz.prog 3 anyElem)).foldr DataW.insert [])) (.int .i64 a) = true := by
      rw [Maps.has_eq, List.any_eq_true]
      refine ⟨_, (WideShapes.sorted_perm _).mem_iff.2 hp, ?_⟩
      rw [hk]
      simp [Lit.sameKey]
    rw [h4] at h3
    cases h3)
  simpa using h3

def upTo (n : Nat) : List Int := (List.range n).map Int.ofNat
theorem mem_upTo {n : Nat} {a : Int} (h0 : 0 ≤ a) (h1 : a < n) : a ∈ upTo n := List.mem_map.2 ⟨a.toNat, by rw [List.mem_range]; omega, by simp; omega⟩
theorem upTo_length (n : Nat) : (upTo n).length = n := by simp [upTo]
theorem IMap.upTo {w : World} {b n : Nat} {f : Int → Option Value} (h : IMap w b n f) (m : Nat) (hs : ∀ a, f a ≠ none → 0 ≤ a ∧ a < m) : IMap w b m f := by
  have := h.tight (Go.Proofs.YtjefgmeejhakbaaGreatDoor.upTo m) (fun a ha => mem_upTo (hs a ha).1 (hs a ha).2)
  rwa [upTo_length] at this
theorem MapIs.upTo {w : World} {mv : Option Nat} {n : Nat} {f : Int → Option Value} (h : MapIs w mv n f) (m : Nat) (hs : ∀ a, f a ≠ none → 0 ≤ a ∧ a < m) : MapIs w mv m f := by
  rcases h with h | ⟨b, e, h⟩
  · exact .inl h
  · exact .inr ⟨b, e, h.upTo m hs⟩

end Go.Proofs.YtjefgmeejhakbaaGreatDoor

/- The engine: plain, and how it lies in memory. -/
namespace Go.Proofs.YtjefgmeejhakbaaGreatDoor
open Go.RowKit

structure Tx where
  level : Int
  start : Int
  state : Int
  why : Int
  bae : Int
  wk : Int
  wv : Int
  vals : Int → Option Int
  reads : List (Int × Int)
  seen : List Bool
  ahead : Int → Bool
  behind : Int → Bool
structure Eng where
  last : Int
  ks : List (List (Int × Int))
  T : Tab
  txs : List Tx
  wr : Int → Option Int
  com : List Nat
  nw : Nat
def Eng.setTx (E : Eng) (i : Nat) (t : Tx) : Eng := { E with txs := E.txs.set i t }

structure TxL where
  b : Nat
  vb : Nat
  rv : Value
  ab : Nat
  hb : Nat
def TxL.own (l : TxL) (g : Nat) : Prop := g = l.b ∨ g = l.vb ∨ g = l.ab ∨ g = l.hb ∨ l.rv.ownBlock = some g
structure EnL where
  s : Nat
  vs : List Value
  M : LkM
  av : Value
  wb : Nat
  cv : Value
  txs : List TxL
def EnL.setTx (L : EnL) (i : Nat) (l : TxL) : EnL := { L with txs := L.txs.set i l }
inductive Tag where
  | eng : Tag
  | srow : Tag
  | lock : Tag
  | all : Tag
  | wr : Tag
  | com : Tag
  | tx : Nat → Tag

def opsV : List (Int × Int × Bool × Int) → List Value
  | [] => []
  | o :: r => .int .i64 o.1 :: .int .i64 o.2.1 :: .bool o.2.2.1 :: .int .i64 o.2.2.2 :: opsV r
theorem opsV_append : ∀ l m, opsV (l ++ m) = opsV l ++ opsV m
  | [], _ => rfl
  | _ :: r, m => by simp [opsV, opsV_append r m]
theorem opsV_one : ∀ (l : List (Int × Int × Bool × Int)), ∀ u ∈ opsV l, u.oneCell' = true
  | [], u, h => by simp [opsV] at h
  | o :: r, u, h => by
    simp only [opsV, List.mem_cons] at h
    rcases h with rfl | rfl | rfl | rfl | h
    · rfl
    · rfl
    · rfl
    · rfl
    · exact opsV_one r u h
def readOps (n : Int) (l : List (Int × Int)) : List (Int × Int × Bool × Int) := l.map fun p => (n, p.1, false, p.2)

def txCells (n : Int) (l : TxL) (t : Tx) : Array Value :=
  (.int .i64 n :: .int .i64 t.level :: .int .i64 t.start :: .int .i64 t.state :: .int .i64 t.why :: .int .i64 t.bae :: .int .i64 t.wk :: .int .i64 t.wv :: .map (some l.vb) :: l.rv :: (t.seen.map Value.bool ++ [.map (some l.ab), .map (some l.hb)])).toArray

structure TxAt (w : World) (n : Int) (l : TxL) (t : Tx) : Prop where
  blk : w.heap[l.b]? = some (.cells (txCells n l t) 183 (0, 0))
  va : IMap w l.vb 10 (fun k => (t.vals k).map (Value.int .i64))
  rd : w.ownsRow 0 90 4 l.rv t.reads.length (opsV (readOps n t.reads))
  ah : ISet w l.ab 201 t.ahead
  be : ISet w l.hb 201 t.behind
  d1 : l.vb ≠ l.ab
  d2 : l.vb ≠ l.hb
  d3 : l.ab ≠ l.hb
  sl : t.seen.length = 10
  vk : ∀ k, t.vals k ≠ none → 0 ≤ k ∧ k < 10
  aN : ∀ x, t.ahead x = true → 1 ≤ x ∧ x ≤ 200
  bN : ∀ x, t.behind x = true → 1 ≤ x ∧ x ≤ 200
  wkr : 0 ≤ t.wk ∧ t.wk < 10

theorem owns_lt {w : World} {base sz : Nat} {T : TypeId} {v : Value} {n : Nat} {vs : List Value} (h : w.ownsRow base T sz v n vs) {g : Nat} (hg : v.ownBlock = some g) : g < w.heap.size := (h.lt g hg).2
theorem owns_typ {w : World} {base sz : Nat} {T : TypeId} {v : Value} {n : Nat} {vs : List Value} (h : w.ownsRow base T sz v n vs) {g : Nat} (hg : v.ownBlock = some g) : ∃ cur, w.heap[g]? = some (.cells cur T (0, 0)) := by
  rcases h.2 with ⟨e, _⟩ | ⟨g', cap, cur, e, _, hc, _⟩
  · rw [e] at hg; cases hg
  · rw [e] at hg; cases hg; exact ⟨cur, hc⟩

section
variable {w w' : World} {n : Int} {l : TxL} {t : Tx}
theorem TxAt.lt (h : TxAt w n l t) : l.b < w.heap.size := (Array.getElem?_eq_some_iff.1 h.blk).1
theorem TxAt.own_lt (h : TxAt w n l t) {g : Nat} (hg : l.own g) : g < w.heap.size := by
  rcases hg with rfl | rfl | rfl | rfl | hg
  · exact h.lt
  · exact h.va.lt
  · exact h.ah.lt
  · exact h.be.lt
  · exact owns_lt h.rd hg
theorem TxAt.same (h : TxAt w n l t) (hs : ∀ g, l.own g → w'.heap[g]? = w.heap[g]?) : TxAt w' n l t :=
  ⟨(hs _ (.inl rfl)).trans h.blk, h.va.same (hs _ (.inr (.inl rfl))), owns_same h.rd (fun g hg => hs g (.inr (.inr (.inr (.inr hg))))), h.ah.same (hs _ (.inr (.inr (.inl rfl)))), h.be.same (hs _ (.inr (.inr (.inr (.inl rfl))))), h.d1, h.d2, h.d3, h.sl, h.vk, h.aN, h.bN, h.wkr⟩
theorem TxAt.ne_va (h : TxAt w n l t) : l.b ≠ l.vb := (h.va.ne h.blk).symm
theorem TxAt.ne_ah (h : TxAt w n l t) : l.b ≠ l.ab := (IMap.ne h.ah h.blk).symm
theorem TxAt.ne_be (h : TxAt w n l t) : l.b ≠ l.hb := (IMap.ne h.be h.blk).symm
theorem TxAt.rd_ne (h : TxAt w n l t) {g : Nat} (hg : l.rv.ownBlock = some g) : g ≠ l.b ∧ g ≠ l.vb ∧ g ≠ l.ab ∧ g ≠ l.hb := by
  obtain ⟨cur, hc⟩ := owns_typ h.rd hg
  refine ⟨?_, (h.va.ne hc).symm, (IMap.ne h.ah hc).symm, (IMap.ne h.be hc).symm⟩
  rintro rfl
  rw [h.blk] at hc
  injection hc with hc
  injection hc with _ hc
  exact absurd hc (by decide)

theorem txCells_get (n : Int) (l : TxL) (t : Tx) : (txCells n l t)[0]? = some (.int .i64 n) ∧ (txCells n l t)[1]? = some (.int .i64 t.level) ∧ (txCells n l t)[2]? = some (.int .i64 t.start) ∧ (txCells n l t)[3]? = some (.int .i64 t.state) ∧ (txCells n l t)[4]? = some (.int .i64 t.why) ∧ (txCells n l t)[5]? = some (.int .i64 t.bae) ∧
    (txCells n l t)[6]? = some (.int .i64 t.wk) ∧ (txCells n l t)[7]? = some (.int .i64 t.wv) ∧ (txCells n l t)[8]? = some (.map (some l.vb)) ∧ (txCells n l t)[9]? = some l.rv := by
  unfold txCells; simp
theorem txCells_seen (n : Int) (l : TxL) (t : Tx) {k : Nat} {b : Bool} (h : t.seen[k]? = some b) : (txCells n l t)[10 + k]? = some (.bool b) := by
  have hk := (List.getElem?_eq_some_iff.1 h).1
  unfold txCells
  rw [List.getElem?_toArray, show 10 + k = k + 1 + 1 + 1 + 1 + 1 + 1 + 1 + 1 + 1 + 1 from by omega]
  simp only [List.getElem?_cons_succ]
  rw [List.getElem?_append_left (by simpa using hk)]
  simp [h]
theorem txCells_last (n : Int) (l : TxL) (t : Tx) (h : t.seen.length = 10) : (txCells n l t)[20]? = some (.map (some l.ab)) ∧ (txCells n l t)[21]? = some (.map (some l.hb)) := by
  unfold txCells
  simp [h]
theorem TxAt.c0 (h : TxAt w n l t) : w.cell? ⟨l.b, 0, none⟩ = some (.int .i64 n) := (cell_of_row w l.b 0 _ _ (0, 0) h.blk).trans (txCells_get n l t).1
theorem TxAt.c1 (h : TxAt w n l t) : w.cell? ⟨l.b, 1, none⟩ = some (.int .i64 t.level) := (cell_of_row w l.b 1 _ _ (0, 0) h.blk).trans (txCells_get n l t).2.1
theorem TxAt.c2 (h : TxAt w n l t) : w.cell? ⟨l.b, 2, none⟩ = some (.int .i64 t.start) := (cell_of_row w l.b 2 _ _ (0, 0) h.blk).trans (txCells_get n l t).2.2.1
theorem TxAt.c3 (h : TxAt w n l t) : w.cell? ⟨l.b, 3, none⟩ = some (.int .i64 t.state) := (cell_of_row w l.b 3 _ _ (0, 0) h.blk).trans (txCells_get n l t).2.2.2.1
theorem TxAt.c4 (h : TxAt w n l t) : w.cell? ⟨l.b, 4, none⟩ = some (.int .i64 t.why) := (cell_of_row w l.b 4 _ _ (0, 0) h.blk).trans (txCells_get n l t).2.2.2.2.1
theorem TxAt.c5 (h : TxAt w n l t) : w.cell? ⟨l.b, 5, none⟩ = some (.int .i64 t.bae) := (cell_of_row w l.b 5 _ _ (0, 0) h.blk).trans (txCells_get n l t).2.2.2.2.2.1
theorem TxAt.c6 (h : TxAt w n l t) : w.cell? ⟨l.b, 6, none⟩ = some (.int .i64 t.wk) := (cell_of_row w l.b 6 _ _ (0, 0) h.blk).trans (txCells_get n l t).2.2.2.2.2.2.1
theorem TxAt.c7 (h : TxAt w n l t) : w.cell? ⟨l.b, 7, none⟩ = some (.int .i64 t.wv) := (cell_of_row w l.b 7 _ _ (0, 0) h.blk).trans (txCells_get n l t).2.2.2.2.2.2.2.1
theorem TxAt.c8 (h : TxAt w n l t) : w.cell? ⟨l.b, 8, none⟩ = some (.map (some l.vb)) := (cell_of_row w l.b 8 _ _ (0, 0) h.blk).trans (txCells_get n l t).2.2.2.2.2.2.2.2.1
theorem TxAt.c9 (h : TxAt w n l t) : w.cell? ⟨l.b, 9, none⟩ = some l.rv := (cell_of_row w l.b 9 _ _ (0, 0) h.blk).trans (txCells_get n l t).2.2.2.2.2.2.2.2.2
theorem TxAt.cs (h : TxAt w n l t) {k : Nat} {b : Bool} (hk : t.seen[k]? = some b) : w.cell? ⟨l.b, 10 + k, none⟩ = some (.bool b) := (cell_of_row w l.b (10 + k) _ _ (0, 0) h.blk).trans (txCells_seen n l t hk)
theorem TxAt.c20 (h : TxAt w n l t) : w.cell? ⟨l.b, 20, none⟩ = some (.map (some l.ab)) := (cell_of_row w l.b 20 _ _ (0, 0) h.blk).trans (txCells_last n l t h.sl).1
theorem TxAt.c21 (h : TxAt w n l t) : w.cell? ⟨l.b, 21, none⟩ = some (.map (some l.hb)) := (cell_of_row w l.b 21 _ _ (0, 0) h.blk).trans (txCells_last n l t h.sl).2
theorem TxAt.txc (h : TxAt w n l t) : TxC w l.b n t.state l.ab l.hb := ⟨_, h.blk, (txCells_get n l t).1, (txCells_get n l t).2.2.2.1, (txCells_last n l t h.sl).1, (txCells_last n l t h.sl).2⟩
theorem TxAt.free (h : TxAt w n l t) (o : Nat) : w.frozen? ⟨l.b, o, none⟩ = false := by simp [World.frozen?, h.blk]
end

def EnL.P (L : EnL) : Tail := ⟨[.map L.M.mh, .map L.M.mw, .map L.M.ml, L.av, .map (some L.wb), L.cv], 162⟩
def EnL.C (L : EnL) (last : Int) : Emb := ⟨.int .i64 last :: L.vs, [L.av, .map (some L.wb), L.cv], 162, by decide⟩
theorem EnL.cells_eq (L : EnL) (last : Int) : L.P.cells last L.vs = (L.C last).cells (.map L.M.mh) (.map L.M.mw) (.map L.M.ml) := by
  simp [EnL.P, EnL.C, Tail.cells, Emb.cells]

def ptrV (b : Nat) : Value := .pointer (some ⟨b, 0, none⟩)
def EnL.bs (L : EnL) : List Nat := L.txs.map TxL.b
def EnL.own (L : EnL) (g : Nat) : Prop := g = L.s ∨ InRows L.vs g ∨ L.M.own L.s g ∨ L.av.ownBlock = some g ∨ g = L.wb ∨ L.cv.ownBlock = some g ∨ ∃ l ∈ L.txs, l.own g

structure Tagged (L : EnL) (ρ : Nat → Tag) : Prop where
  eng : ρ L.s = .eng
  srow : ∀ g, InRows L.vs g → ρ g = .srow
  lock : ∀ g, L.M.own L.s g → g ≠ L.s → ρ g = .lock
  all : ∀ g, L.av.ownBlock = some g → ρ g = .all
  wr : ρ L.wb = .wr
  com : ∀ g, L.cv.ownBlock = some g → ρ g = .com
  tx : ∀ i l g, L.txs[i]? = some l → l.own g → ρ g = .tx i

structure EnAt (w : World) (L : EnL) (E : Eng) : Prop where
  sto : Sto L.P w (L.s + 1) L.s E.last L.vs E.ks
  loc : TabAt (L.C E.last) w L.s 201 L.M E.T
  good : Good E.T
  mem : ∀ k x, x ∈ E.T k → 1 ≤ x ∧ x ≤ E.txs.length
  all : w.ownsRow 0 179 1 L.av L.txs.length (L.bs.map ptrV)
  len : L.txs.length = E.txs.length
  le : E.txs.length ≤ 200
  wr : IMap w L.wb E.nw (fun a => (E.wr a).map (Value.int .i64))
  com : w.ownsRow 0 179 1 L.cv E.com.length (E.com.map fun i => ptrV (L.bs[i]?.getD 0))
  coml : ∀ i ∈ E.com, i < E.txs.length
  txs : ∀ (i : Nat) (l : TxL) (t : Tx), L.txs[i]? = some l → E.txs[i]? = some t → TxAt w ((i : Int) + 1) l t
  tag : ∃ ρ, Tagged L ρ

section
variable {w w' : World} {L L' : EnL} {E E' : Eng}
theorem EnAt.lv (h : EnAt w L E) : L.vs.length = 10 := h.sto.lv
theorem EnAt.o (h : EnAt w L E) : (L.C E.last).o = 11 := by simp [EnL.C, Emb.o, h.lv]
theorem EnAt.get (h : EnAt w L E) {i : Nat} {t : Tx} (ht : E.txs[i]? = some t) : ∃ l, L.txs[i]? = some l ∧ TxAt w ((i : Int) + 1) l t := by
  have hi : i < L.txs.length := by have := (List.getElem?_eq_some_iff.1 ht).1; have := h.len; omega
  exact ⟨L.txs[i], List.getElem?_eq_getElem hi, h.txs i _ t (List.getElem?_eq_getElem hi) ht⟩
theorem EnAt.getL (h : EnAt w L E) {i : Nat} {l : TxL} (hl : L.txs[i]? = some l) : ∃ t, E.txs[i]? = some t ∧ TxAt w ((i : Int) + 1) l t := by
  have hi : i < E.txs.length := by have := (List.getElem?_eq_some_iff.1 hl).1; have := h.len; omega
  exact ⟨E.txs[i], List.getElem?_eq_getElem hi, h.txs i _ _ hl (List.getElem?_eq_getElem hi)⟩
theorem EnAt.own_lt (h : EnAt w L E) {g : Nat} (hg : L.own g) : g < w.heap.size := by
  rcases hg with rfl | hg | hg | hg | rfl | hg | ⟨l, hl, hg⟩
  · exact h.sto.lt
  · exact (h.sto.row hg).2
  · obtain ⟨_, _, _, r, _⟩ := h.loc
    exact r.own_lt hg
  · exact owns_lt h.all hg
  · exact h.wr.lt
  · exact owns_lt h.com hg
  · obtain ⟨i, hi, rfl⟩ := List.mem_iff_getElem.1 hl
    obtain ⟨t, _, hA⟩ := h.getL (List.getElem?_eq_getElem hi)
    exact hA.own_lt hg
theorem TxL.own_in {l : TxL} {i : Nat} (hl : L.txs[i]? = some l) {g : Nat} (hg : l.own g) : L.own g := .inr (.inr (.inr (.inr (.inr (.inr ⟨l, List.mem_of_getElem? hl, hg⟩)))))
theorem EnAt.same (h : EnAt w L E) (hs : ∀ g, L.own g → w'.heap[g]? = w.heap[g]?) : EnAt w' L E :=
  ⟨h.sto.kept (hs _ (.inl rfl)) (fun g hg => hs g (.inr (.inl hg))), h.loc.same (fun g hg => hs g (.inr (.inr (.inl hg)))), h.good, h.mem, owns_same h.all (fun g hg => hs g (.inr (.inr (.inr (.inl hg))))), h.len, h.le,
    h.wr.same (hs _ (.inr (.inr (.inr (.inr (.inl rfl)))))), owns_same h.com (fun g hg => hs g (.inr (.inr (.inr (.inr (.inr (.inl hg))))))), h.coml, fun i l t hl ht => (h.txs i l t hl ht).same (fun g hg => hs g (TxL.own_in hl hg)), h.tag⟩
theorem EnAt.below (h : EnAt w L E) (hB : Below w.heap.size w w') : EnAt w' L E := h.same (fun g hg => hB.block g (h.own_lt hg))
theorem EnAt.c14 (h : EnAt w L E) : w.cell? ⟨L.s, 14, none⟩ = some L.av := by
  refine (cell_of_row w L.s 14 _ _ (0, 0) h.sto.blk).trans ?_
  unfold Tail.cells EnL.P
  simp [h.lv]
theorem EnAt.c15 (h : EnAt w L E) : w.cell? ⟨L.s, 15, none⟩ = some (.map (some L.wb)) := by
  refine (cell_of_row w L.s 15 _ _ (0, 0) h.sto.blk).trans ?_
  unfold Tail.cells EnL.P
  simp [h.lv]
theorem EnAt.c16 (h : EnAt w L E) : w.cell? ⟨L.s, 16, none⟩ = some L.cv := by
  refine (cell_of_row w L.s 16 _ _ (0, 0) h.sto.blk).trans ?_
  unfold Tail.cells EnL.P
  simp [h.lv]
theorem bs_get {i : Nat} {l : TxL} (hl : L.txs[i]? = some l) : L.bs[i]? = some l.b := by simp [EnL.bs, hl]

theorem EnAt.apart (h : EnAt w L E) {i j : Nat} {l m : TxL} (hl : L.txs[i]? = some l) (hm : L.txs[j]? = some m) (hij : i ≠ j) {g : Nat} (hg : l.own g) : ¬ m.own g := fun hg' => by
  obtain ⟨ρ, T⟩ := h.tag
  have := (T.tx i l g hl hg).symm.trans (T.tx j m g hm hg')
  injection this with e
  exact hij e

theorem EnAt.turnTxs (h : EnAt w L E) (txs' : List Tx) (hlen : txs'.length = E.txs.length) (hA : ∀ (i : Nat) (l : TxL) (t : Tx), L.txs[i]? = some l → txs'[i]? = some t → TxAt w' ((i : Int) + 1) l t)
    (hs : ∀ g, L.own g → (∀ l ∈ L.txs, ¬ l.own g) → w'.heap[g]? = w.heap[g]?) : EnAt w' L { E with txs := txs' } := by
  obtain ⟨ρ, T⟩ := h.tag
  have hno : ∀ g, (∀ i, ρ g ≠ .tx i) → ∀ l ∈ L.txs, ¬ l.own g := fun g hg l hl ho => by
    obtain ⟨i, hi, rfl⟩ := List.mem_iff_getElem.1 hl
    exact hg i (T.tx i _ g (List.getElem?_eq_getElem hi) ho)
  have hk : ∀ g, L.own g → (∀ i, ρ g ≠ .tx i) → w'.heap[g]? = w.heap[g]? := fun g hg hn => hs g hg (hno g hn)
  exact ⟨h.sto.kept (hk _ (.inl rfl) (fun i e => by rw [T.eng] at e; cases e)) (fun g hg => hk g (.inr (.inl hg)) (fun i e => by rw [T.srow g hg] at e; cases e)),
    h.loc.same (fun g hg => hk g (.inr (.inr (.inl hg))) (fun i e => by
      by_cases hgs : g = L.s
      · rw [hgs, T.eng] at e; cases e
      · rw [T.lock g hg hgs] at e; cases e)), h.good, (by rw [hlen]; exact h.mem), owns_same h.all (fun g hg => hk g (.inr (.inr (.inr (.inl hg)))) (fun i e => by rw [T.all g hg] at e; cases e)), h.len.trans hlen.symm, (by rw [hlen]; exact h.le),
    h.wr.same (hk _ (.inr (.inr (.inr (.inr (.inl rfl))))) (fun i e => by rw [T.wr] at e; cases e)), owns_same h.com (fun g hg => hk g (.inr (.inr (.inr (.inr (.inr (.inl hg)))))) (fun i e => by rw [T.com g hg] at e; cases e)),
    (by rw [hlen]; exact h.coml), hA, ρ, T⟩

theorem own_setTx {i : Nat} {l' : TxL} {g : Nat} (h : (L.setTx i l').own g) : L.own g ∨ l'.own g := by
  rcases h with h | h | h | h | h | h | ⟨m, hm, h⟩
  · exact .inl (.inl h)
  · exact .inl (.inr (.inl h))
  · exact .inl (.inr (.inr (.inl h)))
  · exact .inl (.inr (.inr (.inr (.inl h))))
  · exact .inl (.inr (.inr (.inr (.inr (.inl h)))))
  · exact .inl (.inr (.inr (.inr (.inr (.inr (.inl h))))))
  · rcases List.mem_or_eq_of_mem_set hm with hm | rfl
    · exact .inl (.inr (.inr (.inr (.inr (.inr (.inr ⟨m, hm, h⟩))))))
    · exact .inr h
theorem bs_setTx {i : Nat} {l l' : TxL} (hl : L.txs[i]? = some l) (hb : l'.b = l.b) : (L.setTx i l').bs = L.bs := by
  unfold EnL.setTx EnL.bs
  rw [List.map_set, hb]
  refine List.ext_getElem? (fun j => ?_)
  rw [List.getElem?_set]
  split
  · rename_i e
    subst e
    have := (List.getElem?_eq_some_iff.1 hl).1
    rw [if_pos (by simpa using this)]
    simp [hl]
  · rfl

theorem EnAt.setTx (h : EnAt w L E) {i : Nat} {l l' : TxL} {t t' : Tx} (hl : L.txs[i]? = some l) (ht : E.txs[i]? = some t) (hb : l'.b = l.b) (hK : KeptO l.own l'.own w w') (hA : TxAt w' ((i : Int) + 1) l' t') :
    EnAt w' (L.setTx i l') (E.setTx i t') ∧ KeptO L.own (L.setTx i l').own w w' := by
  obtain ⟨ρ, T⟩ := h.tag
  have hi := (List.getElem?_eq_some_iff.1 hl).1
  have hi2 := (List.getElem?_eq_some_iff.1 ht).1
  have hA0 := h.txs i l t hl ht
  have hk : ∀ g, L.own g → ρ g ≠ .tx i → w'.heap[g]? = w.heap[g]? := fun g hg hn => hK.block g (h.own_lt hg) (fun ho => hn (T.tx i l g hl ho))
  have hbs := bs_setTx hl hb
  refine ⟨⟨h.sto.kept (hk _ (.inl rfl) (fun e => by rw [T.eng] at e; cases e)) (fun g hg => hk g (.inr (.inl hg)) (fun e => by rw [T.srow g hg] at e; cases e)),
    h.loc.same (fun g hg => hk g (.inr (.inr (.inl hg))) (fun e => by
      by_cases hgs : g = L.s
      · rw [hgs, T.eng] at e; cases e
      · rw [T.lock g hg hgs] at e; cases e)), h.good, (by simpa [Eng.setTx] using h.mem), ?_, (by simpa [Eng.setTx, EnL.setTx] using h.len), (by simpa [Eng.setTx] using h.le),
    h.wr.same (hk _ (.inr (.inr (.inr (.inr (.inl rfl))))) (fun e => by rw [T.wr] at e; cases e)), ?_, (by simpa [Eng.setTx] using h.coml), ?_, fun g => if g < w.heap.size then ρ g else .tx i, ?_⟩, ?_⟩
  · rw [hbs]
    have : (L.setTx i l').txs.length = L.txs.length := by simp [EnL.setTx]
    rw [this]
    exact owns_same h.all (fun g hg => hk g (.inr (.inr (.inr (.inl hg)))) (fun e => by rw [T.all g hg] at e; cases e))
  · rw [hbs]
    exact owns_same h.com (fun g hg => hk g (.inr (.inr (.inr (.inr (.inr (.inl hg)))))) (fun e => by rw [T.com g hg] at e; cases e))
  · intro j m u hm hu
    simp only [EnL.setTx, Eng.setTx, List.getElem?_set] at hm hu
    by_cases hij : i = j
    · subst hij
      rw [if_pos rfl, if_pos hi] at hm
      rw [if_pos rfl, if_pos hi2] at hu
      cases hm
      cases hu
      exact hA
    · rw [if_neg hij] at hm hu
      exact (h.txs j m u hm hu).same (fun g hg => hk g (TxL.own_in hm hg) (fun e => by rw [T.tx j m g hm hg] at e; injection e with e; exact hij e.symm))
  · have hlt : ∀ g, L.own g → (if g < w.heap.size then ρ g else Tag.tx i) = ρ g := fun g hg => if_pos (h.own_lt hg)
    refine ⟨(hlt _ (.inl rfl)).trans T.eng, fun g hg => (hlt g (.inr (.inl hg))).trans (T.srow g hg), fun g hg hn => (hlt g (.inr (.inr (.inl hg)))).trans (T.lock g hg hn), fun g hg => (hlt g (.inr (.inr (.inr (.inl hg))))).trans (T.all g hg), (hlt _ (.inr (.inr (.inr (.inr (.inl rfl)))))).trans T.wr,
      fun g hg => (hlt g (.inr (.inr (.inr (.inr (.inr (.inl hg))))))).trans (T.com g hg), fun j m g hm hg => ?_⟩
    simp only [EnL.setTx, List.getElem?_set] at hm
    by_cases hij : i = j
    · subst hij
      rw [if_pos rfl, if_pos hi] at hm
      cases hm
      rcases hK.sub g hg with ho | hn
      · exact (hlt g (TxL.own_in hl ho)).trans (T.tx i l g hl ho)
      · simp only [if_neg (Nat.not_lt.2 hn)]
    · rw [if_neg hij] at hm
      exact (hlt g (TxL.own_in hm hg)).trans (T.tx j m g hm hg)
  · refine ⟨hK.os, hK.tape, hK.output, hK.size, fun g hg hn => hK.block g hg (fun ho => hn (TxL.own_in hl ho)), fun g hg => ?_⟩
    rcases own_setTx hg with h1 | h1
    · exact .inl h1
    · rcases hK.sub g h1 with h2 | h2
      · exact .inl (TxL.own_in hl h2)
      · exact .inr h2
end

end Go.Proofs.YtjefgmeejhakbaaGreatDoor

/- keep.pick. -/
namespace Go.Proofs.YtjefgmeejhakbaaGreatDoor
open Go.RowKit

def pickP (a n : Int) : Int := wrap64 ((IntKind.u64.wrap a).tmod n)
theorem pickP_in (a n : Int) (h1 : 1 ≤ n) (h2 : n ≤ 1000) : 0 ≤ pickP a n ∧ pickP a n < n := by
  have hu : 0 ≤ IntKind.u64.wrap a := by
    simp only [IntKind.wrap, IntKind.signed, Bool.false_and, Bool.false_eq_true, if_false]
    exact Int.emod_nonneg _ (by simp [IntKind.bits])
  have hm0 : 0 ≤ (IntKind.u64.wrap a).tmod n := Int.tmod_nonneg _ hu
  have hm1 : (IntKind.u64.wrap a).tmod n < n := Int.tmod_lt_of_pos _ (by omega)
  unfold pickP
  rw [IntWalk.wrap64_in _ (by omega)]
  exact ⟨hm0, hm1⟩
set_option maxHeartbeats 400000 in
theorem pick_eq (a n : Int) (w : World) (h1 : 1 ≤ n) (h2 : n ≤ 1000) :
    Calls Tryz.prog 35 #[.int .i64 a, .int .i64 n] w fun e w' => e = .returned (.int .i64 (pickP a n)) ∧ w' = w := by
  go_enter Tryz.func35, Tryz.ntmps35
  go_wp2
  go_ret
  exact ⟨rfl, rfl⟩

end Go.Proofs.YtjefgmeejhakbaaGreatDoor

/- Plain: a heap of numbers: a hole goes up, a hole goes down, the root is the least. -/
namespace Go.Proofs.YtjefgmeejhakbaaGreatDoor
open Go.Sort

def HeapP (d : Array Int) (n : Nat) : Prop := ∀ k, 0 < k → k < n → d[(k - 1) / 2]! ≤ d[k]!
def UpHole (d : Array Int) (n j : Nat) : Prop := (∀ k, 0 < k → k < n → k ≠ j → d[(k - 1) / 2]! ≤ d[k]!) ∧ (0 < j → ∀ k, 0 < k → k < n → (k - 1) / 2 = j → d[(j - 1) / 2]! ≤ d[k]!)
def DownHole (d : Array Int) (n i : Nat) : Prop := (∀ k, 0 < k → k < n → (k - 1) / 2 ≠ i → d[(k - 1) / 2]! ≤ d[k]!) ∧ (0 < i → ∀ k, 0 < k → k < n → (k - 1) / 2 = i → d[(i - 1) / 2]! ≤ d[k]!)

theorem up_zero {d : Array Int} {n : Nat} (h : UpHole d n 0) : HeapP d n := fun k h1 h2 => h.1 k h1 h2 (by omega)
theorem up_stop {d : Array Int} {n j : Nat} (h : UpHole d n j) (hj : d[(j - 1) / 2]! ≤ d[j]!) : HeapP d n := fun k h1 h2 => by
  by_cases e : k = j
  · subst e; exact hj
  · exact h.1 k h1 h2 e
theorem up_step {d : Array Int} {n j : Nat} (h : UpHole d n j) (hj0 : 0 < j) (hjn : j < n) (hn : n ≤ d.size) (hlt : d[j]! < d[(j - 1) / 2]!) : UpHole (swp d ((j - 1) / 2) j) n ((j - 1) / 2) := by
  have gI : (swp d ((j - 1) / 2) j)[(j - 1) / 2]! = d[j]! := swp_left d _ _ (by omega) (by omega)
  have gJ : (swp d ((j - 1) / 2) j)[j]! = d[(j - 1) / 2]! := swp_right d _ _ (by omega)
  have gO : ∀ k, k ≠ (j - 1) / 2 → k ≠ j → (swp d ((j - 1) / 2) j)[k]! = d[k]! := fun k h1 h2 => swp_other d _ _ _ h1 h2
  refine ⟨fun k hk0 hkn hki => ?_, fun hi0 k hk0 hkn hki => ?_⟩
  · by_cases ekj : k = j
    · subst ekj; rw [gI, gJ]; omega
    · rw [gO k hki ekj]
      by_cases e1 : (k - 1) / 2 = (j - 1) / 2
      · rw [e1, gI]
        have := h.1 k hk0 hkn ekj
        rw [e1] at this
        omega
      · by_cases e2 : (k - 1) / 2 = j
        · rw [e2, gJ]; exact h.2 hj0 k hk0 hkn e2
        · rw [gO _ e1 e2]; exact h.1 k hk0 hkn ekj
  · rw [gO _ (by omega) (by omega)]
    have h3 := h.1 ((j - 1) / 2) hi0 (by omega) (by omega)
    by_cases ekj : k = j
    · subst ekj; rw [gJ]; exact h3
    · rw [gO k (by omega) ekj]
      have := h.1 k hk0 hkn ekj
      rw [hki] at this
      omega
theorem down_stop {d : Array Int} {n i : Nat} (h : DownHole d n i) (hi : ∀ k, 0 < k → k < n → (k - 1) / 2 = i → d[i]! ≤ d[k]!) : HeapP d n := fun k h1 h2 => by
  by_cases e : (k - 1) / 2 = i
  · rw [e]; exact hi k h1 h2 e
  · exact h.1 k h1 h2 e
theorem down_step {d : Array Int} {n i c : Nat} (h : DownHole d n i) (hc0 : 0 < c) (hcn : c < n) (hci : (c - 1) / 2 = i) (hn : n ≤ d.size) (hlt : d[c]! < d[i]!) (hdom : ∀ k, 0 < k → k < n → (k - 1) / 2 = i → d[c]! ≤ d[k]!) : DownHole (swp d i c) n c := by
  have gI : (swp d i c)[i]! = d[c]! := swp_left d _ _ (by omega) (by omega)
  have gC : (swp d i c)[c]! = d[i]! := swp_right d _ _ (by omega)
  have gO : ∀ k, k ≠ i → k ≠ c → (swp d i c)[k]! = d[k]! := fun k h1 h2 => swp_other d _ _ _ h1 h2
  refine ⟨fun k hk0 hkn hkc => ?_, fun _ k hk0 hkn hkc => ?_⟩
  · by_cases eki : k = i
    · subst eki
      rw [gI, gO _ (by omega) (by omega)]
      exact h.2 hk0 c hc0 hcn hci
    · by_cases ekc : k = c
      · subst ekc; rw [hci, gI, gC]; omega
      · rw [gO k eki ekc]
        by_cases e : (k - 1) / 2 = i
        · rw [e, gI]; exact hdom k hk0 hkn e
        · rw [gO _ e hkc]; exact h.1 k hk0 hkn e
  · rw [hci, gI, gO k (by omega) (by omega)]
    have := h.1 k hk0 hkn (by omega)
    rw [hkc] at this
    exact this
theorem heap_root {d : Array Int} {n : Nat} (h : HeapP d n) : ∀ m k, k ≤ m → k < n → d[0]! ≤ d[k]!
  | 0, k, hk, _ => by rw [show k = 0 by omega]; exact Int.le_refl _
  | m + 1, k, hk, hn => by
    by_cases e : k = 0
    · rw [e]; exact Int.le_refl _
    · exact Int.le_trans (heap_root h m ((k - 1) / 2) (by omega) (by omega)) (h k (by omega) hn)
theorem down_start {d : Array Int} {n : Nat} (h : HeapP d (n + 1)) : DownHole (swp d 0 n) n 0 := by
  have gO : ∀ k, k ≠ 0 → k ≠ n → (swp d 0 n)[k]! = d[k]! := fun k h1 h2 => swp_other d _ _ _ h1 h2
  refine ⟨fun k hk0 hkn hk => ?_, fun h0 => absurd h0 (by omega)⟩
  rw [gO k (by omega) (by omega), gO _ hk (by omega)]
  exact h k hk0 (by omega)
theorem up_start {d : Array Int} (h : HeapP d d.size) (x : Int) : UpHole (d.push x) (d.size + 1) d.size := by
  have gO : ∀ k, k < d.size → (d.push x)[k]! = d[k]! := fun k hk => by
    simp [getElem!_def, Array.getElem?_push, show k ≠ d.size by omega]
  refine ⟨fun k hk0 hkn hk => ?_, fun _ k _ hkn hk => by omega⟩
  rw [gO k (by omega), gO _ (by omega)]
  exact h k hk0 (by omega)
theorem swp_perm (d : Array Int) (i j : Nat) (hi : i < d.size) (hj : j < d.size) : (swp d i j).toList.Perm d.toList := by
  have h := (swp_permIn d 0 d.size i j (Nat.zero_le _) hi (Nat.zero_le _) hj (Nat.le_refl _)).2.2
  have e := size_swp d i j
  rw [Array.extract_size] at h
  have h2 : (swp d i j).extract 0 d.size = swp d i j := by rw [← e, Array.extract_size]
  rwa [h2] at h
theorem swp_list (d : Array Int) (i j : Nat) : (swp d i j).toList = (d.toList.set i d[j]!).set j d[i]! := by simp [swp]
theorem rising_heap {d : Array Int} (h : d.toList.Pairwise (· ≤ ·)) : HeapP d d.size := fun k h0 h1 => by
  have := List.pairwise_iff_getElem.1 h ((k - 1) / 2) k (by simp; omega) (by simpa using h1) (by omega)
  have e1 : d[(k - 1) / 2]! = d.toList[(k - 1) / 2]'(by simp; omega) := by simp [getElem!_pos, show (k - 1) / 2 < d.size by omega]
  have e2 : d[k]! = d.toList[k]'(by simpa using h1) := by simp [getElem!_pos, h1]
  rw [e1, e2]; exact this

end Go.Proofs.YtjefgmeejhakbaaGreatDoor
