/- append at a step of a region that draws: one's own row of numbers, and a source that may be nothing. -/
import Derived.Test.YtjefgmeejhakbaaDoorSameW
import Derived.Deep.RegionHeld3
import Derived.Deep.AppendLies
import Derived.Laws.AppendOwnNone
import Derived.ArgAppend
namespace Go.Proofs.YtjefgmeejhakbaaDoor
open Go.RowKit

/-- A source: nothing, or numbers that lie somewhere. -/
def SrcAt (w : World) (sv : Value) (q : List Int) : Prop :=
  (sv = .slice none 0 0 ∧ q = []) ∨ ∃ ad c, sv = .slice (some ad) q.length c ∧ ∀ (j : Nat) (u : Value), (intsV q)[j]? = some u → w.cell? (ad.add j) = some u
theorem SrcAt.of_row {w : World} {N : Nat} {v : Value} {l : List Int} (h : w.ownsRow N 3 1 v l.length (intsV l)) : SrcAt w v l := by
  rcases row_slice h with ⟨e, e0⟩ | ⟨g, c, e, hg, hc⟩
  · have : l = [] := List.eq_nil_of_length_eq_zero e0
    subst this
    exact .inl ⟨e, rfl⟩
  · exact .inr ⟨_, c, e, fun j u hu => by rw [addr_add]; exact hc j u hu⟩
theorem SrcAt.of_block {w : World} {b c : Nat} {x : Int} (h : w.heap[b]? = some (.cells #[.int .i64 x] 3 (0, 0))) : SrcAt w (.slice (some ⟨b, 0, none⟩) 1 c) [x] :=
  .inr ⟨⟨b, 0, none⟩, c, rfl, World.news_of_block (cs := #[.int .i64 x]) h⟩
theorem empty_row {w : World} {N b : Nat} (h : w.heap[b]? = some (.cells #[] 3 (0, 0))) (hN : N ≤ b) : w.ownsRow N 3 1 (.slice (some ⟨b, 0, none⟩) 0 0) 0 (intsV []) :=
  ⟨by simp [intsV], .inr ⟨b, 0, #[], rfl, hN, h, Nat.le_refl _, by simp [maxLen], rfl, by simp [intsV]⟩⟩

set_option maxRecDepth 100000 in
theorem step_app {w : World} {ops : Array Oper} {o : Oper} {a : Act} {K : Act → World → Prop} {Q : Exit → Act → World → Prop} {E : Prop} (hgd : o.guard = none) (s x : Operand)
    (ho : o.op = .call { callee := .builtin .append, args := #[s, x], argTypes := #[49, 49] })
    (N g0 c0 n : Nat) (p q : List Int) (sv : Value) (hs : a.eval s = .slice (some ⟨g0, 0, none⟩) n c0) (hx : a.eval x = sv) (hpn : p.length = n) (hown : w.ownsRow N 3 1 (.slice (some ⟨g0, 0, none⟩) p.length c0) p.length (intsV p))
    (hl : SrcAt w sv q) (hn : p.length + q.length ≤ 1000) (hN : N ≤ w.heap.size)
    (h : ∀ g cap w', w'.ownsRow N 3 1 (.slice (some ⟨g, 0, none⟩) (p.length + q.length) cap) (p ++ q).length (intsV (p ++ q)) → w.grownBy w' (some g0) → (g = g0 ∨ g = w.heap.size) → K (a.put o.dst (.slice (some ⟨g, 0, none⟩) (p.length + q.length) cap)) w') :
    if Region.wanted o (yielded ops a.tmps) = true then Oper.wp Tryd.prog o a w K Q else E := by
  subst hpn
  obtain ⟨i0, hi0, hz0, hz1, hz2⟩ := info_parts info3
  have hw : Region.wanted o (yielded ops a.tmps) = true := by simp [Region.wanted, hgd]
  have hrefl : w.grownBy w (some g0) := ⟨rfl, rfl, rfl, Nat.le_refl _, fun _ _ _ => rfl⟩
  rcases hl with ⟨rfl, rfl⟩ | ⟨ad, c, rfl, hc⟩
  · rw [if_pos hw]
    have hrun := run_append_owned_none (P := Tryd.prog) (w := w) N 49 o.type 3 i0 1 Tryd.underlying49 hi0 _ _ _ hown
    have hK := h g0 c0 w (by simpa using hown) hrefl (.inl rfl)
    simp only [List.length_nil, Nat.add_zero] at hK
    unfold Oper.wp
    simp [execOp, ho, resolve, invoke, builtin, hs, hx, hrun, Result.andThen]
    exact hK
  · by_cases hq : q = []
    · subst hq
      rw [if_pos hw]
      have hcap : p.length ≤ c0 := by
        rcases hown.2 with ⟨e, _⟩ | ⟨g, cap, cur, e, _, _, hle, _⟩
        · cases e
        · cases e; exact hle
      have hrun := run_append_room_cells (P := Tryd.prog) w 49 o.type 3 i0 Tryd.underlying49 hi0 g0 0 p.length c0 ad 0 c [] (by simp) (fun j u hu => by simp at hu) (fun u hu => by simp at hu) (by omega) (fun j hj => by simp at hj) (fun j hj => by simp at hj)
      have hK := h g0 c0 w (by simpa using hown) hrefl (.inl rfl)
      simp only [List.length_nil, Nat.add_zero] at hK
      unfold Oper.wp
      simp [execOp, ho, resolve, invoke, builtin, hs, hx, hrun, Result.andThen, World.setCells]
      exact hK
    · refine step_append_lies w hgd s x _ ho N 3 i0 _ 1 8 Tryd.underlying49 hi0 hz0 hz1 hz2 rfl (by omega) _ p.length (intsV p) hs hown ad q.length c (intsV q) hx (by rw [intsV_length]; omega) hc (intsV_one q) (List.length_pos_iff.2 hq) (by unfold maxLen; omega) (by omega) hN w.heap.size rfl ?_
      intro g cap w' h1 h2 h3 h4
      refine h g cap w' (by rw [List.length_append, intsV_append]; exact h1) h2 ?_
      rcases h3 with h3 | h3
      · exact .inl (by injection h3 with h3; exact h3.symm)
      · exact .inr h3

/-- A row that holds something is no empty block. -/
theorem row_ne_empty {W : World} {N g n c b : Nat} {l : List Int} (h : W.ownsRow N 3 1 (.slice (some ⟨g, 0, none⟩) n c) l.length (intsV l)) (hl : l ≠ []) (hb : W.heap[b]? = some (.cells #[] 3 (0, 0))) : g ≠ b := by
  rintro rfl
  rcases h.2 with ⟨e, _⟩ | ⟨g', cap, cur, e, _, hc, hle, _, hs, _⟩
  · cases e
  · cases e
    rw [hb] at hc
    simp at hc
    subst hc
    have := List.length_pos_iff.2 hl
    simp at hs
    omega
/-- A row's block. -/
theorem row_lt {W : World} {N g n c m : Nat} {xs : List Value} (h : W.ownsRow N 3 1 (.slice (some ⟨g, 0, none⟩) n c) m xs) : N ≤ g ∧ g < W.heap.size := h.lt g rfl

set_option maxRecDepth 100000 in
/-- append at a fresh block: another row lies as it lay. -/
theorem step_app0 {w : World} {ops : Array Oper} {o : Oper} {a : Act} {K : Act → World → Prop} {Q : Exit → Act → World → Prop} {E : Prop} (hgd : o.guard = none) (s x : Operand)
    (ho : o.op = .call { callee := .builtin .append, args := #[s, x], argTypes := #[49, 49] })
    (N b g2 c2 n2 : Nat) (q l2 : List Int) (sv : Value) (hs : a.eval s = .slice (some ⟨b, 0, none⟩) 0 0) (hx : a.eval x = sv) (hb : w.heap[b]? = some (.cells #[] 3 (0, 0))) (hNb : N ≤ b)
    (hrow : w.ownsRow N 3 1 (.slice (some ⟨g2, 0, none⟩) n2 c2) l2.length (intsV l2)) (hl2 : l2 ≠ []) (hl : SrcAt w sv q) (hn : q.length ≤ 1000) (hN : N ≤ w.heap.size)
    (h : ∀ g cap w', w'.ownsRow N 3 1 (.slice (some ⟨g, 0, none⟩) q.length cap) q.length (intsV q) → w'.ownsRow N 3 1 (.slice (some ⟨g2, 0, none⟩) n2 c2) l2.length (intsV l2) → w.grownBy w' (some b) → g ≠ g2 → K (a.put o.dst (.slice (some ⟨g, 0, none⟩) q.length cap)) w') :
    if Region.wanted o (yielded ops a.tmps) = true then Oper.wp Tryd.prog o a w K Q else E := by
  have hne := row_ne_empty hrow hl2 hb
  refine step_app hgd s x ho N b 0 0 [] q sv hs hx rfl (empty_row hb hNb) hl (by simpa using hn) hN ?_
  intro g cap w' h1 h2 h3
  simp only [List.nil_append, List.length_nil, Nat.zero_add] at h1 ⊢
  refine h g cap w' h1 (owns_same hrow (fun g' e => h2.block g' (hrow.lt g' e).2 (fun e2 => by cases e; injection e2 with e2; exact hne e2))) h2 ?_
  rcases h3 with rfl | rfl
  · exact fun e => hne e.symm
  · have := (row_lt hrow).2
    omega
set_option maxRecDepth 100000 in
/-- append at a row: another row lies as it lay. -/
theorem step_app1 {w : World} {ops : Array Oper} {o : Oper} {a : Act} {K : Act → World → Prop} {Q : Exit → Act → World → Prop} {E : Prop} (hgd : o.guard = none) (s x : Operand)
    (ho : o.op = .call { callee := .builtin .append, args := #[s, x], argTypes := #[49, 49] })
    (N g0 c0 n g2 c2 n2 : Nat) (p q l2 : List Int) (sv : Value) (hs : a.eval s = .slice (some ⟨g0, 0, none⟩) n c0) (hx : a.eval x = sv) (hpn : p.length = n) (hown : w.ownsRow N 3 1 (.slice (some ⟨g0, 0, none⟩) p.length c0) p.length (intsV p))
    (hrow : w.ownsRow N 3 1 (.slice (some ⟨g2, 0, none⟩) n2 c2) l2.length (intsV l2)) (hne : g0 ≠ g2) (hl : SrcAt w sv q) (hn : p.length + q.length ≤ 1000) (hN : N ≤ w.heap.size)
    (h : ∀ g cap w', w'.ownsRow N 3 1 (.slice (some ⟨g, 0, none⟩) (p.length + q.length) cap) (p ++ q).length (intsV (p ++ q)) → w'.ownsRow N 3 1 (.slice (some ⟨g2, 0, none⟩) n2 c2) l2.length (intsV l2) → w.grownBy w' (some g0) → K (a.put o.dst (.slice (some ⟨g, 0, none⟩) (p.length + q.length) cap)) w') :
    if Region.wanted o (yielded ops a.tmps) = true then Oper.wp Tryd.prog o a w K Q else E := by
  refine step_app hgd s x ho N g0 c0 n p q sv hs hx hpn hown hl hn hN ?_
  intro g cap w' h1 h2 h3
  exact h g cap w' h1 (owns_same hrow (fun g' e => h2.block g' (hrow.lt g' e).2 (fun e2 => by cases e; injection e2 with e2; exact hne e2.symm))) h2

/-- What was there is there, behind what was made. -/
theorem bA {w W : World} (h : Below w.heap.size w W) (o : Obj) : Below w.heap.size w (W.alloc o) := h.alloc h.size o
theorem bD {w W : World} (h : Below w.heap.size w W) : Below w.heap.size w W.drew := h.drew
theorem heap_at {W : World} {cs : Array Value} {t : TypeId} {b : Nat} (hb : b = W.heap.size) : (W.alloc (.cells cs t)).heap[b]? = some (.cells cs t (0, 0)) := by subst hb; exact heap_alloc_new W _
theorem heap_old {W : World} {o : Obj} {b : Nat} {r : Option Obj} (h : W.heap[b]? = r) (hlt : b < W.heap.size) : (W.alloc o).heap[b]? = r := (Below.heap_alloc W o b hlt).trans h
theorem heap_dr {W : World} {b : Nat} {r : Option Obj} (h : W.heap[b]? = r) : W.drew.heap[b]? = r := h
theorem rA {w : World} {N : Nat} {v : Value} {n : Nat} {xs : List Value} (h : w.ownsRow N 3 1 v n xs) (o : Obj) : (w.alloc o).ownsRow N 3 1 v n xs := h.alloc o
theorem rD {w : World} {N : Nat} {v : Value} {n : Nat} {xs : List Value} (h : w.ownsRow N 3 1 v n xs) : w.drew.ownsRow N 3 1 v n xs := h

end Go.Proofs.YtjefgmeejhakbaaDoor
