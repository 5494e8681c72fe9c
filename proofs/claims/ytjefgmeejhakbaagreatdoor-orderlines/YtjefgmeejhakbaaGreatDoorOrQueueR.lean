/- The queue and its methods. -/
import Derived.Test.YtjefgmeejhakbaaGreatDoorKeptR
import Derived.Test.YtjefgmeejhakbaaGreatDoorOrHeapR
namespace Go.Proofs.YtjefgmeejhakbaaGreatDoor
open Go.RowKit
open Go.Sort (swp swp_left swp_right swp_other size_swp)
structure QAt (w : World) (Q : Nat) (v : Value) (d : Array Int) : Prop where
  blk : w.heap[Q]? = some (.cells #[v] 144 (0, 0))
  row : w.ownsRow 0 3 1 v d.size (intsV d.toList)
  ne : v.ownBlock ≠ some Q
def qOwn (Q : Nat) (v : Value) (b : Nat) : Prop := b = Q ∨ v.ownBlock = some b
section
variable {w w' : World} {Q : Nat} {v : Value} {d : Array Int}
theorem QAt.lt (h : QAt w Q v d) : Q < w.heap.size := (Array.getElem?_eq_some_iff.1 h.blk).1
theorem QAt.cell (h : QAt w Q v d) : w.cell? ⟨Q, 0, none⟩ = some v := (cell_of_row w Q 0 _ 144 (0, 0) h.blk).trans rfl
theorem QAt.free (h : QAt w Q v d) : w.frozen? ⟨Q, 0, none⟩ = false := by simp [World.frozen?, h.blk]
theorem QAt.same (h : QAt w Q v d) (hs : ∀ b, qOwn Q v b → w'.heap[b]? = w.heap[b]?) : QAt w' Q v d :=
  ⟨(hs Q (.inl rfl)).trans h.blk, owns_same h.row (fun g e => hs g (.inr e)), h.ne⟩
theorem QAt.own_lt (h : QAt w Q v d) {b : Nat} (hb : qOwn Q v b) : b < w.heap.size := by
  rcases hb with rfl | e
  · exact h.lt
  · exact (h.row.lt b e).2
theorem QAt.below (h : QAt w Q v d) (hB : Below w.heap.size w w') : QAt w' Q v d := h.same (fun b hb => hB.block b (h.own_lt hb))
theorem QAt.rowAt (h : QAt w Q v d) (hd : 0 < d.size) : ∃ g cap, v = .slice (some ⟨g, 0, none⟩) d.size cap ∧ g < w.heap.size ∧ (∀ j, w.frozen? ⟨g, j, none⟩ = false) ∧ ∀ j, j < d.size → w.cell? ⟨g, j, none⟩ = some (.int .i64 d[j]!) := by
  rcases h.row.2 with ⟨e, e0⟩ | ⟨g, cap, cur, e, hb, hg, _⟩
  · omega
  · refine ⟨g, cap, e, (Array.getElem?_eq_some_iff.1 hg).1, fun j => by simp [World.frozen?, hg], fun j hj => ?_⟩
    have := h.row.cells (g := g) (by rw [e]; rfl) j (.int .i64 d[j]!) (intsV_get (by simp [hj]))
    rwa [addr_add] at this
theorem QAt.form (h : QAt w Q v d) : ∃ ad cap, v = .slice ad d.size cap := row_form h.row
end
set_option maxRecDepth 10000 in
theorem mVal (name : String) (f : Nat) (hn : ((Tryz.prog.info? 148).bind (fun i => i.methods.find? (·.name == name))).map (fun m => (m.path, m.func)) = some (#[], some (f, false))) (Q : Nat) (v : Value) (w : World) (hc : w.cell? ⟨Q, 0, none⟩ = some v) :
    (method 464 148 (.pointer (some ⟨Q, 0, none⟩)) name).run Tryz.prog w = .ok (f, v) w := by
  have h2 : ∀ s w, (receiverAt 148 (.val (.pointer (some ⟨Q, 0, none⟩))) false (some s)).run Tryz.prog w = (loadVar 144 ⟨Q, 0, none⟩).run Tryz.prog w := fun s w => by kernel_rfl
  have h3 : ∀ w, (isAgg 144).run Tryz.prog w = .ok false w := fun w => by kernel_rfl
  have h4 : ∀ w, (loadVar 144 ⟨Q, 0, none⟩).run Tryz.prog w = (Go.load ⟨Q, 0, none⟩).run Tryz.prog w := fun w => by simp [loadVar, h3]
  obtain ⟨i, hi⟩ : ∃ i, Tryz.prog.info? 148 = some i := by
    cases h : Tryz.prog.info? 148 with
    | none => rw [h] at hn; simp at hn
    | some i => exact ⟨i, rfl⟩
  rw [hi] at hn
  simp only [Option.bind_some, Option.map_eq_some_iff, Prod.mk.injEq] at hn
  obtain ⟨m, hm, hp, hf⟩ := hn
  rw [show (464 : Nat) = 463 + 1 from rfl, method]
  simp [typeInfo, hi, hm, hp, hf, follow, h2, h4, hc]
set_option maxRecDepth 10000 in
theorem mPtr (name : String) (f : Nat) (hn : ((Tryz.prog.info? 148).bind (fun i => i.methods.find? (·.name == name))).map (fun m => (m.path, m.func)) = some (#[], some (f, true))) (Q : Nat) (w : World) :
    (method 464 148 (.pointer (some ⟨Q, 0, none⟩)) name).run Tryz.prog w = .ok (f, .pointer (some ⟨Q, 0, none⟩)) w := by
  have h2 : ∀ s w, (receiverAt 148 (.val (.pointer (some ⟨Q, 0, none⟩))) true (some s)).run Tryz.prog w = .ok (.pointer (some ⟨Q, 0, none⟩)) w := fun s w => by kernel_rfl
  obtain ⟨i, hi⟩ : ∃ i, Tryz.prog.info? 148 = some i := by
    cases h : Tryz.prog.info? 148 with
    | none => rw [h] at hn; simp at hn
    | some i => exact ⟨i, rfl⟩
  rw [hi] at hn
  simp only [Option.bind_some, Option.map_eq_some_iff, Prod.mk.injEq] at hn
  obtain ⟨m, hm, hp, hf⟩ := hn
  rw [show (464 : Nat) = 463 + 1 from rfl, method]
  simp [typeInfo, hi, hm, hp, hf, follow, h2]
theorem mLen {Q : Nat} {v : Value} {w : World} (hc : w.cell? ⟨Q, 0, none⟩ = some v) : (method 464 148 (.pointer (some ⟨Q, 0, none⟩)) "Len").run Tryz.prog w = .ok (268, v) w := mVal "Len" _ (by kernel_rfl) Q v w hc
theorem mLess {Q : Nat} {v : Value} {w : World} (hc : w.cell? ⟨Q, 0, none⟩ = some v) : (method 464 148 (.pointer (some ⟨Q, 0, none⟩)) "Less").run Tryz.prog w = .ok (269, v) w := mVal "Less" _ (by kernel_rfl) Q v w hc
theorem mSwap {Q : Nat} {v : Value} {w : World} (hc : w.cell? ⟨Q, 0, none⟩ = some v) : (method 464 148 (.pointer (some ⟨Q, 0, none⟩)) "Swap").run Tryz.prog w = .ok (270, v) w := mVal "Swap" _ (by kernel_rfl) Q v w hc
theorem mPush (Q : Nat) (w : World) : (method 464 148 (.pointer (some ⟨Q, 0, none⟩)) "Push").run Tryz.prog w = .ok (272, .pointer (some ⟨Q, 0, none⟩)) w := mPtr "Push" _ (by kernel_rfl) Q w
theorem mPop (Q : Nat) (w : World) : (method 464 148 (.pointer (some ⟨Q, 0, none⟩)) "Pop").run Tryz.prog w = .ok (271, .pointer (some ⟨Q, 0, none⟩)) w := mPtr "Pop" _ (by kernel_rfl) Q w
set_option maxHeartbeats 1000000 in
theorem qLen (ad : Option Addr) (n c : Nat) (w : World) : Calls Tryz.prog 268 #[.slice ad n c] w fun e w' => e = .returned (.int .i64 n) ∧ w' = w := by
  go_enter Tryz.func268, Tryz.ntmps268
  go_wp2
  go_ret
  exact ⟨rfl, rfl⟩
set_option maxHeartbeats 1000000 in
theorem qLess (g n c i j : Nat) (x y : Int) (w : World) (hi : i < n) (hj : j < n) (c1 : w.cell? ⟨g, i, none⟩ = some (.int .i64 x)) (c2 : w.cell? ⟨g, j, none⟩ = some (.int .i64 y)) :
    Calls Tryz.prog 269 #[.slice (some ⟨g, 0, none⟩) n c, .int .i64 i, .int .i64 j] w fun e w' => e = .returned (.bool (decide (x < y))) ∧ ∃ q, w' = w.drewN q := by
  have hi0 : (0 : Int) ≤ (i : Int) := by omega
  have hi1 : (i : Int) < (n : Int) := by omega
  have hj0 : (0 : Int) ≤ (j : Int) := by omega
  have hj1 : (j : Int) < (n : Int) := by omega
  go_enter Tryz.func269, Tryz.ntmps269
  go_wp2
  go_quiet (fail)
  go_wp2
  go_ret
  exact ⟨rfl, _, rfl⟩
set_option maxHeartbeats 2000000 in
theorem qSwap (g n c i j : Nat) (x y : Int) (w : World) (hi : i < n) (hj : j < n) (c1 : w.cell? ⟨g, i, none⟩ = some (.int .i64 x)) (c2 : w.cell? ⟨g, j, none⟩ = some (.int .i64 y)) (f1 : w.frozen? ⟨g, i, none⟩ = false) (f2 : w.frozen? ⟨g, j, none⟩ = false) :
    Calls Tryz.prog 270 #[.slice (some ⟨g, 0, none⟩) n c, .int .i64 i, .int .i64 j] w fun e w' => e = .returned (.tuple #[]) ∧ ∃ q, w' = ((w.setCell ⟨g, i, none⟩ (.int .i64 y)).setCell ⟨g, j, none⟩ (.int .i64 x)).drewN q := by
  obtain ⟨v', hy'⟩ := cell?_setCell_some (w := w) (p := ⟨g, i, none⟩) (x := .int .i64 y) (q := ⟨g, j, none⟩) c2
  have hi0 : (0 : Int) ≤ (i : Int) := by omega
  have hi1 : (i : Int) < (n : Int) := by omega
  have hj0 : (0 : Int) ≤ (j : Int) := by omega
  have hj1 : (j : Int) < (n : Int) := by omega
  go_enter Tryz.func270, Tryz.ntmps270
  go_wp2
  go_region
  all_goals (try go_wp2)
  all_goals go_end0
  all_goals exact ⟨rfl, 1, rfl⟩
theorem owns_setCell {w : World} {base : Nat} {e : TypeId} {v : Value} {n g : Nat} {xs : List Value} (h : w.ownsRow base e 1 v n xs) (hv : v.ownBlock = some g) (j : Nat) (u : Value) : (w.setCell ⟨g, j, none⟩ u).ownsRow base e 1 v n (xs.set j u) := by
  refine ⟨by rw [List.length_set]; exact h.1, ?_⟩
  rcases h.2 with ⟨e1, _⟩ | ⟨g', cap, cur, e1, hb, hg, h1, h2, h3, h4⟩
  · rw [e1] at hv; cases hv
  · rw [e1] at hv; cases hv
    refine .inr ⟨g', cap, _, e1, hb, heap_setCell_same w g' j cur e u hg, h1, h2, by simpa using h3, ?_⟩
    rw [← h4]
    simp [List.take_set]
theorem QAt.swapped {w : World} {Q : Nat} {v : Value} {d : Array Int} (h : QAt w Q v d) {g : Nat} (hg : v.ownBlock = some g) {i j : Nat} (q : Nat) :
    QAt (((w.setCell ⟨g, i, none⟩ (.int .i64 d[j]!)).setCell ⟨g, j, none⟩ (.int .i64 d[i]!)).drewN q) Q v (swp d i j) ∧ KeptO (qOwn Q v) (qOwn Q v) w (((w.setCell ⟨g, i, none⟩ (.int .i64 d[j]!)).setCell ⟨g, j, none⟩ (.int .i64 d[i]!)).drewN q) := by
  have hk : ∀ b, b ≠ g → ((w.setCell ⟨g, i, none⟩ (.int .i64 d[j]!)).setCell ⟨g, j, none⟩ (.int .i64 d[i]!)).heap[b]? = w.heap[b]? := fun b hb => by
    rw [heap_setCell_other _ ⟨g, j, none⟩ b _ hb, heap_setCell_other _ ⟨g, i, none⟩ b _ hb]
  have hQg : Q ≠ g := fun e => h.ne (by rw [hg, e])
  have hK : KeptO (qOwn Q v) (qOwn Q v) w ((w.setCell ⟨g, i, none⟩ (.int .i64 d[j]!)).setCell ⟨g, j, none⟩ (.int .i64 d[i]!)) := ⟨rfl, rfl, rfl, by simp, fun b _ hn => hk b (fun e => hn (.inr (by rw [hg, e]))), fun _ h => .inl h⟩
  suffices hs : QAt ((w.setCell ⟨g, i, none⟩ (.int .i64 d[j]!)).setCell ⟨g, j, none⟩ (.int .i64 d[i]!)) Q v (swp d i j) from ⟨hs.below (below_drewN (Below.refl _ _) q), hK.drewN q⟩
  refine ⟨(hk Q hQg).trans h.blk, ?_, h.ne⟩
  have h1 := owns_setCell (owns_setCell h.row hg i (.int .i64 d[j]!)) hg j (.int .i64 d[i]!)
  have e2 : (((intsV d.toList).set i (.int .i64 d[j]!)).set j (.int .i64 d[i]!)) = intsV (swp d i j).toList := by
    rw [swp_list]; simp [intsV, List.map_set]
  rw [e2] at h1
  rw [size_swp]
  exact h1
theorem QAt.put {w w1 : World} {Q : Nat} {v u : Value} {d d' : Array Int} (h : QAt w Q v d) (hg : w.grownBy w1 v.ownBlock) (ho : w1.ownsRow 0 3 1 u d'.size (intsV d'.toList)) (hu : ∀ g, u.ownBlock = some g → v.ownBlock = some g ∨ w.heap.size ≤ g) :
    QAt (w1.setCell ⟨Q, 0, none⟩ u) Q u d' ∧ KeptO (qOwn Q v) (qOwn Q u) w (w1.setCell ⟨Q, 0, none⟩ u) := by
  have hQ := h.lt
  have hb : w1.heap[Q]? = some (.cells #[v] 144 (0, 0)) := (hg.block Q hQ (fun e => h.ne e.symm)).trans h.blk
  have hne : u.ownBlock ≠ some Q := fun e => by
    rcases hu Q e with e | e
    · exact h.ne e
    · omega
  refine ⟨⟨(heap_setCell_same w1 Q 0 _ 144 u hb).trans rfl, owns_same ho (fun g e => heap_setCell_other w1 ⟨Q, 0, none⟩ g u (fun e2 => hne (by rw [e, e2]))), hne⟩, ?_⟩
  refine ⟨hg.os, hg.tape, hg.output, by simpa using hg.size, fun b hbl hn => (heap_setCell_other w1 ⟨Q, 0, none⟩ b u (fun e => hn (.inl e))).trans (hg.block b hbl (fun e => hn (.inr e.symm))), fun g hg => ?_⟩
  rcases hg with e | e
  · exact .inl (.inl e)
  · rcases hu g e with e | e
    · exact .inl (.inr e)
    · exact .inr e
set_option maxRecDepth 100000 in
set_option maxHeartbeats 2000000 in
theorem qPush (Q : Nat) (v : Value) (d : Array Int) (x : Int) (w : World) (h : QAt w Q v d) (hd : d.size ≤ 100000) :
    Calls Tryz.prog 272 #[.pointer (some ⟨Q, 0, none⟩), .iface 3 (.int .i64 x)] w fun e w' => e = .returned (.tuple #[]) ∧ ∃ v', QAt w' Q v' (d.push x) ∧ KeptO (qOwn Q v) (qOwn Q v') w w' := by
  obtain ⟨i0, hi0, hz0, hz1, hz2⟩ := info_parts info3
  have c0 := h.cell
  have hta : ∀ xT w, (Instr.typeAssert (.iface 3 (.int .i64 x)) xT 3 true).run Tryz.prog w = .ok (.tuple #[.int .i64 x, .bool true]) w := fun _ _ => by kernel_rfl
  have hA : Below w.heap.size w (w.alloc (.cells #[.int .i64 x] 3)) := (Below.refl _ _).alloc (Nat.le_refl _) _
  have hA2 := hA.size
  have HH := hid (h.below hA)
  have HK := hid (KeptO.of_below (o := qOwn Q v) hA)
  clear h hA
  go_enter Tryz.func272, Tryz.ntmps272
  go_wp2_with (at_builtin; refine wpList_append_lies _ rfl _ _ _ rfl 0 3 i0 _ 1 8 Tryz.underlying144 hi0 hz0 hz1 hz2 rfl (by omega) v _ _ rfl HH.out.row ⟨w.heap.size, 0, none⟩ 1 1 [.int .i64 x] rfl rfl (World.news_of_block (cs := #[.int .i64 x]) (t := 3) (fr := (0, 0)) (heap_alloc_new w _)) (by simp [Value.oneCell']) (by omega) (by unfold maxLen; omega) (by omega) (by simp) (w.heap.size + 1) (by simp) ?_; intro g cap w1 ho hgrow hat hlt; have c1 := (World.cell?_of_block (a := ⟨Q, 0, none⟩) (hgrow.block Q HH.out.lt (fun e => HH.out.ne e.symm))).trans HH.out.cell; have f1 := (World.frozen?_of_block (a := ⟨Q, 0, none⟩) (hgrow.block Q HH.out.lt (fun e => HH.out.ne e.symm))).trans HH.out.free)
  refine bodyPost_end (results_none rfl _ _ _) rfl ?_
  have hp := HH.out.put (d' := d.push x) hgrow (by rw [Array.size_push, Array.toList_push, intsV_append]; exact ho) (fun g' e => by
    cases e
    rcases hat with e | e
    · exact .inl e
    · exact .inr (by simp [e]))
  exact ⟨rfl, _, hp.1, HK.out.trans hp.2⟩
end Go.Proofs.YtjefgmeejhakbaaGreatDoor
