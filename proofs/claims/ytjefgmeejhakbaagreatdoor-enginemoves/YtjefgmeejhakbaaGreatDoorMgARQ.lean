/- KtRows KtTurn KtPost KtPok: put together for a claim. -/
import Derived.Test.YtjefgmeejhakbaaGreatDoorMgAQQ
import Derived.Test.YtjefgmeejhakbaaGreatDoorKtSmallQ
/- Three rows of the tale that are appended to at once, in whatever order: what each operation leaves. -/
namespace Go.Proofs.YtjefgmeejhakbaaGreatDoor
open Go.RowKit
structure Chg (h : Nat → Prop) (w w' : World) : Prop where
  os : w'.os = w.os
  tape : w'.tape = w.tape
  output : w'.output = w.output
  size : w.heap.size ≤ w'.heap.size
  block : ∀ g, g < w.heap.size → ¬ h g → w'.heap[g]? = w.heap[g]?
theorem Chg.refl (w : World) : Chg (fun _ => False) w w := ⟨rfl, rfl, rfl, Nat.le_refl _, fun _ _ _ => rfl⟩
theorem Chg.alloc (w : World) (o : Obj) : Chg (fun _ => False) w (w.alloc o) := ⟨rfl, rfl, rfl, by simp, fun g hg _ => Below.heap_alloc _ _ g hg⟩
theorem Chg.grown {w w' : World} {v : Option Nat} (h : w.grownBy w' v) : Chg (fun g => v = some g) w w' := ⟨h.os, h.tape, h.output, h.size, fun g hg hn => h.block g hg (fun e => hn e.symm)⟩
theorem Chg.store (w : World) (b o : Nat) (v : Value) : Chg (fun g => g = b) w (w.setCell ⟨b, o, none⟩ v) := ⟨rfl, rfl, rfl, by simp, fun g _ hn => heap_setCell_other _ _ _ _ hn⟩
def pB (B : Nat) (T : TypeId) (x v : Value) (w : World) : Prop := ∃ b, v = .slice (some ⟨b, 0, none⟩) 1 1 ∧ w.heap[b]? = some (.cells #[x] T (0, 0)) ∧ B ≤ b
def pA (B : Nat) (T : TypeId) (v0 : Value) (n : Nat) (xs : List Value) (x v : Value) (w : World) : Prop := w.ownsRow 0 T 1 v (n + 1) (xs ++ [x]) ∧ ∀ g, v.ownBlock = some g → v0.ownBlock = some g ∨ B ≤ g
def pM (B : Nat) (v : Value) (w : World) : Prop := ∃ m, v = mapV m ∧ IMap w m 0 (fun _ => none) ∧ B ≤ m
def pMB (B : Nat) (T : TypeId) (v : Value) (w : World) : Prop := ∃ m, pB B T (mapV m) v w ∧ IMap w m 0 (fun _ => none) ∧ B ≤ m
def pMA (B : Nat) (T : TypeId) (v0 : Value) (n : Nat) (xs : List Value) (v : Value) (w : World) : Prop := ∃ m, pA B T v0 n xs (mapV m) v w ∧ IMap w m 0 (fun _ => none) ∧ B ≤ m
section
variable {B n : Nat} {T : TypeId} {x v v0 : Value} {xs : List Value} {w w' : World} {h : Nat → Prop}
theorem blk_lt {b : Nat} {o : Obj} (hb : w.heap[b]? = some o) : b < w.heap.size := (Array.getElem?_eq_some_iff.1 hb).1
theorem pB.stay (hp : pB B T x v w) (hc : Chg h w w') (hh : ∀ g, h g → g < B) : pB B T x v w' := by
  obtain ⟨b, e, hb, hB⟩ := hp
  exact ⟨b, e, (hc.block b (blk_lt hb) (fun e => by have := hh b e; omega)).trans hb, hB⟩
theorem pA.stay (hp : pA B T v0 n xs x v w) (hc : Chg h w w') (hh : ∀ g, h g → g < B ∧ v0.ownBlock ≠ some g) : pA B T v0 n xs x v w' := by
  refine ⟨owns_same hp.1 (fun g hg => hc.block g (owns_lt hp.1 hg) (fun e => ?_)), hp.2⟩
  rcases hp.2 g hg with h1 | h1
  · exact (hh g e).2 h1
  · have := (hh g e).1; omega
theorem imap_stay {m : Nat} (hp : IMap w m 0 (fun _ => none)) (hB : B ≤ m) (hc : Chg h w w') (hh : ∀ g, h g → g < B) : IMap w' m 0 (fun _ => none) := hp.same (hc.block m hp.lt (fun e => by have := hh m e; omega))
theorem pM.stay (hp : pM B v w) (hc : Chg h w w') (hh : ∀ g, h g → g < B) : pM B v w' := by
  obtain ⟨m, e, hm, hB⟩ := hp
  exact ⟨m, e, imap_stay hm hB hc hh, hB⟩
theorem pMB.stay (hp : pMB B T v w) (hc : Chg h w w') (hh : ∀ g, h g → g < B) : pMB B T v w' := by
  obtain ⟨m, hb, hm, hB⟩ := hp
  exact ⟨m, hb.stay hc hh, imap_stay hm hB hc hh, hB⟩
theorem pMA.stay (hp : pMA B T v0 n xs v w) (hc : Chg h w w') (hh : ∀ g, h g → g < B ∧ v0.ownBlock ≠ some g) : pMA B T v0 n xs v w' := by
  obtain ⟨m, hb, hm, hB⟩ := hp
  exact ⟨m, hb.stay hc hh, imap_stay hm hB hc (fun g hg => (hh g hg).1), hB⟩
end
structure RowsAt (w : World) (s : Nat) (L : TalL) (steps n : Int) (broken : Bool) (N : Nat → Nat) (X : Nat → List Value) : Prop where
  blk : w.heap[L.b]? = some (.cells (talCells s L.row steps n broken) 67 (0, 0))
  rows : ∀ j, j < 6 → w.ownsRow 0 (rowT j) 1 (L.row j) (N j) (X j)
  ne_b : ∀ j, j < 6 → (L.row j).ownBlock ≠ some L.b
  ne : ∀ i j g, i < 6 → j < 6 → (L.row i).ownBlock = some g → (L.row j).ownBlock = some g → i = j
theorem TalAt.rowsAt {w : World} {s N : Nat} {L : TalL} {t : Tal} (h : TalAt w s L t N) : RowsAt w s L t.steps t.n t.broken (fun _ => N) (L.rowX t) := by
  obtain ⟨ρ, T⟩ := h.tag
  refine ⟨h.blk, h.rows, fun j hj e => ?_, fun i j g hi hj h1 h2 => ?_⟩
  · have := T.row j _ hj e
    rw [T.b] at this
    cases this
  · have e := (T.row i g hi h1).symm.trans (T.row j g hj h2)
    injection e
structure Stage (wB : World) (s : Nat) (L : TalL) (steps n : Int) (broken : Bool) (r A0 A1 A2 S0 S1 S2 D0 D1 D2 : Nat) (listed : Array Bool) (a : Act) (w : World) : Prop where
  os : w.os = wB.os
  tape : w.tape = wB.tape
  output : w.output = wB.output
  size : wB.heap.size ≤ w.heap.size
  old : ∀ g, g < wB.heap.size → g ≠ L.b → (∀ j A, (j, A) ∈ [(r, A0), (r + 1, A1), (r + 2, A2)] → (L.row j).ownBlock = some g → ¬ DoneAt listed A) → w.heap[g]? = wB.heap[g]?
  blk : w.heap[L.b]? = some (.cells (talCells s (fun j => if j = r ∧ DoneAt listed S0 then a.tmps.getD D0 undef else if j = r + 1 ∧ DoneAt listed S1 then a.tmps.getD D1 undef else if j = r + 2 ∧ DoneAt listed S2 then a.tmps.getD D2 undef else L.row j) steps n broken) 67 (0, 0))
section
variable {wB w w' : World} {s : Nat} {L : TalL} {steps n : Int} {broken : Bool} {r A0 A1 A2 S0 S1 S2 D0 D1 D2 : Nat} {listed : Array Bool} {a : Act}
theorem Stage.pure (h : Stage wB s L steps n broken r A0 A1 A2 S0 S1 S2 D0 D1 D2 listed a w) {i d : Nat} {v : Value} (hS : i ≠ S0 ∧ i ≠ S1 ∧ i ≠ S2) (hD : d ≠ D0 ∧ d ≠ D1 ∧ d ≠ D2) (hc : Chg (fun _ => False) w w') (hb : L.b < wB.heap.size) :
    Stage wB s L steps n broken r A0 A1 A2 S0 S1 S2 D0 D1 D2 (listed.setIfInBounds i true) (a.put (some d) v) w' := by
  refine ⟨hc.os.trans h.os, hc.tape.trans h.tape, hc.output.trans h.output, Nat.le_trans h.size hc.size, fun g hg hne hj => ?_, ?_⟩
  · refine (hc.block g (Nat.lt_of_lt_of_le hg h.size) (fun h => h)).trans (h.old g hg hne (fun j A hm hr hd => hj j A hm hr ?_))
    exact done_mono hd
  · rw [hc.block _ (Nat.lt_of_lt_of_le hb h.size) (fun h => h), h.blk]
    simp only [done_set_ne hS.1.symm, done_set_ne hS.2.1.symm, done_set_ne hS.2.2.symm, getD_put_ne hD.1.symm, getD_put_ne hD.2.1.symm, getD_put_ne hD.2.2.symm]
theorem Stage.app (h : Stage wB s L steps n broken r A0 A1 A2 S0 S1 S2 D0 D1 D2 listed a w) {i d j : Nat} {v : Value} (hi : (j, i, d) ∈ [(r, A0, D0), (r + 1, A1, D1), (r + 2, A2, D2)]) (hn : ¬ DoneAt listed S0 ∧ ¬ DoneAt listed S1 ∧ ¬ DoneAt listed S2) (hS : i ≠ S0 ∧ i ≠ S1 ∧ i ≠ S2) (hc : Chg (fun g => (L.row j).ownBlock = some g) w w') (hls : i < listed.size) (hb : L.b < wB.heap.size) (hbr : (L.row j).ownBlock ≠ some L.b) :
    Stage wB s L steps n broken r A0 A1 A2 S0 S1 S2 D0 D1 D2 (listed.setIfInBounds i true) (a.put (some d) v) w' := by
  refine ⟨hc.os.trans h.os, hc.tape.trans h.tape, hc.output.trans h.output, Nat.le_trans h.size hc.size, fun g hg hne hj => ?_, ?_⟩
  · have hjg : (L.row j).ownBlock ≠ some g := fun e => by
      refine hj j i ?_ e (done_self hls)
      simp only [List.mem_cons, Prod.mk.injEq, List.not_mem_nil, or_false] at hi ⊢
      rcases hi with ⟨h1, h2, _⟩ | ⟨h1, h2, _⟩ | ⟨h1, h2, _⟩
      · exact .inl ⟨h1, h2⟩
      · exact .inr (.inl ⟨h1, h2⟩)
      · exact .inr (.inr ⟨h1, h2⟩)
    refine (hc.block g (Nat.lt_of_lt_of_le hg h.size) hjg).trans (h.old g hg hne (fun j A hm hr hd => hj j A hm hr ?_))
    exact done_mono hd
  · rw [hc.block _ (Nat.lt_of_lt_of_le hb h.size) hbr, h.blk]
    simp only [done_set_ne hS.1.symm, done_set_ne hS.2.1.symm, done_set_ne hS.2.2.symm, hn.1, hn.2.1, hn.2.2, and_false, if_false]
theorem Stage.store (h : Stage wB s L steps n broken r A0 A1 A2 S0 S1 S2 D0 D1 D2 listed a w) {i d j : Nat} (hi : (j, i, d) ∈ [(r, S0, D0), (r + 1, S1, D1), (r + 2, S2, D2)]) (hd : S0 ≠ S1 ∧ S0 ≠ S2 ∧ S1 ≠ S2) (hls : i < listed.size) (hr : r = 0 ∨ r = 3) :
    Stage wB s L steps n broken r A0 A1 A2 S0 S1 S2 D0 D1 D2 (listed.setIfInBounds i true) (a.put none undef) (w.setCell ⟨L.b, j + 1, none⟩ (a.tmps.getD d undef)) := by
  have hc := Chg.store w L.b (j + 1) (a.tmps.getD d undef)
  refine ⟨h.os, h.tape, h.output, Nat.le_trans h.size hc.size, fun g hg hne hj => ?_, ?_⟩
  · refine (hc.block g (Nat.lt_of_lt_of_le hg h.size) hne).trans (h.old g hg hne (fun j A hm hr hd => hj j A hm hr (done_mono hd)))
  · rw [setCell_at h.blk]
    have hself := done_self hls
    simp only [List.mem_cons, Prod.mk.injEq, List.not_mem_nil, or_false] at hi
    rcases hi with ⟨rfl, rfl, rfl⟩ | ⟨rfl, rfl, rfl⟩ | ⟨rfl, rfl, rfl⟩
    · rcases hr with rfl | rfl <;> simp [talCells, hself, done_set_ne hd.1.symm, done_set_ne hd.2.1.symm, Act.put]
    · rcases hr with rfl | rfl <;> simp [talCells, hself, done_set_ne hd.1, done_set_ne hd.2.2.symm, Act.put]
    · rcases hr with rfl | rfl <;> simp [talCells, hself, done_set_ne hd.2.1, done_set_ne hd.2.2, Act.put]
theorem Stage.start {wB : World} {s : Nat} {L : TalL} {steps n : Int} {broken : Bool} {N : Nat → Nat} {X : Nat → List Value} (h : RowsAt wB s L steps n broken N X) (r A0 A1 A2 S0 S1 S2 D0 D1 D2 sz : Nat) (a : Act) : Stage wB s L steps n broken r A0 A1 A2 S0 S1 S2 D0 D1 D2 (Array.replicate sz false) a wB.drew := by
  refine ⟨rfl, rfl, rfl, Nat.le_refl _, fun g _ _ _ => rfl, ?_⟩
  simp only [not_done_replicate, and_false, if_false]
  exact h.blk
end
section
variable {wB w : World} {s : Nat} {L : TalL} {N : Nat → Nat} {X : Nat → List Value} {steps n : Int} {broken : Bool} {r A0 A1 A2 S0 S1 S2 D0 D1 D2 : Nat} {listed : Array Bool} {a : Act}
theorem Stage.rowAt (h : Stage wB s L steps n broken r A0 A1 A2 S0 S1 S2 D0 D1 D2 listed a w) (hT : RowsAt wB s L steps n broken N X) {j A : Nat} (hj : (j, A) ∈ [(r, A0), (r + 1, A1), (r + 2, A2)]) (hr : r + 2 < 6) (hn : ¬ DoneAt listed A) : w.ownsRow 0 (rowT j) 1 (L.row j) (N j) (X j) := by
  have hj6 : j < 6 := by
    simp only [List.mem_cons, Prod.mk.injEq, List.not_mem_nil, or_false] at hj
    omega
  refine owns_same (hT.rows j hj6) (fun g hg => h.old g (owns_lt (hT.rows j hj6) hg) (fun e => hT.ne_b j hj6 (by rw [hg, e])) (fun j' A' hm hr' hd => hn ?_))
  have e : j' = j := hT.ne j' j g (by
    simp only [List.mem_cons, Prod.mk.injEq, List.not_mem_nil, or_false] at hm
    omega) hj6 hr' hg
  subst e
  simp only [List.mem_cons, Prod.mk.injEq, List.not_mem_nil, or_false] at hj hm
  have : A' = A := by omega
  rw [← this]
  exact hd
theorem Stage.cellAt (h : Stage wB s L steps n broken r A0 A1 A2 S0 S1 S2 D0 D1 D2 listed a w) {j S : Nat} (hj : (j, S) ∈ [(r, S0), (r + 1, S1), (r + 2, S2)]) (hr : r = 0 ∨ r = 3) (hn : ¬ DoneAt listed S) : w.cell? ⟨L.b, j + 1, none⟩ = some (L.row j) := by
  refine (cell_of_row w L.b (j + 1) _ _ (0, 0) h.blk).trans ?_
  simp only [List.mem_cons, Prod.mk.injEq, List.not_mem_nil, or_false] at hj
  rcases hj with ⟨rfl, rfl⟩ | ⟨rfl, rfl⟩ | ⟨rfl, rfl⟩ <;> rcases hr with rfl | rfl <;> simp [talCells, hn]
theorem Stage.cellN (h : Stage wB s L steps n broken r A0 A1 A2 S0 S1 S2 D0 D1 D2 listed a w) : w.cell? ⟨L.b, 7, none⟩ = some (.int .i64 steps) := (cell_of_row w L.b 7 _ _ (0, 0) h.blk).trans (by simp [talCells])
theorem Stage.free (h : Stage wB s L steps n broken r A0 A1 A2 S0 S1 S2 D0 D1 D2 listed a w) (o : Nat) : w.frozen? ⟨L.b, o, none⟩ = false := by simp [World.frozen?, h.blk]
set_option maxRecDepth 100000 in
theorem app_arm {ops : Array Oper} {o : Oper} {K : Act → World → Prop} {Q : Exit → Act → World → Prop} {B m : Nat} {e : TypeId} {z v0 xv x : Value} {xs : List Value} (hgd : o.guard = none) (so xo : Operand) (ty : TypeId)
    (ho : o.op = .call { callee := .builtin .append, args := #[so, xo], argTypes := #[ty, ty] }) (by_ : Nat) (hty : Tryz.prog.underlying ty = some (.slice e)) (hinfo : (Tryz.prog.info? e).map (fun i => (i.zero, i.size, i.bytes)) = some (some z, 1, by_)) (hz : z.cells.size = 1) (hby : by_ ≤ 100)
    (hs : a.eval so = v0) (hown : w.ownsRow 0 e 1 v0 m xs) (hx : a.eval xo = xv) (hb : pB B e x xv w) (h1 : x.oneCell' = true) (hm : m ≤ 1000) (hB : B ≤ w.heap.size)
    (h : ∀ v w', pA B e v0 m xs x v w' → Chg (fun g => v0.ownBlock = some g) w w' → (∀ g, v.ownBlock = some g → v0.ownBlock = some g ∨ w.heap.size ≤ g) → K (a.put o.dst v) w') : if Region.wanted o (yielded ops a.tmps) = true then Oper.wp Tryz.prog o a w K Q else True := by
  obtain ⟨i0, hi0, hz0, hz1, hz2⟩ := info_parts hinfo
  obtain ⟨b, rfl, hblk, hBb⟩ := hb
  refine step_append_lies w hgd so xo ty ho 0 e i0 z 1 by_ hty hi0 hz0 hz1 hz2 hz (by omega) v0 m xs hs hown ⟨b, 0, none⟩ 1 1 [x] hx rfl (World.news_of_block (cs := #[x]) hblk) (fun u hu => by rw [List.mem_singleton.1 hu]; exact h1) (by omega) (by unfold maxLen; omega) (Nat.le_trans (Nat.mul_le_mul (show m + 1 ≤ 1001 by omega) hby) (by omega)) (Nat.zero_le _) w.heap.size rfl ?_
  intro g cap w2 h2 h3 h4 _
  have hg : ∀ g', (Value.slice (some ⟨g, 0, none⟩) (m + 1) cap).ownBlock = some g' → v0.ownBlock = some g' ∨ w.heap.size ≤ g' := fun g' hg' => by
    have : g' = g := by injection hg' with hg'; exact hg'.symm
    rw [this]
    exact h4.imp id (fun e => by omega)
  exact h _ w2 ⟨h2, fun g' hg' => (hg g' hg').imp id (fun e => by omega)⟩ (Chg.grown h3) hg
end
theorem Stage.done {wB w : World} {s : Nat} {L : TalL} {N : Nat → Nat} {X : Nat → List Value} {steps n : Int} {broken : Bool} {r A0 A1 A2 S0 S1 S2 D0 D1 D2 : Nat} {listed : Array Bool} {a : Act} (h : Stage wB s L steps n broken r A0 A1 A2 S0 S1 S2 D0 D1 D2 listed a w) (hR : RowsAt wB s L steps n broken N X) (hr : r = 0 ∨ r = 3) (hS : DoneAt listed S0 ∧ DoneAt listed S1 ∧ DoneAt listed S2) (v x : Nat → Value) (h0 : a.tmps.getD D0 undef = v r) (h1 : a.tmps.getD D1 undef = v (r + 1)) (h2 : a.tmps.getD D2 undef = v (r + 2))
    (hp : ∀ j, r ≤ j → j ≤ r + 2 → pA wB.heap.size (rowT j) (L.row j) (N j) (X j) (x j) (v j) w) (hd : ∀ i j g, (r ≤ i ∧ i ≤ r + 2) → (r ≤ j ∧ j ≤ r + 2) → (v i).ownBlock = some g → (v j).ownBlock = some g → i = j) :
    RowsAt w s { L with row := fun j => if r ≤ j ∧ j ≤ r + 2 then v j else L.row j } steps n broken (fun j => if r ≤ j ∧ j ≤ r + 2 then N j + 1 else N j) (fun j => if r ≤ j ∧ j ≤ r + 2 then X j ++ [x j] else X j) ∧
      Chg (fun g => g = L.b ∨ ∃ j, (r ≤ j ∧ j ≤ r + 2) ∧ (L.row j).ownBlock = some g) wB w := by
  have hlt : ∀ j g, j < 6 → (L.row j).ownBlock = some g → g < wB.heap.size := fun j g hj hg => owns_lt (hR.rows j hj) hg
  have hC : Chg (fun g => g = L.b ∨ ∃ j, (r ≤ j ∧ j ≤ r + 2) ∧ (L.row j).ownBlock = some g) wB w := ⟨h.os, h.tape, h.output, h.size, fun g hg hn => h.old g hg (fun e => hn (.inl e)) (fun j A hm hr' _ => hn (.inr ⟨j, by
    simp only [List.mem_cons, Prod.mk.injEq, List.not_mem_nil, or_false] at hm
    omega, hr'⟩))⟩
  refine ⟨⟨?_, fun j hj => ?_, fun j hj e => ?_, fun i j g hi hj hgi hgj => ?_⟩, hC⟩
  · rw [h.blk]
    have e : talCells s (fun j => if j = r ∧ DoneAt listed S0 then a.tmps.getD D0 undef else if j = r + 1 ∧ DoneAt listed S1 then a.tmps.getD D1 undef else if j = r + 2 ∧ DoneAt listed S2 then a.tmps.getD D2 undef else L.row j) steps n broken = talCells s (fun j => if r ≤ j ∧ j ≤ r + 2 then v j else L.row j) steps n broken := by
      rw [h0, h1, h2]
      rcases hr with rfl | rfl <;> simp [talCells, hS.1, hS.2.1, hS.2.2]
    rw [e]
  · by_cases hj2 : r ≤ j ∧ j ≤ r + 2
    · simp only [if_pos hj2]
      exact (hp j hj2.1 hj2.2).1
    · simp only [if_neg hj2]
      refine owns_same (hR.rows j hj) (fun g hg => hC.block g (hlt j g hj hg) (fun hx => ?_))
      rcases hx with e | ⟨i, hi, e⟩
      · exact hR.ne_b j hj (by rw [hg, e])
      · have := hR.ne i j g (by omega) hj e hg
        omega
  · by_cases hj2 : r ≤ j ∧ j ≤ r + 2
    · simp only [if_pos hj2] at e
      rcases (hp j hj2.1 hj2.2).2 _ e with h3 | h3
      · exact hR.ne_b j hj h3
      · have := blk_lt hR.blk
        omega
    · simp only [if_neg hj2] at e
      exact hR.ne_b j hj e
  · by_cases hi2 : r ≤ i ∧ i ≤ r + 2
    · by_cases hj2 : r ≤ j ∧ j ≤ r + 2
      · simp only [if_pos hi2] at hgi
        simp only [if_pos hj2] at hgj
        exact hd i j g hi2 hj2 hgi hgj
      · simp only [if_pos hi2] at hgi
        simp only [if_neg hj2] at hgj
        rcases (hp i hi2.1 hi2.2).2 _ hgi with h3 | h3
        · exact hR.ne i j g hi hj h3 hgj
        · have := hlt j g hj hgj
          omega
    · by_cases hj2 : r ≤ j ∧ j ≤ r + 2
      · simp only [if_neg hi2] at hgi
        simp only [if_pos hj2] at hgj
        rcases (hp j hj2.1 hj2.2).2 _ hgj with h3 | h3
        · exact hR.ne i j g hi hj hgi h3
        · have := hlt i g hi hgi
          omega
      · simp only [if_neg hi2] at hgi
        simp only [if_neg hj2] at hgj
        exact hR.ne i j g hi hj hgi hgj
theorem pA.typ {B : Nat} {T T' : TypeId} {v0 v0' x x' v v' : Value} {n n' : Nat} {xs xs' : List Value} {w : World} {g : Nat} (h : pA B T v0 n xs x v w) (h' : pA B T' v0' n' xs' x' v' w) (hg : v.ownBlock = some g) (hg' : v'.ownBlock = some g) : T = T' := by
  obtain ⟨c, hc⟩ := owns_typ h.1 hg
  obtain ⟨c', hc'⟩ := owns_typ h'.1 hg'
  rw [hc] at hc'
  injection hc' with e
  injection e
theorem TaleAt.begun {w0 : Gr} {w2 w3 W : World} {L L3 : EnL} {E E' : Eng} {TL : TalL} {t : Tal} {level : Int} {row' : Nat → Value} {av : Value} {m : Nat} (H2 : TaleAt w0 w2 L E TL t) (hE3 : EnAt w3 L3 E') (hlen : E'.txs.length = E.txs.length + 1) (hK3 : KeptO L.own L3.own w2 w3) (hs3 : L3.s = L.s)
    (hav : w2.ownsRow 0 78 2 av (allE E).length (vrow (allE E))) (havT : ∀ g, av.ownBlock = some g → ¬ TL.own g ∧ ¬ L.own g ∧ ¬ w0.P g)
    (hb : W.heap[TL.b]? = some (.cells (talCells L.s row' t.steps t.n t.broken) 67 (0, 0)))
    (hrow : ∀ j, j < 6 → W.ownsRow 0 (rowT j) 1 (row' j) (E.txs.length + 1) (TL.rowX t j ++ [newX level t.steps av m j]) ∧ ∀ g, (row' j).ownBlock = some g → (TL.row j).ownBlock = some g ∨ w3.heap.size ≤ g)
    (hd : ∀ i j g, i < 6 → j < 6 → (row' i).ownBlock = some g → (row' j).ownBlock = some g → i = j)
    (hm : IMap W m 10 (fun _ => none)) (hm2 : w3.heap.size ≤ m) (hC : Chg (fun g => g = TL.b ∨ ∃ j, j < 6 ∧ (TL.row j).ownBlock = some g) w3 W) : TaleAt w0 W L3 E' (moreL TL row' av m) (beginT E t level) := by
  have h3 : TalAt w3 L.s TL t E.txs.length := H2.tal.same (fun g hg => hK3.block g (H2.tal.own_lt hg) (H2.apart g hg))
  have hlt : ∀ g, av.ownBlock = some g → g < w2.heap.size := fun g hg => owns_lt hav hg
  have hav3 : ∀ g, av.ownBlock = some g → W.heap[g]? = w2.heap[g]? := fun g hg => (hC.block g (Nat.lt_of_lt_of_le (hlt g hg) hK3.size) (fun h => (havT g hg).1 (h.elim .inl (fun ⟨j, hj, e⟩ => .inr (.inl ⟨j, hj, e⟩))))).trans (hK3.block g (hlt g hg) (havT g hg).2.1)
  obtain ⟨hT, hown, hkeep⟩ := h3.more (E := E) (level := level) hb hrow hd (owns_same hav hav3) (fun g hg => ⟨(havT g hg).1, Nat.lt_of_lt_of_le (hlt g hg) hK3.size⟩) hm hm2 (fun g hg h1 h2 => hC.block g hg (fun h => h.elim h1 (fun ⟨j, hj, e⟩ => h2 j hj e)))
  have hap : ∀ g, TL.own g → ¬ L3.own g := fun g hg hg' => (hK3.sub g hg').elim (H2.apart g hg) (fun e => by have := H2.tal.own_lt hg; omega)
  refine ⟨hE3.same (fun g hg => hkeep g (hE3.own_lt hg) (fun h => hap g h hg)), by rw [hs3, hlen]; exact hT, fun g hg hg' => ?_, fun g hg => ?_, fun g hg => ?_, ?_⟩
  · rcases hown g hg with h | h | h
    · exact hap g h hg'
    · have := hE3.own_lt hg'; omega
    · exact (hK3.sub g hg').elim (havT g h).2.1 (fun e => by have := hlt g h; omega)
  · exact (hK3.sub g hg).elim (H2.newE g) (fun e => H2.kept.new e)
  · rcases hown g hg with h | h | h
    · exact H2.newT g h
    · exact H2.kept.new (Nat.le_trans hK3.size h)
    · exact (havT g h).2.2
  · refine (H2.kept.go hK3 H2.newE).go (o := fun g => g = TL.b ∨ ∃ j, j < 6 ∧ (TL.row j).ownBlock = some g) (o' := fun _ => False) ⟨hC.os, hC.tape, hC.output, hC.size, fun g hg hn => hC.block g hg hn, fun _ hf => hf.elim⟩ (fun g h => ?_)
    exact H2.newT g (h.elim .inl (fun ⟨j, hj, e⟩ => .inr (.inl ⟨j, hj, e⟩)))
theorem infoWs : (Tryz.prog.info? 23).map (fun i => (i.zero, i.size, i.bytes)) = some (some (.slice none 0 0), 1, 24) := by kernel_rfl
theorem infoMp : (Tryz.prog.info? 69).map (fun i => (i.zero, i.size, i.bytes)) = some (some (.map none), 1, 8) := by kernel_rfl
theorem infoSs : (Tryz.prog.info? 73).map (fun i => (i.zero, i.size, i.bytes)) = some (some (.slice none 0 0), 1, 24) := by kernel_rfl
theorem infoSeen : (Tryz.prog.info? 75).map (fun i => (i.zero, i.size, i.bytes)) = some (some (.agg #[.int .i64 0, .int .i64 0]), 2, 16) := by kernel_rfl
theorem infoI : (Tryz.prog.info? 3).map (fun i => (i.zero, i.size, i.bytes)) = some (some (.int .i64 0), 1, 8) := by kernel_rfl
end Go.Proofs.YtjefgmeejhakbaaGreatDoor

/- The tale when it notes a read, a write, who is over. -/
namespace Go.Proofs.YtjefgmeejhakbaaGreatDoor
open Go.RowKit
theorem owns_set {w : World} {base g n cap i : Nat} {e : TypeId} {xs : List Value} {u : Value} (h : w.ownsRow base e 1 (.slice (some ⟨g, 0, none⟩) n cap) n xs) : (w.setCell ⟨g, i, none⟩ u).ownsRow base e 1 (.slice (some ⟨g, 0, none⟩) n cap) n (xs.set i u) := by
  refine ⟨by rw [List.length_set]; exact h.1, ?_⟩
  rcases h.2 with ⟨e1, _⟩ | ⟨g', cap', cur, e1, hb, hc, h1, h2, h3, h4⟩
  · cases e1
  · injection e1 with e1 e2 e3
    injection e1 with e1
    injection e1 with e1
    subst e1
    subst e3
    refine .inr ⟨g, cap, cur.setIfInBounds i u, rfl, hb, setCell_at hc, h1, h2, by simpa using h3, ?_⟩
    rw [← h4, Array.toList_setIfInBounds, List.take_set]
section
variable {w w1 : World} {s N : Nat} {L : TalL} {t : Tal}
theorem rowX_over (L : TalL) (t : Tal) (l : List Int) (j : Nat) (hj : j < 6) : L.rowX { t with over := l } j = if j = 5 then intsV l else L.rowX t j := by
  obtain rfl | rfl | rfl | rfl | rfl | rfl : j = 0 ∨ j = 1 ∨ j = 2 ∨ j = 3 ∨ j = 4 ∨ j = 5 := by omega
  all_goals rfl
theorem TalAt.setOver (h : TalAt w s L t N) {g cap i : Nat} (hr : L.row 5 = .slice (some ⟨g, 0, none⟩) N cap) (x : Int) :
    TalAt (w.setCell ⟨g, i, none⟩ (.int .i64 x)) s L { t with over := t.over.set i x } N ∧ KeptO L.own L.own w (w.setCell ⟨g, i, none⟩ (.int .i64 x)) := by
  obtain ⟨ρ, T⟩ := h.tag
  have hg : (L.row 5).ownBlock = some g := by rw [hr]; rfl
  have ho : ∀ b, b ≠ g → (w.setCell ⟨g, i, none⟩ (.int .i64 x)).heap[b]? = w.heap[b]? := fun b hb => heap_setCell_other _ _ _ _ hb
  have hρ := T.row 5 g (by omega) hg
  have hne : ∀ b, ρ b ≠ .row 5 → b ≠ g := fun b hb e => hb (by rw [e]; exact hρ)
  refine ⟨⟨(ho _ (hne _ (by rw [T.b]; exact nofun))).trans h.blk, fun j hj => ?_, fun i v l hv hl => owns_same (h.sn i v l hv hl) (fun b hb => ho b (hne b (by rw [T.sn i v b hv hb]; exact nofun))), fun i b f hb hf => ⟨(h.om i b f hb hf).1.same (ho b (hne b (by rw [T.om i b hb]; exact nofun))), (h.om i b f hb hf).2⟩,
    fun i v l hv hl => owns_same (h.rd i v l hv hl) (fun b hb => ho b (hne b (by rw [T.rd i v b hv hb]; exact nofun))), ⟨h.len.level, h.len.snap, h.len.own, h.len.reads, h.len.begun, by simpa using h.len.over, h.len.sn, h.len.om, h.len.rd⟩, ρ, T⟩,
    ⟨rfl, rfl, rfl, by simp, fun b _ hb => ho b (fun e => hb (.inr (.inl ⟨5, by omega, by rw [e]; exact hg⟩))), fun _ hb => .inl hb⟩⟩
  rw [rowX_over L t _ j hj]
  by_cases e : j = 5
  · subst e
    rw [if_pos rfl, hr]
    have h5 := h.rows 5 (by omega)
    rw [hr] at h5
    have := owns_set (i := i) (u := .int .i64 x) h5
    rw [show L.rowX t 5 = intsV t.over from rfl] at this
    have e2 : intsV (t.over.set i x) = (intsV t.over).set i (.int .i64 x) := by simp [intsV, List.map_set]
    rw [e2]
    exact this
  · rw [if_neg e]
    exact owns_same (h.rows j hj) (fun b hb => ho b (hne b (by rw [T.row j b hj hb]; intro e2; injection e2 with e2; exact e e2)))
theorem TalAt.setOwn (h : TalAt w s L t N) {x b : Nat} {f : Int → Option Int} (hb : L.om[x]? = some b) (hf : t.own[x]? = some f) {key val : Int} (hk : 0 ≤ key ∧ key < 10) :
    ∃ w', (Instr.mapUpdate 69 (.map (some b)) (.int .i64 key) (.int .i64 val)).run Tryz.prog w = .ok () w' ∧ TalAt w' s L { t with own := t.own.set x (updT f key (some val)) } N ∧ KeptO L.own L.own w w' := by
  obtain ⟨ρ, T⟩ := h.tag
  have h0 := h.om x b f hb hf
  obtain ⟨w', hr, hI, hg⟩ := h0.1.store Tryz.underlying69 (by unfold maxLen; omega) (show I64 key by unfold I64; omega) (.int .i64 val)
  rw [show updT (fun k => (f k).map (Value.int .i64)) key (some (.int .i64 val)) = fun k => (updT f key (some val) k).map (Value.int .i64) from (updT_map f key (some val)).symm] at hI
  have hu : ∀ k, updT f key (some val) k ≠ none → 0 ≤ k ∧ k < 10 := fun k hk' => by
    by_cases e : k = key
    · rw [e]; exact hk
    · rw [updT_other _ _ e] at hk'; exact h0.2 k hk'
  have hI10 := hI.upTo 10 (fun a ha => hu a (fun e => ha (by rw [e]; rfl)))
  have ho : ∀ c, c < w.heap.size → c ≠ b → w'.heap[c]? = w.heap[c]? := fun c hc hne => hg.block c hc (fun e => hne (by injection e))
  have hρ := T.om x b hb
  have hne : ∀ c, L.own c → ρ c ≠ .om x → w'.heap[c]? = w.heap[c]? := fun c hc hn => ho c (h.own_lt hc) (fun e => hn (by rw [e]; exact hρ))
  have hx := (List.getElem?_eq_some_iff.1 hf).1
  refine ⟨w', hr, ⟨(hne _ (.inl rfl) (by rw [T.b]; exact nofun)).trans h.blk, fun j hj => ?_, fun i v l hv hl => owns_same (h.sn i v l hv hl) (fun c hc => hne c (.inr (.inr (.inl ⟨i, v, hv, hc⟩))) (by rw [T.sn i v c hv hc]; exact nofun)), fun i c q hc hq => ?_,
    fun i v l hv hl => owns_same (h.rd i v l hv hl) (fun c hc => hne c (.inr (.inr (.inr (.inr ⟨i, v, hv, hc⟩)))) (by rw [T.rd i v c hv hc]; exact nofun)), ⟨h.len.level, h.len.snap, by simpa using h.len.own, h.len.reads, h.len.begun, h.len.over, h.len.sn, h.len.om, h.len.rd⟩, ρ, T⟩,
    ⟨hg.os, hg.tape, hg.output, hg.size, fun c hc hn => ho c hc (fun e => hn (.inr (.inr (.inr (.inl ⟨x, by rw [e]; exact hb⟩))))), fun _ hc => .inl hc⟩⟩
  · have e : L.rowX { t with own := t.own.set x (updT f key (some val)) } j = L.rowX t j := by unfold TalL.rowX; split <;> rfl
    rw [e]
    exact owns_same (h.rows j hj) (fun c hc => hne c (.inr (.inl ⟨j, hj, hc⟩)) (by rw [T.row j c hj hc]; exact nofun))
  · simp only [List.getElem?_set] at hq
    by_cases e : x = i
    · subst e
      rw [if_pos rfl, if_pos hx] at hq
      cases hq
      rw [hb] at hc
      cases hc
      exact ⟨hI10, hu⟩
    · rw [if_neg e] at hq
      have h1 := h.om i c q hc hq
      exact ⟨h1.1.same (hne c (.inr (.inr (.inr (.inl ⟨i, hc⟩)))) (by rw [T.om i c hc]; intro e2; injection e2 with e2; exact e e2.symm)), h1.2⟩
theorem rowX_reads (L : TalL) (t : Tal) (rd : List Value) (l : List (List (Int × Int))) (j : Nat) (hj : j < 6) : ({ L with rd := rd } : TalL).rowX { t with reads := l } j = if j = 3 then rd else L.rowX t j := by
  obtain rfl | rfl | rfl | rfl | rfl | rfl : j = 0 ∨ j = 1 ∨ j = 2 ∨ j = 3 ∨ j = 4 ∨ j = 5 := by omega
  all_goals rfl
theorem TalAt.setRead (h : TalAt w s L t N) {x g cap : Nat} {v v' : Value} {l l' : List (Int × Int)} (hv : L.rd[x]? = some v) (hl : t.reads[x]? = some l) (hr : L.row 3 = .slice (some ⟨g, 0, none⟩) N cap) (hc : Chg (fun b => v.ownBlock = some b) w w1) (hown : w1.ownsRow 0 75 2 v' l'.length (vrow l')) (hv' : ∀ b, v'.ownBlock = some b → v.ownBlock = some b ∨ w.heap.size ≤ b) :
    TalAt (w1.setCell ⟨g, x, none⟩ v') s { L with rd := L.rd.set x v' } { t with reads := t.reads.set x l' } N ∧ KeptO L.own ({ L with rd := L.rd.set x v' } : TalL).own w (w1.setCell ⟨g, x, none⟩ v') := by
  obtain ⟨ρ, T⟩ := h.tag
  have hg : (L.row 3).ownBlock = some g := by rw [hr]; rfl
  have hglt := owns_lt (h.rows 3 (by omega)) hg
  have hρg := T.row 3 g (by omega) hg
  have hx := (List.getElem?_eq_some_iff.1 hl).1
  have hxr := (List.getElem?_eq_some_iff.1 hv).1
  have ho1 : ∀ b, b ≠ g → (w1.setCell ⟨g, x, none⟩ v').heap[b]? = w1.heap[b]? := fun b hb => heap_setCell_other _ _ _ _ hb
  have ho : ∀ b, L.own b → ρ b ≠ .row 3 → ρ b ≠ .rd x → (w1.setCell ⟨g, x, none⟩ v').heap[b]? = w.heap[b]? := fun b hb h1 h2 => (ho1 b (fun e => h1 (by rw [e]; exact hρg))).trans (hc.block b (h.own_lt hb) (fun e => h2 (T.rd x v b hv e)))
  have hrow3 : w1.ownsRow 0 (rowT 3) 1 (L.row 3) N (L.rowX t 3) := owns_same (h.rows 3 (by omega)) (fun b hb => hc.block b (owns_lt (h.rows 3 (by omega)) hb) (fun e => by
    have h1 := T.row 3 b (by omega) hb
    rw [T.rd x v b hv e] at h1
    cases h1))
  have hne' : ∀ b, v'.ownBlock = some b → b ≠ g := fun b hb e => by
    rcases hv' b hb with h1 | h1
    · have := T.rd x v b hv h1
      rw [e, hρg] at this
      cases this
    · omega
  refine ⟨⟨(ho _ (.inl rfl) (by rw [T.b]; exact nofun) (by rw [T.b]; exact nofun)).trans h.blk, fun j hj => ?_, fun i u m hu hm => owns_same (h.sn i u m hu hm) (fun c hc => ho c (.inr (.inr (.inl ⟨i, u, hu, hc⟩))) (by rw [T.sn i u c hu hc]; exact nofun) (by rw [T.sn i u c hu hc]; exact nofun)),
    fun i c q hc hq => ⟨(h.om i c q hc hq).1.same (ho c (.inr (.inr (.inr (.inl ⟨i, hc⟩)))) (by rw [T.om i c hc]; exact nofun) (by rw [T.om i c hc]; exact nofun)), (h.om i c q hc hq).2⟩, fun i u m hu hm => ?_,
    ⟨h.len.level, h.len.snap, h.len.own, by simpa using h.len.reads, h.len.begun, h.len.over, h.len.sn, h.len.om, by simpa using h.len.rd⟩, fun b => if b < w.heap.size then ρ b else .rd x, ?_⟩, ?_⟩
  · rw [rowX_reads L t _ _ j hj]
    by_cases e : j = 3
    · subst e
      rw [if_pos rfl]
      show World.ownsRow _ 0 _ 1 (L.row 3) N _
      rw [hr] at hrow3 ⊢
      exact owns_set hrow3
    · rw [if_neg e]
      refine owns_same (h.rows j hj) (fun c hc => ho c (.inr (.inl ⟨j, hj, hc⟩)) (by rw [T.row j c hj hc]; intro e2; injection e2 with e2; exact e e2) (by rw [T.row j c hj hc]; exact nofun))
  · simp only [List.getElem?_set] at hu hm
    by_cases e : x = i
    · subst e
      rw [if_pos rfl, if_pos hxr] at hu
      rw [if_pos rfl, if_pos hx] at hm
      cases hu
      cases hm
      exact owns_same hown (fun b hb => ho1 b (hne' b hb))
    · rw [if_neg e] at hu hm
      exact owns_same (h.rd i u m hu hm) (fun c hc => ho c (.inr (.inr (.inr (.inr ⟨i, u, hu, hc⟩)))) (by rw [T.rd i u c hu hc]; exact nofun) (by rw [T.rd i u c hu hc]; intro e2; injection e2 with e2; exact e e2.symm))
  · have hlt : ∀ b, L.own b → (if b < w.heap.size then ρ b else TTag.rd x) = ρ b := fun b hb => if_pos (h.own_lt hb)
    refine ⟨(hlt _ (.inl rfl)).trans T.b, fun j b hj hb => (hlt b (.inr (.inl ⟨j, hj, hb⟩))).trans (T.row j b hj hb), fun i u b hu hb => (hlt b (.inr (.inr (.inl ⟨i, u, hu, hb⟩)))).trans (T.sn i u b hu hb), fun i b hb => (hlt b (.inr (.inr (.inr (.inl ⟨i, hb⟩))))).trans (T.om i b hb), fun i u b hu hb => ?_⟩
    simp only [List.getElem?_set] at hu
    by_cases e : x = i
    · subst e
      rw [if_pos rfl, if_pos hxr] at hu
      cases hu
      rcases hv' b hb with h1 | h1
      · exact (hlt b (.inr (.inr (.inr (.inr ⟨x, v, hv, h1⟩))))).trans (T.rd x v b hv h1)
      · exact if_neg (by omega)
    · rw [if_neg e] at hu
      exact (hlt b (.inr (.inr (.inr (.inr ⟨i, u, hu, hb⟩))))).trans (T.rd i u b hu hb)
  · refine ⟨hc.os, hc.tape, hc.output, by simpa using hc.size, fun b hb hn => (ho1 b (fun e => hn (.inr (.inl ⟨3, by omega, by rw [e]; exact hg⟩)))).trans (hc.block b hb (fun e => hn (.inr (.inr (.inr (.inr ⟨x, v, hv, e⟩)))))), fun b hb => ?_⟩
    rcases hb with hb | hb | hb | hb | ⟨i, u, hu, hb⟩
    · exact .inl (.inl hb)
    · exact .inl (.inr (.inl hb))
    · exact .inl (.inr (.inr (.inl hb)))
    · exact .inl (.inr (.inr (.inr (.inl hb))))
    · simp only [List.getElem?_set] at hu
      by_cases e : x = i
      · subst e
        rw [if_pos rfl, if_pos hxr] at hu
        cases hu
        rcases hv' b hb with h1 | h1
        · exact .inl (.inr (.inr (.inr (.inr ⟨x, v, hv, h1⟩))))
        · exact .inr h1
      · rw [if_neg e] at hu
        exact .inl (.inr (.inr (.inr (.inr ⟨i, u, hu, hb⟩))))
theorem TalAt.setHead (h : TalAt w s L t N) {o : Nat} {u : Value} {steps n : Int} {broken : Bool} (hc : (talCells s L.row t.steps t.n t.broken).setIfInBounds o u = talCells s L.row steps n broken) :
    TalAt (w.setCell ⟨L.b, o, none⟩ u) s L { t with steps := steps, n := n, broken := broken } N ∧ KeptO L.own L.own w (w.setCell ⟨L.b, o, none⟩ u) := by
  have ho : ∀ g, g ≠ L.b → (w.setCell ⟨L.b, o, none⟩ u).heap[g]? = w.heap[g]? := fun g hg => heap_setCell_other _ _ _ _ hg
  refine ⟨h.head ?_ (fun g _ hg => ho g hg), rfl, rfl, rfl, by simp, fun g _ hn => ho g (fun e => hn (.inl e)), fun _ hg => .inl hg⟩
  rw [setCell_at h.blk, hc]
end
end Go.Proofs.YtjefgmeejhakbaaGreatDoor

/- An engine that was turned, beside its tale; that there is an end to each call. -/
namespace Go.Proofs.YtjefgmeejhakbaaGreatDoor
open Go.RowKit
theorem TaleAt.post {w0 : Gr} {w w' : World} {L : EnL} {E E' : Eng} {TL : TalL} {t : Tal} (h : TaleAt w0 w L E TL t) (hp : EnPost L E' w w') : ∃ L', TaleAt w0 w' L' E' TL t ∧ L'.s = L.s ∧ E'.txs.length = E.txs.length := by
  obtain ⟨L', hE, hK, hs, hb⟩ := hp
  have hl : E'.txs.length = E.txs.length := by
    rw [← hE.len, ← h.en.len]
    have := congrArg List.length hb
    simpa [EnL.bs] using this
  exact ⟨L', h.engine hE hK hs hl, hs, hl⟩
theorem row_post {w w' : World} {L : EnL} {E' : Eng} {base sz n : Nat} {T : TypeId} {v : Value} {xs : List Value} (hp : EnPost L E' w w') (h : w.ownsRow base T sz v n xs) (hn : ∀ g, v.ownBlock = some g → ¬ L.own g) : w'.ownsRow base T sz v n xs := by
  obtain ⟨L', _, hK, _, _⟩ := hp
  exact owns_same h (fun g hg => hK.block g (owns_lt h hg) (hn g hg))
theorem TaleAt.handle {w0 : Gr} {w : World} {L : EnL} {E : Eng} {TL : TalL} {t : Tal} (h : TaleAt w0 w L E TL t) (hg : Handle w0.w ∧ w0.P 0) : Handle w := h.cell hg.2 hg.1
section
variable {E : Eng} {i : Nat} {u : Tx}
theorem commit_ends (hM : Mid0 E) (hu : E.txs[i]? = some u) (hs : u.state = 0) : ∃ R, commitE 7 E i = some R := by
  have hl : liveB u.state = true := live_iff.2 (.inl hs)
  by_cases hb : Between u.ahead u.behind
  · obtain ⟨E', h, _⟩ := commit_bad (goes_true 0 (fun _ => none)) hM hu hl hb trivial
    exact ⟨_, h⟩
  · obtain ⟨E', h, _⟩ := commit_ok (goes_true 0 (fun _ => none)) hM hu hl hb trivial
    exact ⟨_, h⟩
theorem abort_ends (hM : Mid0 E) (hu : E.txs[i]? = some u) (hl : liveB u.state = true) : ∃ E', endF 7 (loseE E i 0) i 3 = some E' := by
  obtain ⟨E', h, _⟩ := lose_ok (goes_true 0 (fun _ => none)) hM hu hl trivial
  exact ⟨_, h⟩
theorem read_ends (hM : Mid0 E) (hu : E.txs[i]? = some u) (hs : u.state = 0) {key : Int} (hk : 0 ≤ key ∧ key < 10) : ∃ R, readE 7 E i key = some R ∧ (R.1.2 = 0 ∨ R.1.2 = 8 ∨ R.1.2 = 13) := by
  cases hv : u.vals key with
  | some v =>
    refine ⟨((v, 0), E), ?_, .inl rfl⟩
    unfold readE
    rw [hu]
    simp only
    rw [hv]
  | none =>
    obtain ⟨R, h, _, _, h3, _⟩ := read_ok (goes_true 0 (fun _ => none)) hM hu hs hk hv (fun _ => trivial) (fun _ _ _ => trivial) (fun _ _ _ => trivial)
    refine ⟨R, h, ?_⟩
    rcases h3 with ⟨h3, _⟩ | h3
    · rw [h3]
      unfold verP
      split
      · exact .inl rfl
      · exact .inr (.inl rfl)
    · rw [h3]
      exact .inr (.inr rfl)
theorem write_ends (hM : Mid0 E) (hu : E.txs[i]? = some u) (hs : u.state = 0) {key val : Int} (hk : 0 ≤ key ∧ key < 10) (hv : -1099511627776 ≤ val ∧ val ≤ 1099511627776) {q : Int → Nat} (hq : Ranked E.T q) : ∃ R, writeE 7 q E i key val = some R := by
  obtain ⟨R, h, _⟩ := write_ok (goes_true 0 (fun _ => none)) hM hu hs hk hv hq trivial trivial (fun _ _ _ _ => trivial) (fun _ _ _ _ _ _ => trivial)
  exact ⟨R, h⟩
end
theorem read_any {w : World} {L : EnL} {E : Eng} (h : EnAt w L E) (hg : Handle w) (hM : Mid0 E) (hrd : ∀ u ∈ E.txs, u.reads.length ≤ 100000) {i : Nat} {u : Tx} (hu : E.txs[i]? = some u) (hs : u.state = 0) {key : Int} (hk : 0 ≤ key ∧ key < 10) {R : (Int × Int) × Eng} (hR : readE 7 E i key = some R) :
    Calls Tryz.prog 52 #[.pointer (some ⟨L.s, 0, none⟩), .int .i64 ((i : Int) + 1), .int .i64 key] w fun e w' => e = .returned (.tuple #[.int .i64 R.1.1, errV R.1.2]) ∧ EnPost L R.2 w w' := by
  obtain ⟨l, hl, _⟩ := h.get hu
  cases hv : u.vals key with
  | some v =>
    have e : R = ((v, 0), E) := by
      unfold readE at hR
      rw [hu] at hR
      simp only at hR
      rw [hv] at hR
      injection hR with hR
      exact hR.symm
    subst e
    refine (read_own h hl hu hs (by unfold I64; omega) hv).mono ?_
    rintro e w' ⟨rfl, hw⟩
    rw [hw]
    exact ⟨rfl, L, h, KeptO.refl _ _, rfl, rfl⟩
  | none =>
    obtain ⟨k, rfl⟩ : ∃ k : Nat, key = k := ⟨key.toNat, by omega⟩
    exact read_main h hg hM.fits hl hu hs (by have := hrd u (List.mem_of_getElem? hu); omega) (hM.open_wr hu (live_iff.2 (.inl hs))) (by omega) hv hR
end Go.Proofs.YtjefgmeejhakbaaGreatDoor

/- Plain: each act keeps what is asked of a tale. -/
namespace Go.Proofs.YtjefgmeejhakbaaGreatDoor
structure POk (E : Eng) (t : Tal) (n : Nat) : Prop where
  mid : Mid0 E
  steps : 0 ≤ t.steps ∧ t.steps ≤ n
  num : 0 ≤ t.n ∧ t.n ≤ n
  rd : ∀ u ∈ E.txs, u.reads.length ≤ n
  tr : ∀ l ∈ t.reads, l.length ≤ n
  ts : ∀ l ∈ t.snap, l.length ≤ 10
theorem all_len (E : Eng) : (allE E).length ≤ 10 := by
  have key : ∀ (f : Nat → Option (Int × Int)) (m : Nat), (allK f m).length ≤ m := by
    intro f m
    induction m with
    | zero => simp [allK]
    | succ m ih =>
      rw [allK]
      cases f m <;> simp <;> omega
  exact key _ 10
theorem POk.step {E E' : Eng} {t : Tal} {n : Nat} (h : POk E t n) (hM : Mid0 E') (hr : ∀ u ∈ E'.txs, u.reads.length ≤ n + 1) {own' : List (Int → Option Int)} {over' : List Int} {reads' : List (List (Int × Int))} {n' : Int} {b : Bool} (hn : 0 ≤ n' ∧ n' ≤ n + 1) (htr : ∀ l ∈ reads', l.length ≤ n + 1) : POk E' { t with own := own', over := over', reads := reads', n := n', steps := t.steps + 1, broken := b } (n + 1) :=
  ⟨hM, by have := h.steps; show 0 ≤ t.steps + 1 ∧ t.steps + 1 ≤ ((n + 1 : Nat) : Int); omega, by show 0 ≤ n' ∧ n' ≤ ((n + 1 : Nat) : Int); omega, hr, htr, h.ts⟩
theorem mem_set_len {l : List (List (Int × Int))} {x n : Nat} {y : List (Int × Int)} (h : ∀ m ∈ l, m.length ≤ n) (hy : y.length ≤ n + 1) : ∀ m ∈ l.set x y, m.length ≤ n + 1 := fun m hm => by
  rcases List.mem_or_eq_of_mem_set hm with hm | rfl
  · have := h m hm; omega
  · exact hy
theorem mid0_eng0 : Mid0 eng0 := by
  have hcw : eng0.ce.cw = [] := rfl
  refine ⟨⟨good0, fun k x h => (by cases h), fun k i h => (by cases h), fun i t h => (by simp [eng0, Eng.ce] at h), fun i h => h.elim, fun i t k h => (by simp [eng0, Eng.ce] at h)⟩, ⟨fun i t h => (by simp [eng0, Eng.ce] at h), by decide, by decide⟩, ?_⟩
  refine ⟨List.Pairwise.nil, fun i => ⟨fun h => (by cases h), fun ⟨t, h, _⟩ => (by simp [eng0, Eng.ce] at h)⟩, fun i t h => (by simp [eng0, Eng.ce] at h), by decide, rfl, rfl, fun c => ?_, rfl, fun a ha => ⟨0, Nat.zero_le _, ?_, fun u _ => .inl rfl⟩, fun i j t a c h => (by simp [eng0, Eng.ce] at h)⟩
  · rw [hcw]
    split <;> rfl
  · show (List.replicate 10 ([] : List (Int × Int)))[a]? = _
    rw [List.getElem?_replicate, if_pos ha]
    rfl
def tal00 : Tal := ⟨[], [], [], [], [], [], 0, 0, false⟩
theorem pok0 : POk eng0 tal00 0 := ⟨mid0_eng0, by decide, by decide, fun u hu => (by cases hu), fun u hu => (by cases hu), fun u hu => (by cases hu)⟩
theorem Does.pok {lv : Int} {E E' : Eng} {t t' : Tal} {n : Nat} (hd : Does lv E t E' t') (h : POk E t n) (hn : n ≤ 1000) : POk E' t' (n + 1) := by
  have hrd1 : ∀ u ∈ E.txs, u.reads.length ≤ n + 1 := fun u hu => by have := h.rd u hu; omega
  have htr1 : ∀ l ∈ t.reads, l.length ≤ n + 1 := fun u hu => by have := h.tr u hu; omega
  have hnum := h.num
  cases hd with
  | same => exact h.step h.mid hrd1 (own' := t.own) (over' := t.over) (n' := t.n) (by omega) htr1
  | begin level hl0 hl ho =>
    have h1 := h.mid.begin hl0.1 hl (by rw [← live_len]; exact ho)
    refine ⟨h1, by have := h.steps; show 0 ≤ t.steps + 1 ∧ t.steps + 1 ≤ ((n + 1 : Nat) : Int); omega, by show 0 ≤ t.n ∧ t.n ≤ ((n + 1 : Nat) : Int); omega, fun u hu => ?_, fun l hl' => ?_, fun l hl' => ?_⟩
    · rcases List.mem_append.1 hu with hu | hu
      · exact hrd1 u hu
      · rw [List.mem_singleton.1 hu]; exact Nat.zero_le _
    · rcases List.mem_append.1 (show l ∈ t.reads ++ [[]] from hl') with hu | hu
      · exact htr1 l hu
      · rw [List.mem_singleton.1 hu]; exact Nat.zero_le _
    · rcases List.mem_append.1 (show l ∈ t.snap ++ [allE E] from hl') with hu | hu
      · exact h.ts l hu
      · rw [List.mem_singleton.1 hu]; exact all_len E
  | sweep => exact h.step h.mid.sweep hrd1 (own' := t.own) (over' := t.over) (n' := t.n) (by omega) htr1
  | shut => exact h.step h.mid hrd1 (own' := t.own) (n' := t.n) (by omega) htr1
  | read x u key R hu hs hk hR =>
    have hw := went_read h.mid h.rd hu hs (by omega) hR
    unfold readT
    split
    · exact h.step hw.mid hw.rd (own' := t.own) (n' := t.n) (by omega) htr1
    · split
      · exact h.step hw.mid hw.rd (own' := t.own) (n' := t.n) (by omega) htr1
      · refine h.step hw.mid hw.rd (own' := t.own) (n' := t.n) (by omega) (mem_set_len h.tr ?_)
        cases hx : (stepT t).reads[x]? with
        | none => simp
        | some l =>
          have := h.tr l (List.mem_of_getElem? (show t.reads[x]? = some l from hx))
          simp
          omega
  | wshut => exact h.step h.mid hrd1 (own' := t.own) (n' := t.n + 1) (by omega) htr1
  | write x u key q R hu hs hk hq hR =>
    have hw := went_write h.mid h.rd hu hs (key := key) (val := t.n + 1) (by omega) (by omega) hq hR
    have hr1 : ∀ u ∈ R.2.txs, u.reads.length ≤ n + 1 := fun u hu => by have := hw.rd u hu; omega
    unfold writeT
    split
    · exact h.step hw.mid hr1 (own' := t.own) (n' := t.n + 1) (by omega) htr1
    · exact h.step hw.mid hr1 (n' := t.n + 1) (by omega) htr1
  | commit x u R hu hs hR =>
    have hw := (went_commit h.mid h.rd hu hs hR).1
    exact h.step hw.mid (fun u hu => by have := hw.rd u hu; omega) (own' := t.own) (n' := t.n) (by omega) htr1
  | abort x u E' hu hs hR =>
    have hw := (went_abort h.mid h.rd hu hs hR).1
    exact h.step hw.mid (fun u hu => by have := hw.rd u hu; omega) (own' := t.own) (n' := t.n) (by omega) htr1
end Go.Proofs.YtjefgmeejhakbaaGreatDoor
