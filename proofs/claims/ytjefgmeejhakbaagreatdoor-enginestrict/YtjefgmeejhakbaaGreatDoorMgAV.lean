/- KtRows KtTurn OrAdd OrSort: put together for a claim. -/
import Derived.Test.YtjefgmeejhakbaaGreatDoorMgAS
import Derived.Test.YtjefgmeejhakbaaGreatDoorMgAP
/- Three rows of the tale that are appended to at once, in whatever order: what each operation leaves. -/
namespace Go.Proofs.YtjefgmeejhakbaaGreatDoor
open Go.RowKit

structure Chg (h : Nat → Prop) (w w' : World) : Prop where
  os : w'.os = w.os
  tape : w'.tape = w.tape
  output : w'.output = w.output
  size : w.heap.size ≤ w'.heap.size
  block : ∀ g, g < w.heap.size → ¬ h g → w'.heap[g]? = w.heap[g]?
theorem Chg.refl (w : World) : Chg (fun _ => False) w w := ⟨rfl, rfl, rfl, Nat.le_refl _, fun _ _ _ => rfl⟩
theorem Chg.alloc (w : World) (o : Obj) : Chg (fun _ => False) w (w.alloc o) := ⟨rfl, rfl, rfl, by simp, fun g hg _ => Below.heap_alloc _ _ g hg⟩
theorem Chg.grown {w w' : World} {v : Option Nat} (h : w.grownBy w' v) : Chg (fun g => v = some g) w w' := ⟨h.os, h.tape, h.output, h.size, fun g hg hn => h.block g hg (fun e => hn e.symm)⟩
theorem Chg.store (w : World) (b o : Nat) (v : Value) : Chg (fun g => g = b) w (w.setCell ⟨b, o, none⟩ v) := ⟨rfl, rfl, rfl, by simp, fun g _ hn => heap_setCell_other _ _ _ _ hn⟩

def pB (B : Nat) (T : TypeId) (x v : Value) (w : World) : Prop := ∃ b, v = .slice (some ⟨b, 0, none⟩) 1 1 ∧ w.heap[b]? = some (.cells #[x] T (0, 0)) ∧ B ≤ b
def pA (B : Nat) (T : TypeId) (v0 : Value) (n : Nat) (xs : List Value) (x v : Value) (w : World) : Prop := w.ownsRow 0 T 1 v (n + 1) (xs ++ [x]) ∧ ∀ g, v.ownBlock = some g → v0.ownBlock = some g ∨ B ≤ g
def pM (B : Nat) (v : Value) (w : World) : Prop := ∃ m, v = mapV m ∧ IMap w m 0 (fun _ => none) ∧ B ≤ m
def pMB (B : Nat) (T : TypeId) (v : Value) (w : World) : Prop := ∃ m, pB B T (mapV m) v w ∧ IMap w m 0 (fun _ => none) ∧ B ≤ m
def pMA (B : Nat) (T : TypeId) (v0 : Value) (n : Nat) (xs : List Value) (v : Value) (w : World) : Prop := ∃ m, pA B T v0 n xs (mapV m) v w ∧ IMap w m 0 (fun _ => none) ∧ B ≤ m

section
variable {B n : Nat} {T : TypeId} {x v v0 : Value} {xs : List Value} {w w' : World} {h : Nat → Prop}
theorem blk_lt {b : Nat} {o : Obj} (hb : w.heap[b]? = some o) : b < w.heap.size := (Array.getElem?_eq_some_iff.1 hb).1
theorem pB.stay (hp : pB B T x v w) (hc : Chg h w w') (hh : ∀ g, h g → g < B) : pB B T x v w' := by
  obtain ⟨b, e, hb, hB⟩ := hp
  exact ⟨b, e, (hc.block b (blk_lt hb) (fun e => by have := hh b e; omega)).trans hb, hB⟩
theorem pA.stay (hp : pA B T v0 n xs x v w) (hc : Chg h w w') (hh : ∀ g, h g → g < B ∧ v0.ownBlock ≠ some g) : pA B T v0 n xs x v w' := by
  refine ⟨owns_same hp.1 (fun g hg => hc.block g (owns_lt hp.1 hg) (fun e => ?_)), hp.2⟩
  rcases hp.2 g hg with h1 | h1
  · exact (hh g e).2 h1
  · have := (hh g e).1; omega
theorem imap_stay {m : Nat} (hp : IMap w m 0 (fun _ => none)) (hB : B ≤ m) (hc : Chg h w w') (hh : ∀ g, h g → g < B) : IMap w' m 0 (fun _ => none) := hp.same (hc.block m hp.lt (fun e => by have := hh m e; omega))
theorem pM.stay (hp : pM B v w) (hc : Chg h w w') (hh : ∀ g, h g → g < B) : pM B v w' := by
  obtain ⟨m, e, hm, hB⟩ := hp
  exact ⟨m, e, imap_stay hm hB hc hh, hB⟩
theorem pMB.stay (hp : pMB B T v w) (hc : Chg h w w') (hh : ∀ g, h g → g < B) : pMB B T v w' := by
  obtain ⟨m, hb, hm, hB⟩ := hp
  exact ⟨m, hb.stay hc hh, imap_stay hm hB hc hh, hB⟩
theorem pMA.stay (hp : pMA B T v0 n xs v w) (hc : Chg h w w') (hh : ∀ g, h g → g < B ∧ v0.ownBlock ≠ some g) : pMA B T v0 n xs v w' := by
  obtain ⟨m, hb, hm, hB⟩ := hp
  exact ⟨m, hb.stay hc hh, imap_stay hm hB hc (fun g hg => (hh g hg).1), hB⟩
end

structure RowsAt (w : World) (s : Nat) (L : TalL) (steps n : Int) (broken : Bool) (N : Nat → Nat) (X : Nat → List Value) : Prop where
  blk : w.heap[L.b]? = some (.cells (talCells s L.row steps n broken) 67 (0, 0))
  rows : ∀ j, j < 6 → w.ownsRow 0 (rowT j) 1 (L.row j) (N j) (X j)
  ne_b : ∀ j, j < 6 → (L.row j).ownBlock ≠ some L.b
  ne : ∀ i j g, i < 6 → j < 6 → (L.row i).ownBlock = some g → (L.row j).ownBlock = some g → i = j
theorem TalAt.rowsAt {w : World} {s N : Nat} {L : TalL} {t : Tal} (h : TalAt w s L t N) : RowsAt w s L t.steps t.n t.broken (fun _ => N) (L.rowX t) := by
  obtain ⟨ρ, T⟩ := h.tag
  refine ⟨h.blk, h.rows, fun j hj e => ?_, fun i j g hi hj h1 h2 => ?_⟩
  · have := T.row j _ hj e
    rw [T.b] at this
    cases this
  · have e := (T.row i g hi h1).symm.trans (T.row j g hj h2)
    injection e

structure Stage (wB : World) (s : Nat) (L : TalL) (steps n : Int) (broken : Bool) (r A0 A1 A2 S0 S1 S2 D0 D1 D2 : Nat) (listed : Array Bool) (a : Act) (w : World) : Prop where
  os : w.os = wB.os
  tape : w.tape = wB.tape
  output : w.output = wB.output
  size : wB.heap.size ≤ w.heap.size
  old : ∀ g, g < wB.heap.size → g ≠ L.b → (∀ j A, (j, A) ∈ [(r, A0), (r + 1, A1), (r + 2, A2)] → (L.row j).ownBlock = some g → ¬ DoneAt listed A) → w.heap[g]? = wB.heap[g]?
  blk : w.heap[L.b]? = some (.cells (talCells s (fun j => if j = r ∧ DoneAt listed S0 then a.tmps.getD D0 undef else if j = r + 1 ∧ DoneAt listed S1 then a.tmps.getD D1 undef else if j = r + 2 ∧ DoneAt listed S2 then a.tmps.getD D2 undef else L.row j) steps n broken) 67 (0, 0))

section
variable {wB w w' : World} {s : Nat} {L : TalL} {steps n : Int} {broken : Bool} {r A0 A1 A2 S0 S1 S2 D0 D1 D2 : Nat} {listed : Array Bool} {a : Act}
theorem Stage.pure (h : Stage wB s L steps n broken r A0 A1 A2 S0 S1 S2 D0 D1 D2 listed a w) {i d : Nat} {v : Value} (hS : i ≠ S0 ∧ i ≠ S1 ∧ i ≠ S2) (hD : d ≠ D0 ∧ d ≠ D1 ∧ d ≠ D2) (hc : Chg (fun _ => False) w w') (hb : L.b < wB.heap.size) :
    Stage wB s L steps n broken r A0 A1 A2 S0 S1 S2 D0 D1 D2 (listed.setIfInBounds i true) (a.put (some d) v) w' := by
  refine ⟨hc.os.trans h.os, hc.tape.trans h.tape, hc.output.trans h.output, Nat.le_trans h.size hc.size, fun g hg hne hj => ?_, ?_⟩
  · refine (hc.block g (Nat.lt_of_lt_of_le hg h.size) (fun h => h)).trans (h.old g hg hne (fun j A hm hr hd => hj j A hm hr ?_))
    exact done_mono hd
  · rw [hc.block _ (Nat.lt_of_lt_of_le hb h.size) (fun h => h), h.blk]
    simp only [done_set_ne hS.1.symm, done_set_ne hS.2.1.symm, done_set_ne hS.2.2.symm, getD_put_ne hD.1.symm, getD_put_ne hD.2.1.symm, getD_put_ne hD.2.2.symm]
theorem Stage.app (h : Stage wB s L steps n broken r A0 A1 A2 S0 S1 S2 D0 D1 D2 listed a w) {i d j : Nat} {v : Value} (hi : (j, i, d) ∈ [(r, A0, D0), (r + 1, A1, D1), (r + 2, A2, D2)]) (hn : ¬ DoneAt listed S0 ∧ ¬ DoneAt listed S1 ∧ ¬ DoneAt listed S2) (hS : i ≠ S0 ∧ i ≠ S1 ∧ i ≠ S2) (hc : Chg (fun g => (L.row j).ownBlock = some g) w w') (hls : i < listed.size) (hb : L.b < wB.heap.size) (hbr : (L.row j).ownBlock ≠ some L.b) :
    Stage wB s L steps n broken r A0 A1 A2 S0 S1 S2 D0 D1 D2 (listed.setIfInBounds i true) (a.put (some d) v) w' := by
  refine ⟨hc.os.trans h.os, hc.tape.trans h.tape, hc.output.trans h.output, Nat.le_trans h.size hc.size, fun g hg hne hj => ?_, ?_⟩
  · have hjg : (L.row j).ownBlock ≠ some g := fun e => by
      refine hj j i ?_ e (done_self hls)
      simp only [List.mem_cons, Prod.mk.injEq, List.not_mem_nil, or_false] at hi ⊢
      rcases hi with ⟨h1, h2, _⟩ | ⟨h1, h2, _⟩ | ⟨h1, h2, _⟩
      · exact .inl ⟨h1, h2⟩
      · exact .inr (.inl ⟨h1, h2⟩)
      · exact .inr (.inr ⟨h1, h2⟩)
    refine (hc.block g (Nat.lt_of_lt_of_le hg h.size) hjg).trans (h.old g hg hne (fun j A hm hr hd => hj j A hm hr ?_))
    exact done_mono hd
  · rw [hc.block _ (Nat.lt_of_lt_of_le hb h.size) hbr, h.blk]
    simp only [done_set_ne hS.1.symm, done_set_ne hS.2.1.symm, done_set_ne hS.2.2.symm, hn.1, hn.2.1, hn.2.2, and_false, if_false]
theorem Stage.store (h : Stage wB s L steps n broken r A0 A1 A2 S0 S1 S2 D0 D1 D2 listed a w) {i d j : Nat} (hi : (j, i, d) ∈ [(r, S0, D0), (r + 1, S1, D1), (r + 2, S2, D2)]) (hd : S0 ≠ S1 ∧ S0 ≠ S2 ∧ S1 ≠ S2) (hls : i < listed.size) (hr : r = 0 ∨ r = 3) :
    Stage wB s L steps n broken r A0 A1 A2 S0 S1 S2 D0 D1 D2 (listed.setIfInBounds i true) (a.put none undef) (w.setCell ⟨L.b, j + 1, none⟩ (a.tmps.getD d undef)) := by
  have hc := Chg.store w L.b (j + 1) (a.tmps.getD d undef)
  refine ⟨h.os, h.tape, h.output, Nat.le_trans h.size hc.size, fun g hg hne hj => ?_, ?_⟩
  · refine (hc.block g (Nat.lt_of_lt_of_le hg h.size) hne).trans (h.old g hg hne (fun j A hm hr hd => hj j A hm hr (done_mono hd)))
  · rw [setCell_at h.blk]
    have hself := done_self hls
    simp only [List.mem_cons, Prod.mk.injEq, List.not_mem_nil, or_false] at hi
    rcases hi with ⟨rfl, rfl, rfl⟩ | ⟨rfl, rfl, rfl⟩ | ⟨rfl, rfl, rfl⟩
    · rcases hr with rfl | rfl <;> simp [talCells, hself, done_set_ne hd.1.symm, done_set_ne hd.2.1.symm, Act.put]
    · rcases hr with rfl | rfl <;> simp [talCells, hself, done_set_ne hd.1, done_set_ne hd.2.2.symm, Act.put]
    · rcases hr with rfl | rfl <;> simp [talCells, hself, done_set_ne hd.2.1, done_set_ne hd.2.2, Act.put]
theorem Stage.start {wB : World} {s : Nat} {L : TalL} {steps n : Int} {broken : Bool} {N : Nat → Nat} {X : Nat → List Value} (h : RowsAt wB s L steps n broken N X) (r A0 A1 A2 S0 S1 S2 D0 D1 D2 sz : Nat) (a : Act) : Stage wB s L steps n broken r A0 A1 A2 S0 S1 S2 D0 D1 D2 (Array.replicate sz false) a wB.drew := by
  refine ⟨rfl, rfl, rfl, Nat.le_refl _, fun g _ _ _ => rfl, ?_⟩
  simp only [not_done_replicate, and_false, if_false]
  exact h.blk
end

section
variable {wB w : World} {s : Nat} {L : TalL} {N : Nat → Nat} {X : Nat → List Value} {steps n : Int} {broken : Bool} {r A0 A1 A2 S0 S1 S2 D0 D1 D2 : Nat} {listed : Array Bool} {a : Act}
theorem Stage.rowAt (h : Stage wB s L steps n broken r A0 A1 A2 S0 S1 S2 D0 D1 D2 listed a w) (hT : RowsAt wB s L steps n broken N X) {j A : Nat} (hj : (j, A) ∈ [(r, A0), (r + 1, A1), (r + 2, A2)]) (hr : r + 2 < 6) (hn : ¬ DoneAt listed A) : w.ownsRow 0 (rowT j) 1 (L.row j) (N j) (X j) := by
  have hj6 : j < 6 := by
    simp only [List.mem_cons, Prod.mk.injEq, List.not_mem_nil, or_false] at hj
    omega
  refine owns_same (hT.rows j hj6) (fun g hg => h.old g (owns_lt (hT.rows j hj6) hg) (fun e => hT.ne_b j hj6 (by rw [hg, e])) (fun j' A' hm hr' hd => hn ?_))
  have e : j' = j := hT.ne j' j g (by
    simp only [List.mem_cons, Prod.mk.injEq, List.not_mem_nil, or_false] at hm
    omega) hj6 hr' hg
  subst e
  simp only [List.mem_cons, Prod.mk.injEq, List.not_mem_nil, or_false] at hj hm
  have : A' = A := by omega
  rw [← this]
  exact hd
theorem Stage.cellAt (h : Stage wB s L steps n broken r A0 A1 A2 S0 S1 S2 D0 D1 D2 listed a w) {j S : Nat} (hj : (j, S) ∈ [(r, S0), (r + 1, S1), (r + 2, S2)]) (hr : r = 0 ∨ r = 3) (hn : ¬ DoneAt listed S) : w.cell? ⟨L.b, j + 1, none⟩ = some (L.row j) := by
  refine (cell_of_row w L.b (j + 1) _ _ (0, 0) h.blk).trans ?_
  simp only [List.mem_cons, Prod.mk.injEq, List.not_mem_nil, or_false] at hj
  rcases hj with ⟨rfl, rfl⟩ | ⟨rfl, rfl⟩ | ⟨rfl, rfl⟩ <;> rcases hr with rfl | rfl <;> simp [talCells, hn]
theorem Stage.cellN (h : Stage wB s L steps n broken r A0 A1 A2 S0 S1 S2 D0 D1 D2 listed a w) : w.cell? ⟨L.b, 7, none⟩ = some (.int .i64 steps) := (cell_of_row w L.b 7 _ _ (0, 0) h.blk).trans (by simp [talCells])
theorem Stage.free (h : Stage wB s L steps n broken r A0 A1 A2 S0 S1 S2 D0 D1 D2 listed a w) (o : Nat) : w.frozen? ⟨L.b, o, none⟩ = false := by simp [World.frozen?, h.blk]

set_option maxRecDepth 100000 in
theorem app_arm {ops : Array Oper} {o : Oper} {K : Act → World → Prop} {Q : Exit → Act → World → Prop} {B m : Nat} {e : TypeId} {z v0 xv x : Value} {xs : List Value} (hgd : o.guard = none) (so xo : Operand) (ty : TypeId)
    (ho : o.op = .call { callee := .builtin .append, args := #[so, xo], argTypes := #[ty, ty] }) (by_ : Nat) (hty : Tryz.prog.underlying ty = some (.slice e)) (hinfo : (Tryz.prog.info? e).map (fun i => (i.zero, i.size, i.bytes)) = some (some z, 1, by_)) (hz : z.cells.size = 1) (hby : by_ ≤ 100)
    (hs : a.eval so = v0) (hown : w.ownsRow 0 e 1 v0 m xs) (hx : a.eval xo = xv) (hb : pB B e x xv w) (h1 : x.oneCell' = true) (hm : m ≤ 1000) (hB : B ≤ w.heap.size)
    (h : ∀ v w', pA B e v0 m xs x v w' → Chg (fun g => v0.ownBlock = some g) w w' → (∀ g, v.ownBlock = some g → v0.ownBlock = some g ∨ w.heap.size ≤ g) → K (a.put o.dst v) w') : if Region.wanted o (yielded ops a.tmps) = true then Oper.wp Tryz.prog o a w K Q else True := by
  obtain ⟨i0, hi0, hz0, hz1, hz2⟩ := info_parts hinfo
  obtain ⟨b, rfl, hblk, hBb⟩ := hb
  refine step_append_lies w hgd so xo ty ho 0 e i0 z 1 by_ hty hi0 hz0 hz1 hz2 hz (by omega) v0 m xs hs hown ⟨b, 0, none⟩ 1 1 [x] hx rfl (World.news_of_block (cs := #[x]) hblk) (fun u hu => by rw [List.mem_singleton.1 hu]; exact h1) (by omega) (by unfold maxLen; omega) (Nat.le_trans (Nat.mul_le_mul (show m + 1 ≤ 1001 by omega) hby) (by omega)) (Nat.zero_le _) w.heap.size rfl ?_
  intro g cap w2 h2 h3 h4 _
  have hg : ∀ g', (Value.slice (some ⟨g, 0, none⟩) (m + 1) cap).ownBlock = some g' → v0.ownBlock = some g' ∨ w.heap.size ≤ g' := fun g' hg' => by
    have : g' = g := by injection hg' with hg'; exact hg'.symm
    rw [this]
    exact h4.imp id (fun e => by omega)
  exact h _ w2 ⟨h2, fun g' hg' => (hg g' hg').imp id (fun e => by omega)⟩ (Chg.grown h3) hg
end
theorem Stage.done {wB w : World} {s : Nat} {L : TalL} {N : Nat → Nat} {X : Nat → List Value} {steps n : Int} {broken : Bool} {r A0 A1 A2 S0 S1 S2 D0 D1 D2 : Nat} {listed : Array Bool} {a : Act} (h : Stage wB s L steps n broken r A0 A1 A2 S0 S1 S2 D0 D1 D2 listed a w) (hR : RowsAt wB s L steps n broken N X) (hr : r = 0 ∨ r = 3) (hS : DoneAt listed S0 ∧ DoneAt listed S1 ∧ DoneAt listed S2) (v x : Nat → Value) (h0 : a.tmps.getD D0 undef = v r) (h1 : a.tmps.getD D1 undef = v (r + 1)) (h2 : a.tmps.getD D2 undef = v (r + 2))
    (hp : ∀ j, r ≤ j → j ≤ r + 2 → pA wB.heap.size (rowT j) (L.row j) (N j) (X j) (x j) (v j) w) (hd : ∀ i j g, (r ≤ i ∧ i ≤ r + 2) → (r ≤ j ∧ j ≤ r + 2) → (v i).ownBlock = some g → (v j).ownBlock = some g → i = j) :
    RowsAt w s { L with row := fun j => if r ≤ j ∧ j ≤ r + 2 then v j else L.row j } steps n broken (fun j => if r ≤ j ∧ j ≤ r + 2 then N j + 1 else N j) (fun j => if r ≤ j ∧ j ≤ r + 2 then X j ++ [x j] else X j) ∧
      Chg (fun g => g = L.b ∨ ∃ j, (r ≤ j ∧ j ≤ r + 2) ∧ (L.row j).ownBlock = some g) wB w := by
  have hlt : ∀ j g, j < 6 → (L.row j).ownBlock = some g → g < wB.heap.size := fun j g hj hg => owns_lt (hR.rows j hj) hg
  have hC : Chg (fun g => g = L.b ∨ ∃ j, (r ≤ j ∧ j ≤ r + 2) ∧ (L.row j).ownBlock = some g) wB w := ⟨h.os, h.tape, h.output, h.size, fun g hg hn => h.old g hg (fun e => hn (.inl e)) (fun j A hm hr' _ => hn (.inr ⟨j, by
    simp only [List.mem_cons, Prod.mk.injEq, List.not_mem_nil, or_false] at hm
    omega, hr'⟩))⟩
  refine ⟨⟨?_, fun j hj => ?_, fun j hj e => ?_, fun i j g hi hj hgi hgj => ?_⟩, hC⟩
  · rw [h.blk]
    have e : talCells s (fun j => if j = r ∧ DoneAt listed S0 then a.tmps.getD D0 undef else if j = r + 1 ∧ DoneAt listed S1 then a.tmps.getD D1 undef else if j = r + 2 ∧ DoneAt listed S2 then a.tmps.getD D2 undef else L.row j) steps n broken = talCells s (fun j => if r ≤ j ∧ j ≤ r + 2 then v j else L.row j) steps n broken := by
      rw [h0, h1, h2]
      rcases hr with rfl | rfl <;> simp [talCells, hS.1, hS.2.1, hS.2.2]
    rw [e]
  · by_cases hj2 : r ≤ j ∧ j ≤ r + 2
    · simp only [if_pos hj2]
      exact (hp j hj2.1 hj2.2).1
    · simp only [if_neg hj2]
      refine owns_same (hR.rows j hj) (fun g hg => hC.block g (hlt j g hj hg) (fun hx => ?_))
      rcases hx with e | ⟨i, hi, e⟩
      · exact hR.ne_b j hj (by rw [hg, e])
      · have := hR.ne i j g (by omega) hj e hg
        omega
  · by_cases hj2 : r ≤ j ∧ j ≤ r + 2
    · simp only [if_pos hj2] at e
      rcases (hp j hj2.1 hj2.2).2 _ e with h3 | h3
      · exact hR.ne_b j hj h3
      · have := blk_lt hR.blk
        omega
    · simp only [if_neg hj2] at e
      exact hR.ne_b j hj e
  · by_cases hi2 : r ≤ i ∧ i ≤ r + 2
    · by_cases hj2 : r ≤ j ∧ j ≤ r + 2
      · simp only [if_pos hi2] at hgi
        simp only [if_pos hj2] at hgj
        exact hd i j g hi2 hj2 hgi hgj
      · simp only [if_pos hi2] at hgi
        simp only [if_neg hj2] at hgj
        rcases (hp i hi2.1 hi2.2).2 _ hgi with h3 | h3
        · exact hR.ne i j g hi hj h3 hgj
        · have := hlt j g hj hgj
          omega
    · by_cases hj2 : r ≤ j ∧ j ≤ r + 2
      · simp only [if_neg hi2] at hgi
        simp only [if_pos hj2] at hgj
        rcases (hp j hj2.1 hj2.2).2 _ hgj with h3 | h3
        · exact hR.ne i j g hi hj hgi h3
        · have := hlt i g hi hgi
          omega
      · simp only [if_neg hi2] at hgi
        simp only [if_neg hj2] at hgj
        exact hR.ne i j g hi hj hgi hgj
theorem pA.typ {B : Nat} {T T' : TypeId} {v0 v0' x x' v v' : Value} {n n' : Nat} {xs xs' : List Value} {w : World} {g : Nat} (h : pA B T v0 n xs x v w) (h' : pA B T' v0' n' xs' x' v' w) (hg : v.ownBlock = some g) (hg' : v'.ownBlock = some g) : T = T' := by
  obtain ⟨c, hc⟩ := owns_typ h.1 hg
  obtain ⟨c', hc'⟩ := owns_typ h'.1 hg'
  rw [hc] at hc'
  injection hc' with e
  injection e
theorem TaleAt.begun {w0 : Gr} {w2 w3 W : World} {L L3 : EnL} {E E' : Eng} {TL : TalL} {t : Tal} {level : Int} {row' : Nat → Value} {av : Value} {m : Nat} (H2 : TaleAt w0 w2 L E TL t) (hE3 : EnAt w3 L3 E') (hlen : E'.txs.length = E.txs.length + 1) (hK3 : KeptO L.own L3.own w2 w3) (hs3 : L3.s = L.s)
    (hav : w2.ownsRow 0 78 2 av (allE E).length (vrow (allE E))) (havT : ∀ g, av.ownBlock = some g → ¬ TL.own g ∧ ¬ L.own g ∧ ¬ w0.P g)
    (hb : W.heap[TL.b]? = some (.cells (talCells L.s row' t.steps t.n t.broken) 67 (0, 0)))
    (hrow : ∀ j, j < 6 → W.ownsRow 0 (rowT j) 1 (row' j) (E.txs.length + 1) (TL.rowX t j ++ [newX level t.steps av m j]) ∧ ∀ g, (row' j).ownBlock = some g → (TL.row j).ownBlock = some g ∨ w3.heap.size ≤ g)
    (hd : ∀ i j g, i < 6 → j < 6 → (row' i).ownBlock = some g → (row' j).ownBlock = some g → i = j)
    (hm : IMap W m 10 (fun _ => none)) (hm2 : w3.heap.size ≤ m) (hC : Chg (fun g => g = TL.b ∨ ∃ j, j < 6 ∧ (TL.row j).ownBlock = some g) w3 W) : TaleAt w0 W L3 E' (moreL TL row' av m) (beginT E t level) := by
  have h3 : TalAt w3 L.s TL t E.txs.length := H2.tal.same (fun g hg => hK3.block g (H2.tal.own_lt hg) (H2.apart g hg))
  have hlt : ∀ g, av.ownBlock = some g → g < w2.heap.size := fun g hg => owns_lt hav hg
  have hav3 : ∀ g, av.ownBlock = some g → W.heap[g]? = w2.heap[g]? := fun g hg => (hC.block g (Nat.lt_of_lt_of_le (hlt g hg) hK3.size) (fun h => (havT g hg).1 (h.elim .inl (fun ⟨j, hj, e⟩ => .inr (.inl ⟨j, hj, e⟩))))).trans (hK3.block g (hlt g hg) (havT g hg).2.1)
  obtain ⟨hT, hown, hkeep⟩ := h3.more (E := E) (level := level) hb hrow hd (owns_same hav hav3) (fun g hg => ⟨(havT g hg).1, Nat.lt_of_lt_of_le (hlt g hg) hK3.size⟩) hm hm2 (fun g hg h1 h2 => hC.block g hg (fun h => h.elim h1 (fun ⟨j, hj, e⟩ => h2 j hj e)))
  have hap : ∀ g, TL.own g → ¬ L3.own g := fun g hg hg' => (hK3.sub g hg').elim (H2.apart g hg) (fun e => by have := H2.tal.own_lt hg; omega)
  refine ⟨hE3.same (fun g hg => hkeep g (hE3.own_lt hg) (fun h => hap g h hg)), by rw [hs3, hlen]; exact hT, fun g hg hg' => ?_, fun g hg => ?_, fun g hg => ?_, ?_⟩
  · rcases hown g hg with h | h | h
    · exact hap g h hg'
    · have := hE3.own_lt hg'; omega
    · exact (hK3.sub g hg').elim (havT g h).2.1 (fun e => by have := hlt g h; omega)
  · exact (hK3.sub g hg).elim (H2.newE g) (fun e => H2.kept.new e)
  · rcases hown g hg with h | h | h
    · exact H2.newT g h
    · exact H2.kept.new (Nat.le_trans hK3.size h)
    · exact (havT g h).2.2
  · refine (H2.kept.go hK3 H2.newE).go (o := fun g => g = TL.b ∨ ∃ j, j < 6 ∧ (TL.row j).ownBlock = some g) (o' := fun _ => False) ⟨hC.os, hC.tape, hC.output, hC.size, fun g hg hn => hC.block g hg hn, fun _ hf => hf.elim⟩ (fun g h => ?_)
    exact H2.newT g (h.elim .inl (fun ⟨j, hj, e⟩ => .inr (.inl ⟨j, hj, e⟩)))
theorem infoWs : (Tryz.prog.info? 23).map (fun i => (i.zero, i.size, i.bytes)) = some (some (.slice none 0 0), 1, 24) := by kernel_rfl
theorem infoMp : (Tryz.prog.info? 69).map (fun i => (i.zero, i.size, i.bytes)) = some (some (.map none), 1, 8) := by kernel_rfl
theorem infoSs : (Tryz.prog.info? 73).map (fun i => (i.zero, i.size, i.bytes)) = some (some (.slice none 0 0), 1, 24) := by kernel_rfl
theorem infoSeen : (Tryz.prog.info? 75).map (fun i => (i.zero, i.size, i.bytes)) = some (some (.agg #[.int .i64 0, .int .i64 0]), 2, 16) := by kernel_rfl
theorem infoI : (Tryz.prog.info? 3).map (fun i => (i.zero, i.size, i.bytes)) = some (some (.int .i64 0), 1, 8) := by kernel_rfl

end Go.Proofs.YtjefgmeejhakbaaGreatDoor

/- The tale when it notes a read, a write, who is over. -/
namespace Go.Proofs.YtjefgmeejhakbaaGreatDoor
open Go.RowKit

theorem owns_set {w : World} {base g n cap i : Nat} {e : TypeId} {xs : List Value} {u : Value} (h : w.ownsRow base e 1 (.slice (some ⟨g, 0, none⟩) n cap) n xs) : (w.setCell ⟨g, i, none⟩ u).ownsRow base e 1 (.slice (some ⟨g, 0, none⟩) n cap) n (xs.set i u) := by
  refine ⟨by rw [List.length_set]; exact h.1, ?_⟩
  rcases h.2 with ⟨e1, _⟩ | ⟨g', cap', cur, e1, hb, hc, h1, h2, h3, h4⟩
  · cases e1
  · injection e1 with e1 e2 e3
    injection e1 with e1
    injection e1 with e1
    subst e1
    subst e3
    refine .inr ⟨g, cap, cur.setIfInBounds i u, rfl, hb, setCell_at hc, h1, h2, by simpa using h3, ?_⟩
    rw [← h4, Array.toList_setIfInBounds, List.take_set]

section
variable {w w1 : World} {s N : Nat} {L : TalL} {t : Tal}
theorem rowX_over (L : TalL) (t : Tal) (l : List Int) (j : Nat) (hj : j < 6) : L.rowX { t with over := l } j = if j = 5 then intsV l else L.rowX t j := by
  obtain rfl | rfl | rfl | rfl | rfl | rfl : j = 0 ∨ j = 1 ∨ j = 2 ∨ j = 3 ∨ j = 4 ∨ j = 5 := by omega
  all_goals rfl
theorem TalAt.setOver (h : TalAt w s L t N) {g cap i : Nat} (hr : L.row 5 = .slice (some ⟨g, 0, none⟩) N cap) (x : Int) :
    TalAt (w.setCell ⟨g, i, none⟩ (.int .i64 x)) s L { t with over := t.over.set i x } N ∧ KeptO L.own L.own w (w.setCell ⟨g, i, none⟩ (.int .i64 x)) := by
  obtain ⟨ρ, T⟩ := h.tag
  have hg : (L.row 5).ownBlock = some g := by rw [hr]; rfl
  have ho : ∀ b, b ≠ g → (w.setCell ⟨g, i, none⟩ (.int .i64 x)).heap[b]? = w.heap[b]? := fun b hb => heap_setCell_other _ _ _ _ hb
  have hρ := T.row 5 g (by omega) hg
  have hne : ∀ b, ρ b ≠ .row 5 → b ≠ g := fun b hb e => hb (by rw [e]; exact hρ)
  refine ⟨⟨(ho _ (hne _ (by rw [T.b]; exact nofun))).trans h.blk, fun j hj => ?_, fun i v l hv hl => owns_same (h.sn i v l hv hl) (fun b hb => ho b (hne b (by rw [T.sn i v b hv hb]; exact nofun))), fun i b f hb hf => ⟨(h.om i b f hb hf).1.same (ho b (hne b (by rw [T.om i b hb]; exact nofun))), (h.om i b f hb hf).2⟩,
    fun i v l hv hl => owns_same (h.rd i v l hv hl) (fun b hb => ho b (hne b (by rw [T.rd i v b hv hb]; exact nofun))), ⟨h.len.level, h.len.snap, h.len.own, h.len.reads, h.len.begun, by simpa using h.len.over, h.len.sn, h.len.om, h.len.rd⟩, ρ, T⟩,
    ⟨rfl, rfl, rfl, by simp, fun b _ hb => ho b (fun e => hb (.inr (.inl ⟨5, by omega, by rw [e]; exact hg⟩))), fun _ hb => .inl hb⟩⟩
  rw [rowX_over L t _ j hj]
  by_cases e : j = 5
  · subst e
    rw [if_pos rfl, hr]
    have h5 := h.rows 5 (by omega)
    rw [hr] at h5
    have := owns_set (i := i) (u := .int .i64 x) h5
    rw [show L.rowX t 5 = intsV t.over from rfl] at this
    have e2 : intsV (t.over.set i x) = (intsV t.over).set i (.int .i64 x) := by simp [intsV, List.map_set]
    rw [e2]
    exact this
  · rw [if_neg e]
    exact owns_same (h.rows j hj) (fun b hb => ho b (hne b (by rw [T.row j b hj hb]; intro e2; injection e2 with e2; exact e e2)))
theorem TalAt.setOwn (h : TalAt w s L t N) {x b : Nat} {f : Int → Option Int} (hb : L.om[x]? = some b) (hf : t.own[x]? = some f) {key val : Int} (hk : 0 ≤ key ∧ key < 10) :
    ∃ w', (Instr.mapUpdate 69 (.map (some b)) (.int .i64 key) (.int .i64 val)).run Tryz.prog w = .ok () w' ∧ TalAt w' s L { t with own := t.own.set x (updT f key (some val)) } N ∧ KeptO L.own L.own w w' := by
  obtain ⟨ρ, T⟩ := h.tag
  have h0 := h.om x b f hb hf
  obtain ⟨w', hr, hI, hg⟩ := h0.1.store Tryz.underlying69 (by unfold maxLen; omega) (show I64 key by unfold I64; omega) (.int .i64 val)
  rw [show updT (fun k => (f k).map (Value.int .i64)) key (some (.int .i64 val)) = fun k => (updT f key (some val) k).map (Value.int .i64) from (updT_map f key (some val)).symm] at hI
  have hu : ∀ k, updT f key (some val) k ≠ none → 0 ≤ k ∧ k < 10 := fun k hk' => by
    by_cases e : k = key
    · rw [e]; exact hk
    · rw [updT_other _ _ e] at hk'; exact h0.2 k hk'
  have hI10 := hI.upTo 10 (fun a ha => hu a (fun e => ha (by rw [e]; rfl)))
  have ho : ∀ c, c < w.heap.size → c ≠ b → w'.heap[c]? = w.heap[c]? := fun c hc hne => hg.block c hc (fun e => hne (by injection e))
  have hρ := T.om x b hb
  have hne : ∀ c, L.own c → ρ c ≠ .om x → w'.heap[c]? = w.heap[c]? := fun c hc hn => ho c (h.own_lt hc) (fun e => hn (by rw [e]; exact hρ))
  have hx := (List.getElem?_eq_some_iff.1 hf).1
  refine ⟨w', hr, ⟨(hne _ (.inl rfl) (by rw [T.b]; exact nofun)).trans h.blk, fun j hj => ?_, fun i v l hv hl => owns_same (h.sn i v l hv hl) (fun c hc => hne c (.inr (.inr (.inl ⟨i, v, hv, hc⟩))) (by rw [T.sn i v c hv hc]; exact nofun)), fun i c q hc hq => ?_,
    fun i v l hv hl => owns_same (h.rd i v l hv hl) (fun c hc => hne c (.inr (.inr (.inr (.inr ⟨i, v, hv, hc⟩)))) (by rw [T.rd i v c hv hc]; exact nofun)), ⟨h.len.level, h.len.snap, by simpa using h.len.own, h.len.reads, h.len.begun, h.len.over, h.len.sn, h.len.om, h.len.rd⟩, ρ, T⟩,
    ⟨hg.os, hg.tape, hg.output, hg.size, fun c hc hn => ho c hc (fun e => hn (.inr (.inr (.inr (.inl ⟨x, by rw [e]; exact hb⟩))))), fun _ hc => .inl hc⟩⟩
  · have e : L.rowX { t with own := t.own.set x (updT f key (some val)) } j = L.rowX t j := by unfold TalL.rowX; split <;> rfl
    rw [e]
    exact owns_same (h.rows j hj) (fun c hc => hne c (.inr (.inl ⟨j, hj, hc⟩)) (by rw [T.row j c hj hc]; exact nofun))
  · simp only [List.getElem?_set] at hq
    by_cases e : x = i
    · subst e
      rw [if_pos rfl, if_pos hx] at hq
      cases hq
      rw [hb] at hc
      cases hc
      exact ⟨hI10, hu⟩
    · rw [if_neg e] at hq
      have h1 := h.om i c q hc hq
      exact ⟨h1.1.same (hne c (.inr (.inr (.inr (.inl ⟨i, hc⟩)))) (by rw [T.om i c hc]; intro e2; injection e2 with e2; exact e e2.symm)), h1.2⟩
theorem rowX_reads (L : TalL) (t : Tal) (rd : List Value) (l : List (List (Int × Int))) (j : Nat) (hj : j < 6) : ({ L with rd := rd } : TalL).rowX { t with reads := l } j = if j = 3 then rd else L.rowX t j := by
  obtain rfl | rfl | rfl | rfl | rfl | rfl : j = 0 ∨ j = 1 ∨ j = 2 ∨ j = 3 ∨ j = 4 ∨ j = 5 := by omega
  all_goals rfl
theorem TalAt.setRead (h : TalAt w s L t N) {x g cap : Nat} {v v' : Value} {l l' : List (Int × Int)} (hv : L.rd[x]? = some v) (hl : t.reads[x]? = some l) (hr : L.row 3 = .slice (some ⟨g, 0, none⟩) N cap) (hc : Chg (fun b => v.ownBlock = some b) w w1) (hown : w1.ownsRow 0 75 2 v' l'.length (vrow l')) (hv' : ∀ b, v'.ownBlock = some b → v.ownBlock = some b ∨ w.heap.size ≤ b) :
    TalAt (w1.setCell ⟨g, x, none⟩ v') s { L with rd := L.rd.set x v' } { t with reads := t.reads.set x l' } N ∧ KeptO L.own ({ L with rd := L.rd.set x v' } : TalL).own w (w1.setCell ⟨g, x, none⟩ v') := by
  obtain ⟨ρ, T⟩ := h.tag
  have hg : (L.row 3).ownBlock = some g := by rw [hr]; rfl
  have hglt := owns_lt (h.rows 3 (by omega)) hg
  have hρg := T.row 3 g (by omega) hg
  have hx := (List.getElem?_eq_some_iff.1 hl).1
  have hxr := (List.getElem?_eq_some_iff.1 hv).1
  have ho1 : ∀ b, b ≠ g → (w1.setCell ⟨g, x, none⟩ v').heap[b]? = w1.heap[b]? := fun b hb => heap_setCell_other _ _ _ _ hb
  have ho : ∀ b, L.own b → ρ b ≠ .row 3 → ρ b ≠ .rd x → (w1.setCell ⟨g, x, none⟩ v').heap[b]? = w.heap[b]? := fun b hb h1 h2 => (ho1 b (fun e => h1 (by rw [e]; exact hρg))).trans (hc.block b (h.own_lt hb) (fun e => h2 (T.rd x v b hv e)))
  have hrow3 : w1.ownsRow 0 (rowT 3) 1 (L.row 3) N (L.rowX t 3) := owns_same (h.rows 3 (by omega)) (fun b hb => hc.block b (owns_lt (h.rows 3 (by omega)) hb) (fun e => by
    have h1 := T.row 3 b (by omega) hb
    rw [T.rd x v b hv e] at h1
    cases h1))
  have hne' : ∀ b, v'.ownBlock = some b → b ≠ g := fun b hb e => by
    rcases hv' b hb with h1 | h1
    · have := T.rd x v b hv h1
      rw [e, hρg] at this
      cases this
    · omega
  refine ⟨⟨(ho _ (.inl rfl) (by rw [T.b]; exact nofun) (by rw [T.b]; exact nofun)).trans h.blk, fun j hj => ?_, fun i u m hu hm => owns_same (h.sn i u m hu hm) (fun c hc => ho c (.inr (.inr (.inl ⟨i, u, hu, hc⟩))) (by rw [T.sn i u c hu hc]; exact nofun) (by rw [T.sn i u c hu hc]; exact nofun)),
    fun i c q hc hq => ⟨(h.om i c q hc hq).1.same (ho c (.inr (.inr (.inr (.inl ⟨i, hc⟩)))) (by rw [T.om i c hc]; exact nofun) (by rw [T.om i c hc]; exact nofun)), (h.om i c q hc hq).2⟩, fun i u m hu hm => ?_,
    ⟨h.len.level, h.len.snap, h.len.own, by simpa using h.len.reads, h.len.begun, h.len.over, h.len.sn, h.len.om, by simpa using h.len.rd⟩, fun b => if b < w.heap.size then ρ b else .rd x, ?_⟩, ?_⟩
  · rw [rowX_reads L t _ _ j hj]
    by_cases e : j = 3
    · subst e
      rw [if_pos rfl]
      show World.ownsRow _ 0 _ 1 (L.row 3) N _
      rw [hr] at hrow3 ⊢
      exact owns_set hrow3
    · rw [if_neg e]
      refine owns_same (h.rows j hj) (fun c hc => ho c (.inr (.inl ⟨j, hj, hc⟩)) (by rw [T.row j c hj hc]; intro e2; injection e2 with e2; exact e e2) (by rw [T.row j c hj hc]; exact nofun))
  · simp only [List.getElem?_set] at hu hm
    by_cases e : x = i
    · subst e
      rw [if_pos rfl, if_pos hxr] at hu
      rw [if_pos rfl, if_pos hx] at hm
      cases hu
      cases hm
      exact owns_same hown (fun b hb => ho1 b (hne' b hb))
    · rw [if_neg e] at hu hm
      exact owns_same (h.rd i u m hu hm) (fun c hc => ho c (.inr (.inr (.inr (.inr ⟨i, u, hu, hc⟩)))) (by rw [T.rd i u c hu hc]; exact nofun) (by rw [T.rd i u c hu hc]; intro e2; injection e2 with e2; exact e e2.symm))
  · have hlt : ∀ b, L.own b → (if b < w.heap.size then ρ b else TTag.rd x) = ρ b := fun b hb => if_pos (h.own_lt hb)
    refine ⟨(hlt _ (.inl rfl)).trans T.b, fun j b hj hb => (hlt b (.inr (.inl ⟨j, hj, hb⟩))).trans (T.row j b hj hb), fun i u b hu hb => (hlt b (.inr (.inr (.inl ⟨i, u, hu, hb⟩)))).trans (T.sn i u b hu hb), fun i b hb => (hlt b (.inr (.inr (.inr (.inl ⟨i, hb⟩))))).trans (T.om i b hb), fun i u b hu hb => ?_⟩
    simp only [List.getElem?_set] at hu
    by_cases e : x = i
    · subst e
      rw [if_pos rfl, if_pos hxr] at hu
      cases hu
      rcases hv' b hb with h1 | h1
      · exact (hlt b (.inr (.inr (.inr (.inr ⟨x, v, hv, h1⟩))))).trans (T.rd x v b hv h1)
      · exact if_neg (by omega)
    · rw [if_neg e] at hu
      exact (hlt b (.inr (.inr (.inr (.inr ⟨i, u, hu, hb⟩))))).trans (T.rd i u b hu hb)
  · refine ⟨hc.os, hc.tape, hc.output, by simpa using hc.size, fun b hb hn => (ho1 b (fun e => hn (.inr (.inl ⟨3, by omega, by rw [e]; exact hg⟩)))).trans (hc.block b hb (fun e => hn (.inr (.inr (.inr (.inr ⟨x, v, hv, e⟩)))))), fun b hb => ?_⟩
    rcases hb with hb | hb | hb | hb | ⟨i, u, hu, hb⟩
    · exact .inl (.inl hb)
    · exact .inl (.inr (.inl hb))
    · exact .inl (.inr (.inr (.inl hb)))
    · exact .inl (.inr (.inr (.inr (.inl hb))))
    · simp only [List.getElem?_set] at hu
      by_cases e : x = i
      · subst e
        rw [if_pos rfl, if_pos hxr] at hu
        cases hu
        rcases hv' b hb with h1 | h1
        · exact .inl (.inr (.inr (.inr (.inr ⟨x, v, hv, h1⟩))))
        · exact .inr h1
      · rw [if_neg e] at hu
        exact .inl (.inr (.inr (.inr (.inr ⟨i, u, hu, hb⟩))))
theorem TalAt.setHead (h : TalAt w s L t N) {o : Nat} {u : Value} {steps n : Int} {broken : Bool} (hc : (talCells s L.row t.steps t.n t.broken).setIfInBounds o u = talCells s L.row steps n broken) :
    TalAt (w.setCell ⟨L.b, o, none⟩ u) s L { t with steps := steps, n := n, broken := broken } N ∧ KeptO L.own L.own w (w.setCell ⟨L.b, o, none⟩ u) := by
  have ho : ∀ g, g ≠ L.b → (w.setCell ⟨L.b, o, none⟩ u).heap[g]? = w.heap[g]? := fun g hg => heap_setCell_other _ _ _ _ hg
  refine ⟨h.head ?_ (fun g _ hg => ho g hg), rfl, rfl, rfl, by simp, fun g _ hn => ho g (fun e => hn (.inl e)), fun _ hg => .inl hg⟩
  rw [setCell_at h.blk, hc]
end

end Go.Proofs.YtjefgmeejhakbaaGreatDoor

/- (*writers).add. -/
namespace Go.Proofs.YtjefgmeejhakbaaGreatDoor
open Go.RowKit

theorem firstV_known {s : List Int} {x : Int} {i : Nat} (h : firstAt x s = some i) : firstV (s ++ [x]) = firstV s := by
  funext y
  unfold firstV
  rw [firstAt_append]
  cases hy : firstAt y s with
  | some j => rfl
  | none =>
    have : x ≠ y := fun e => by subst e; rw [h] at hy; cases hy
    simp [this]
theorem firstV_new {s : List Int} {x : Int} (h : firstAt x s = none) : firstV (s ++ [x]) = updT (firstV s) x (some (.int .i64 (s.length : Nat))) := by
  funext y
  by_cases e : y = x
  · subst e
    rw [updT_same]
    unfold firstV
    rw [firstAt_append, h]
    simp
  · rw [updT_other _ _ e]
    unfold firstV
    rw [firstAt_append]
    cases hy : firstAt y s with
    | some j => rfl
    | none => simp [show x ≠ y from fun e2 => e e2.symm]
theorem updN_id {α : Type} {f : Nat → α} {k : Nat} {v : α} (h : f k = v) : updN f k v = f := by
  funext j
  by_cases e : j = k
  · subst e; rw [updN_same, h]
  · rw [updN_other _ _ e]
theorem firstV_nil : firstV [] = fun _ => none := by funext y; rfl

section
variable {w wz w4 : World} {K : Nat} {av : Nat → Value} {mv : Nat → Option Nat} {S : Nat → List Int} {k b : Nat} {x : Int} {a : Value}
structure AddMid (w wz : World) (K : Nat) (av : Nat → Value) (mv : Nat → Option Nat) (S : Nat → List Int) (k b : Nat) (x : Int) : Prop where
  blk : wz.heap[K]? = some (.cells (keyCells av (updN mv k (some b))) 133 (0, 0))
  keep : ∀ c, c < w.heap.size → c ≠ K → mv k ≠ some c → wz.heap[c]? = w.heap[c]?
  size : w.heap.size ≤ wz.heap.size
  oses : wz.os = w.os ∧ wz.tape = w.tape ∧ wz.output = w.output
  map : IMap wz b (S k ++ [x]).length (firstV (S k ++ [x]))
  old : mv k = some b ∨ w.heap.size ≤ b
theorem AddMid.row (m : AddMid w wz K av mv S k b x) (h : KeysAt w K av mv S) (hk : k < 10) : wz.ownsRow 0 3 1 (av k) (S k).length (intsV (S k)) :=
  owns_same (h.row k hk) (fun g e => m.keep g ((h.row k hk).lt g e).2 (fun e2 => h.rowNe hk (e2 ▸ e)) (h.mapRow hk hk e))
theorem AddMid.c0 (m : AddMid w wz K av mv S k b x) (hk : k < 10) : wz.cell? ⟨K, k * 2, none⟩ = some (av k) := (cell_of_row wz K (k * 2) _ _ (0, 0) m.blk).trans (keyCells_even av _ hk)
theorem AddMid.app (m : AddMid w wz K av mv S k b x) (h : KeysAt w K av mv S) (hk : k < 10) {r : Option Nat} (hr : r = (av k).ownBlock) (hg : (wz.alloc (.cells #[.int .i64 x] 3)).grownBy w4 r) :
    w4.heap[K]? = some (.cells (keyCells av (updN mv k (some b))) 133 (0, 0)) ∧ w4.cell? ⟨K, k * 2, none⟩ = some (av k) ∧ w4.frozen? ⟨K, k * 2, none⟩ = false := by
  subst hr
  have hK : K < wz.heap.size := (Array.getElem?_eq_some_iff.1 m.blk).1
  have h1 : w4.heap[K]? = some (.cells (keyCells av (updN mv k (some b))) 133 (0, 0)) :=
    (hg.block K (by simp; omega) (fun e => h.rowNe hk e.symm)).trans ((Below.heap_alloc _ _ K hK).trans m.blk)
  exact ⟨h1, (cell_of_row w4 K (k * 2) _ _ (0, 0) h1).trans (keyCells_even av _ hk), by simp [World.frozen?, h1]⟩
theorem AddMid.done (m : AddMid w wz K av mv S k b x) (h : KeysAt w K av mv S) (hk : k < 10) {r : Option Nat} (hr : r = (av k).ownBlock) (hg : (wz.alloc (.cells #[.int .i64 x] 3)).grownBy w4 r)
    (ho : w4.ownsRow 0 3 1 a (S k ++ [x]).length (intsV (S k ++ [x]))) (ha : ∀ g, a.ownBlock = some g → (av k).ownBlock = some g ∨ w.heap.size ≤ g) :
    KeysAt (w4.setCell ⟨K, k * 2, none⟩ a) K (updN av k a) (updN mv k (some b)) (updN S k (S k ++ [x])) ∧ KeptO (keysOwn K av mv) (keysOwn K (updN av k a) (updN mv k (some b))) w (w4.setCell ⟨K, k * 2, none⟩ a) := by
  subst hr
  obtain ⟨h1, _, _⟩ := m.app h hk rfl hg
  have hgs := hg.size
  have hsz : wz.heap.size ≤ w4.heap.size := by simp at hgs; omega
  have hne : ∀ g, a.ownBlock = some g → g ≠ K := fun g e e2 => by
    rcases ha g e with e3 | e3
    · exact h.rowNe hk (e2 ▸ e3)
    · have := h.lt; omega
  have hbz : b < wz.heap.size := m.map.lt
  have hbK : b ≠ K := m.map.ne m.blk
  have hbr : (av k).ownBlock ≠ some b := fun e => by
    rcases m.row h hk with ⟨_, ⟨e2, _⟩ | ⟨g', cap, cur, e2, _, hc, _⟩⟩
    · rw [e2] at e; cases e
    · rw [e2] at e; cases e; exact m.map.ne hc rfl
  refine h.turn hk ?_ (owns_same ho (fun g e => heap_setCell_other w4 ⟨K, k * 2, none⟩ g a (hne g e))) (.inr ⟨b, rfl, ?_⟩) ⟨fun e => (by cases e), fun e => (by simp at e)⟩ ?_ (by simp; have := m.size; omega) ⟨hg.os.trans m.oses.1, hg.tape.trans m.oses.2.1, hg.output.trans m.oses.2.2⟩ ha (fun c e => (by cases e; exact m.old))
  · rw [← keyCells_setA]
    exact heap_setCell_same w4 K (k * 2) _ _ a h1
  · refine m.map.same ?_
    exact (heap_setCell_other w4 ⟨K, k * 2, none⟩ b a hbK).trans ((hg.block b (by simp; omega) (fun e => hbr e.symm)).trans (Below.heap_alloc _ _ b hbz))
  · intro c hc hcK hcr hcm
    have hcz : c < wz.heap.size := Nat.lt_of_lt_of_le hc m.size
    exact (heap_setCell_other w4 ⟨K, k * 2, none⟩ c a hcK).trans ((hg.block c (by simp; omega) (fun e => hcr e.symm)).trans ((Below.heap_alloc _ _ c hcz).trans (m.keep c hc hcK hcm)))
end

set_option maxRecDepth 100000 in
set_option maxHeartbeats 1000000 in
theorem add_same (K k : Nat) (av : Nat → Value) (mv : Nat → Option Nat) (S : Nat → List Int) (x : Int) (w : World) (h : KeysAt w K av mv S) (hk : k < 10) (hn : (S k).length ≤ 100000) (hl : (S k).getLast? = some x) :
    Calls Tryz.prog 122 #[.pointer (some ⟨K, k * 2, none⟩), .int .i64 x] w fun e w' => e = .returned (.tuple #[]) ∧ w' = w := by
  have hne : S k ≠ [] := fun e => by rw [e] at hl; cases hl
  have hpos : 0 < (S k).length := List.length_pos_iff.2 hne
  obtain ⟨n, hnn⟩ : ∃ n, (S k).length = n + 1 := ⟨(S k).length - 1, by omega⟩
  have c0 := h.c0 hk
  rcases row_slice (h.row k hk) with ⟨_, e0⟩ | ⟨g, cap, e, _, hc⟩
  · omega
  · have cl := hc n (.int .i64 x) (intsV_get (by rw [List.getLast?_eq_getElem?, hnn] at hl; exact hl))
    rw [e, hnn] at c0
    clear h hc hl e
    go_enter Tryz.func122, Tryz.ntmps122
    go_wp2
    refine bodyPost_ret (results_none rfl _ _ _) rfl ?_
    exact ⟨rfl, rfl⟩

set_option maxRecDepth 100000 in
set_option maxHeartbeats 400000 in
theorem add_old (K k b : Nat) (av : Nat → Value) (mv : Nat → Option Nat) (S : Nat → List Int) (x : Int) (w : World) (h : KeysAt w K av mv S) (hk : k < 10) (hn : (S k).length ≤ 100000) (hx : I64 x) (hl : (S k).getLast? ≠ some x) (hb : mv k = some b) :
    Calls Tryz.prog 122 #[.pointer (some ⟨K, k * 2, none⟩), .int .i64 x] w fun e w' => e = .returned (.tuple #[]) ∧ ∃ av' mv', KeysAt w' K av' mv' (updN S k (S k ++ [x])) ∧ KeptO (keysOwn K av mv) (keysOwn K av' mv') w w' := by
  obtain ⟨i0, hi0, hz0, hz1, hz2⟩ := info_parts info3
  have hne : S k ≠ [] := fun e => by rw [(h.nil k hk).2 e] at hb; cases hb
  have hpos : 0 < (S k).length := List.length_pos_iff.2 hne
  obtain ⟨n, hnn⟩ : ∃ n, (S k).length = n + 1 := ⟨(S k).length - 1, by omega⟩
  have c0 := h.c0 hk
  have c1 := h.c1 hk
  have he := eqlSome b
  have hI : IMap w b (S k).length (firstV (S k)) := MapIs.at (hb ▸ h.map k hk)
  have hlk := hI.look Tryz.underlying69 (zeroI w) hx
  obtain ⟨y, hy⟩ : ∃ y, (S k)[n]? = some y := ⟨(S k)[n], List.getElem?_eq_getElem (by omega)⟩
  have hyx : (y == x) = false := by
    rw [List.getLast?_eq_getElem?, hnn, Nat.add_sub_cancel, hy] at hl
    simpa using hl
  rw [hb] at c1
  rcases row_slice (h.row k hk) with ⟨_, e0⟩ | ⟨g, cap, e, _, hc⟩
  · omega
  · have cl := hc n (.int .i64 y) (intsV_get hy)
    have HE := hid e
    rw [e, hnn] at c0
    have HH := hid h
    have HN := hid hnn
    cases hf : firstAt x (S k) with
    | some i =>
      have hlk2 : (Instr.lookup 69 (.map (some b)) (.int .i64 x) true).run Tryz.prog w = .ok (.tuple #[.int .i64 (i : Nat), .bool true]) w := by rw [hlk]; simp [firstV, hf]
      have hm : AddMid w w K av mv S k b x := ⟨by rw [updN_id hb]; exact h.blk, fun _ _ _ _ => rfl, Nat.le_refl _, ⟨rfl, rfl, rfl⟩, by rw [firstV_known hf]; exact hI.mono (by simp), .inl hb⟩
      have HM := hid hm
      have hro := hm.row h hk
      rw [e, hnn] at hro
      have HRow := hid hro
      have hn2 : n ≤ 100000 := by omega
      clear h hc hl hlk hI hm hy hf e hro hnn hpos hn hne
      go_enter Tryz.func122, Tryz.ntmps122
      go_wp2_with (at_builtin; refine wpList_append_lies _ rfl _ _ _ rfl 0 3 i0 _ 1 8 Tryz.underlying29 hi0 hz0 hz1 hz2 rfl (by omega) (.slice (some ⟨g, 0, none⟩) (n + 1) cap) (n + 1) (intsV (S k)) rfl (HRow.out.alloc _) ⟨w.heap.size, 0, none⟩ 1 1 [.int .i64 x] rfl rfl (World.news_of_block (cs := #[.int .i64 x]) (t := 3) (fr := (0, 0)) (heap_alloc_new w _)) (by simp [Value.oneCell']) (by omega) (by unfold maxLen; omega) (by omega) (by simp) (w.heap.size + 1) (by simp) ?_; intro g4 cap4 w4 ho4 hgrow4 hat4 hlt4; have hap := HM.out.app HH.out hk (by rw [HE.out]; rfl) hgrow4; have ca := hap.2.1; have fa := hap.2.2; rw [HE.out, HN.out] at ca; clear hap)
      refine bodyPost_end (results_none rfl _ _ _) rfl ?_
      have hms := HM.out.size
      have hd := HM.out.done HH.out hk (by rw [HE.out]; rfl) hgrow4 (a := .slice (some ⟨g4, 0, none⟩) (n + 1 + 1) cap4) (by rw [List.length_append, HN.out, intsV_append]; exact ho4) (fun g' e => (by
        cases e
        rcases hat4 with e | e
        · exact .inl (by rw [HE.out]; exact e)
        · exact .inr (by show w.heap.size ≤ g4; omega)))
      exact ⟨rfl, _, _, hd⟩
    | none =>
      have hlk2 : (Instr.lookup 69 (.map (some b)) (.int .i64 x) true).run Tryz.prog w = .ok (.tuple #[.int .i64 0, .bool false]) w := by rw [hlk]; simp [firstV, hf]
      obtain ⟨w1, hrun, hI1, hg1⟩ := hI.store Tryz.underlying69 (by unfold maxLen; omega) hx (.int .i64 ((S k).length : Nat))
      have hkp : ∀ c, c < w.heap.size → c ≠ b → w1.heap[c]? = w.heap[c]? := fun c hc hne => hg1.block c hc (fun e => hne (by cases e; rfl))
      have hm : AddMid w w1 K av mv S k b x := ⟨by
          rw [updN_id hb]; exact (hkp K h.lt (fun e => h.mapNe hk (by rw [hb, e]))).trans h.blk,
        fun c hc _ hcm => hkp c hc (fun e => hcm (by rw [hb, e])), hg1.size, ⟨hg1.os, hg1.tape, hg1.output⟩, by rw [firstV_new hf]; exact hI1.mono (by simp), .inl hb⟩
      have c01 := hm.c0 hk
      rw [e, hnn] at c01
      rw [hnn] at hrun
      have hrun2 : (Instr.mapUpdate 69 (.map (some b)) (.int .i64 x) (.int .i64 ((n : Int) + 1))).run Tryz.prog w = .ok () w1 := hrun
      have HM := hid hm
      have hro := hm.row h hk
      rw [e, hnn] at hro
      have HRow := hid hro
      have hn2 : n ≤ 100000 := by omega
      clear h hc hl hlk hI hm hy hf e hro hnn hpos hn hne hI1 hg1 hkp hrun
      go_enter Tryz.func122, Tryz.ntmps122
      go_wp2_with (at_builtin; refine wpList_append_lies _ rfl _ _ _ rfl 0 3 i0 _ 1 8 Tryz.underlying29 hi0 hz0 hz1 hz2 rfl (by omega) (.slice (some ⟨g, 0, none⟩) (n + 1) cap) (n + 1) (intsV (S k)) rfl (HRow.out.alloc _) ⟨w1.heap.size, 0, none⟩ 1 1 [.int .i64 x] rfl rfl (World.news_of_block (cs := #[.int .i64 x]) (t := 3) (fr := (0, 0)) (heap_alloc_new w1 _)) (by simp [Value.oneCell']) (by omega) (by unfold maxLen; omega) (by omega) (by simp) (w1.heap.size + 1) (by simp) ?_; intro g4 cap4 w4 ho4 hgrow4 hat4 hlt4; have hap := HM.out.app HH.out hk (by rw [HE.out]; rfl) hgrow4; have ca := hap.2.1; have fa := hap.2.2; rw [HE.out, HN.out] at ca; clear hap)
      refine bodyPost_end (results_none rfl _ _ _) rfl ?_
      have hms := HM.out.size
      have hd := HM.out.done HH.out hk (by rw [HE.out]; rfl) hgrow4 (a := .slice (some ⟨g4, 0, none⟩) (n + 1 + 1) cap4) (by rw [List.length_append, HN.out, intsV_append]; exact ho4) (fun g' e => (by
        cases e
        rcases hat4 with e | e
        · exact .inl (by rw [HE.out]; exact e)
        · exact .inr (by show w.heap.size ≤ g4; omega)))
      exact ⟨rfl, _, _, hd⟩

set_option maxRecDepth 100000 in
set_option maxHeartbeats 400000 in
theorem add_new (K k : Nat) (av : Nat → Value) (mv : Nat → Option Nat) (S : Nat → List Int) (x : Int) (w : World) (h : KeysAt w K av mv S) (hk : k < 10) (hx : I64 x) (hb : mv k = none) :
    Calls Tryz.prog 122 #[.pointer (some ⟨K, k * 2, none⟩), .int .i64 x] w fun e w' => e = .returned (.tuple #[]) ∧ ∃ av' mv', KeysAt w' K av' mv' (updN S k (S k ++ [x])) ∧ KeptO (keysOwn K av mv) (keysOwn K av' mv') w w' := by
  obtain ⟨i0, hi0, hz0, hz1, hz2⟩ := info_parts info3
  have hS : S k = [] := (h.nil k hk).1 hb
  have c0 := h.c0 hk
  have c1 := h.c1 hk
  have f1 := h.free (k * 2 + 1)
  have he := eqlNil
  rw [hb] at c1
  obtain ⟨ad, cap, e⟩ := row_form (h.row k hk)
  rw [hS] at e
  simp only [List.length_nil] at e
  rw [e] at c0
  have HE := hid e
  have HS := hid hS
  have HH := hid h
  have hK := h.lt
  have hbn : (w.setCell ⟨K, k * 2 + 1, none⟩ (.map (some w.heap.size))).heap.size = w.heap.size := by simp
  have hI := IMap.made (w.setCell ⟨K, k * 2 + 1, none⟩ (.map (some w.heap.size)))
  rw [hbn] at hI
  have hlk := hI.look Tryz.underlying69 (zeroI _) hx
  simp only [Option.getD_none, Option.isSome_none] at hlk
  obtain ⟨w1, hrun, hI1, hg1⟩ := hI.store Tryz.underlying69 (by unfold maxLen; omega) hx (.int .i64 0)
  have hkp : ∀ c, c < w.heap.size → c ≠ K → w1.heap[c]? = w.heap[c]? := fun c hc hne =>
    (hg1.block c (by simp; omega) (fun e => by cases e; omega)).trans ((Below.heap_alloc _ _ c (by simpa using hc)).trans (heap_setCell_other w ⟨K, k * 2 + 1, none⟩ c _ hne))
  have hmb : w1.heap[K]? = some (.cells (keyCells av (updN mv k (some w.heap.size))) 133 (0, 0)) := by
    refine (hg1.block K (by simp; omega) (fun e => by cases e; omega)).trans ((Below.heap_alloc _ _ K (by simpa using hK)).trans ((heap_setCell_same w K (k * 2 + 1) _ 133 _ h.blk).trans ?_))
    rw [keyCells_setM]
  have hfn : firstV (S k ++ [x]) = updT (fun _ => none) x (some (.int .i64 0)) := by
    rw [firstV_new (by rw [hS]; rfl), hS, firstV_nil]; rfl
  have hg1s := hg1.size
  have hm : AddMid w w1 K av mv S k w.heap.size x := ⟨hmb, fun c hc hcK _ => hkp c hc hcK, by simp at hg1s; omega, ⟨hg1.os, hg1.tape, hg1.output⟩, by rw [hfn]; exact hI1.mono (by simp), .inr (Nat.le_refl _)⟩
  have c01 := hm.c0 hk
  rw [e] at c01
  have HM := hid hm
  have hro := hm.row h hk
  rw [e, hS] at hro
  have HRow := hid hro
  have hmm := @run_makeMap Tryz.prog
  clear h hI hm e hro hI1 hg1 hkp hmb hfn hS
  go_enter Tryz.func122, Tryz.ntmps122
  go_wp2_with (at_builtin; refine wpList_append_lies _ rfl _ _ _ rfl 0 3 i0 _ 1 8 Tryz.underlying29 hi0 hz0 hz1 hz2 rfl (by omega) (.slice ad 0 cap) 0 (intsV []) rfl (HRow.out.alloc _) ⟨w1.heap.size, 0, none⟩ 1 1 [.int .i64 x] rfl rfl (World.news_of_block (cs := #[.int .i64 x]) (t := 3) (fr := (0, 0)) (heap_alloc_new w1 _)) (by simp [Value.oneCell']) (by omega) (by unfold maxLen; omega) (by omega) (by simp) (w1.heap.size + 1) (by simp) ?_; intro g4 cap4 w4 ho4 hgrow4 hat4 hlt4; have hap := HM.out.app HH.out hk (by rw [HE.out]) hgrow4; have ca := hap.2.1; have fa := hap.2.2; rw [HE.out] at ca; clear hap)
  refine bodyPost_end (results_none rfl _ _ _) rfl ?_
  have hms := HM.out.size
  have hd := HM.out.done HH.out hk (by rw [HE.out]) hgrow4 (a := .slice (some ⟨g4, 0, none⟩) (0 + 1) cap4) (by rw [HS.out]; exact ho4) (fun g' e => (by
    cases e
    rcases hat4 with e | e
    · exact .inl (by rw [HE.out]; exact e)
    · exact .inr (by show w.heap.size ≤ g4; omega)))
  exact ⟨rfl, _, _, hd⟩

theorem add_any (K k : Nat) (av : Nat → Value) (mv : Nat → Option Nat) (S : Nat → List Int) (x : Int) (w : World) (h : KeysAt w K av mv S) (hk : k < 10) (hn : (S k).length ≤ 100000) (hx : I64 x) :
    Calls Tryz.prog 122 #[.pointer (some ⟨K, k * 2, none⟩), .int .i64 x] w fun e w' => e = .returned (.tuple #[]) ∧ ∃ av' mv', KeysAt w' K av' mv' (updN S k (wAdd (S k) x)) ∧ KeptO (keysOwn K av mv) (keysOwn K av' mv') w w' := by
  unfold wAdd
  by_cases hl : (S k).getLast? = some x
  · rw [if_pos hl]
    refine (add_same K k av mv S x w h hk hn hl).mono ?_
    rintro e w' ⟨rfl, rfl⟩
    exact ⟨rfl, av, mv, by rw [updN_id rfl]; exact h, KeptO.refl _ _⟩
  · rw [if_neg hl]
    cases hb : mv k with
    | none => exact add_new K k av mv S x w h hk hx hb
    | some b => exact add_old K k b av mv S x w h hk hn hx hl hb

end Go.Proofs.YtjefgmeejhakbaaGreatDoor

/- order.rising; slices.SortFunc over twos. -/
namespace Go.Proofs.YtjefgmeejhakbaaGreatDoor
open Go.RowKit Go.Shelf Go.Lib Go.Sort

def cmpW (x y : Int × Int) : Int := if Lib.compareInt x.1 y.1 ≠ 0 then Lib.compareInt x.1 y.1 else Lib.compareInt x.2 y.2
theorem cmpInt_neg (x y : Int) : Lib.compareInt x y < 0 ↔ x < y := by unfold Lib.compareInt; split <;> (try split) <;> omega
theorem cmpInt_zero (x y : Int) : Lib.compareInt x y = 0 ↔ x = y := by unfold Lib.compareInt; split <;> (try split) <;> omega
theorem ltW (x y : Int × Int) : ltOf cmpW x y = true ↔ lt2 x y := by
  unfold ltOf cmpW lt2
  rw [decide_eq_true_eq]
  have h1 := cmpInt_neg x.1 y.1
  have h2 := cmpInt_zero x.1 y.1
  have h3 := cmpInt_neg x.2 y.2
  by_cases e : Lib.compareInt x.1 y.1 = 0
  · rw [if_neg (by simpa using e), h3]
    have := h2.1 e
    omega
  · rw [if_pos e, h1]
    have : x.1 ≠ y.1 := fun e2 => e (h2.2 e2)
    omega
theorem ltW_false (x y : Int × Int) : ltOf cmpW x y = false ↔ ¬ lt2 x y := by rw [← ltW, Bool.not_eq_true]
theorem swoW : SWO (ltOf cmpW) where
  irrefl x := (ltW_false x x).2 (lt2_irrefl x)
  trans x y z h1 h2 := (ltW x z).2 (lt2_trans ((ltW x y).1 h1) ((ltW y z).1 h2))
  ntrans x y z h1 h2 := (ltW_false x z).2 (by
    have h1 := (ltW_false x y).1 h1
    have h2 := (ltW_false y z).1 h2
    unfold lt2 at *
    omega)
theorem totW (x y : Int × Int) (h1 : ltOf cmpW x y = false) (h2 : ltOf cmpW y x = false) : x = y := by
  have h1 := (ltW_false x y).1 h1
  have h2 := (ltW_false y x).1 h2
  rcases lt2_total x y with h | h | h
  · exact (h1 h).elim
  · exact h
  · exact (h2 h).elim

set_option maxHeartbeats 1000000 in
theorem rising_any (x y : Int × Int) (W : World) : Calls Tryz.prog 66 #[.agg #[.int .i64 x.1, .int .i64 x.2], .agg #[.int .i64 y.1, .int .i64 y.2]] W fun e w' => e = .returned (.int .i64 (cmpW x y)) ∧ ∃ q os', w' = grow (W.drewN q) os' := by
  have hcon := fun a b W' => AnyG.cmp_Compare_int Tryz.lCmp a b W'
  change ∀ a b W', Calls Tryz.prog 125 _ _ _ at hcon
  unfold cmpW
  by_cases h : Lib.compareInt x.1 y.1 = 0
  · rw [if_neg (by simpa using h)]
    have h1 := fun W' => hcon x.1 y.1 W'
    have h2 := fun W' => hcon x.2 y.2 W'
    rw [h] at h1
    generalize Lib.compareInt x.2 y.2 = r at h2 ⊢
    clear hcon h
    go_enter Tryz.func66, Tryz.ntmps66
    go_wp2_with fail
    refine (h1 _).mono ?_
    rintro e w' ⟨rfl, rfl⟩
    go_wp2_with fail
    refine (h2 _).mono ?_
    rintro e w' ⟨rfl, rfl⟩
    go_wp2
    go_ret
    exact ⟨rfl, 0, _, by rw [alloc_eq_grow, alloc_eq_grow, grow_grow]; rfl⟩
  · rw [if_pos h]
    have h1 := fun W' => hcon x.1 y.1 W'
    generalize Lib.compareInt x.1 y.1 = r at h h1 ⊢
    have hr : (r != 0) = true := by simpa using h
    clear hcon h
    go_enter Tryz.func66, Tryz.ntmps66
    go_wp2_with fail
    refine (h1 _).mono ?_
    rintro e w' ⟨rfl, rfl⟩
    go_wp2
    go_ret
    exact ⟨rfl, 0, _, by rw [alloc_eq_grow, alloc_eq_grow, grow_grow]; rfl⟩
theorem cmpLaysW (blk off size : Nat) (w : World) : CmpLays Tryz.prog 66 #[] encW 2 cmpW blk off size w := fun _ _ _ _ x y => rising_any x y _

theorem sortTwos_any (N : Nat) (v : Value) (d : List (Int × Int)) (w : World) (h : w.ownsRow N 78 2 v d.length (vrow d)) (hn : d.length ≤ 1000000) :
    Calls Tryz.prog 65 #[v, .func (.func 66) #[] #[]] w fun e w' => e = .returned (.tuple #[]) ∧ ∃ d', d'.Perm d ∧ d'.Pairwise le2 ∧ w'.ownsRow N 78 2 v d.length (vrow d') ∧ w.grownBy w' v.ownBlock := by
  by_cases h0 : d = []
  · subst h0
    obtain ⟨ad, cap, rfl⟩ := row_form h
    have hc := AnyF.slices_SortFunc_none { Tryz.lSort with } ad cap (.func (.func 66) #[] #[]) w
    change Calls Tryz.prog 65 _ _ _ at hc
    refine hc.mono ?_
    rintro e w' ⟨rfl, rfl⟩
    exact ⟨rfl, [], List.Perm.refl _, List.Pairwise.nil, h, ⟨rfl, rfl, rfl, Nat.le_refl _, fun _ _ _ => rfl⟩⟩
  · rcases row_slice h with ⟨_, e0⟩ | ⟨g, cap, rfl, hg, _⟩
    · exact (h0 (List.eq_nil_of_length_eq_zero e0)).elim
    · have e1 : (flatK encW 2 d.toArray).toList = vrow d := flatW d.toArray
      have hH : HoldsK encW 2 w g 0 d.toArray := holds_of_owns (by rw [e1]; exact h)
      have eg : ∀ args w, (callFunc 66 args).run Tryz.prog w = .ok (.enter 66 args) w := enters_of Tryz.func66 (by kernel_rfl) rfl
      have hc := AnyQ.slices_SortFunc_total Tryz.lSort 2 Tryz.isAgg78 Tryz.sizeOf78 encW (fun _ => rfl) (fun x v hv => by simp [encW] at hv; rcases hv with rfl | rfl <;> rfl) cmpW swoW 66 #[] g 0 cap d.toArray w eg (cmpLaysW g 0 _ w) hH hg (by simp; omega) totW
      change Calls Tryz.prog 65 _ _ _ at hc
      rw [List.size_toArray] at hc
      refine hc.mono ?_
      rintro e w' ⟨rfl, n, os, rfl⟩
      obtain ⟨d', hd'⟩ : ∃ d', d.mergeSort (fun x y => !(ltOf cmpW) y x) = d' := ⟨_, rfl⟩
      have hp : d'.Perm d := hd' ▸ List.mergeSort_perm _ _
      have hs : d'.Pairwise le2 := by
        have := List.pairwise_mergeSort (le := fun x y => !(ltOf cmpW) y x) (fun a b c h1 h2 => ?_) (fun a b => ?_) d
        · rw [hd'] at this
          refine this.imp (fun {a b} hab => ?_)
          unfold le2
          rw [← ltW]
          intro hba
          rw [hba] at hab
          cases hab
        · simp only [Bool.not_eq_true'] at h1 h2 ⊢
          exact swoW.ntrans c b a h2 h1
        · simp only [Bool.or_eq_true, Bool.not_eq_true']
          cases h1 : ltOf cmpW b a with
          | false => exact .inl rfl
          | true => exact .inr (swoW.asym h1)
      have hl : d'.length = d.length := hp.length_eq
      have e2 : (flatK encW 2 d'.toArray).toList = vrow d' := flatW d'.toArray
      have hpo := put_owns h (F := flatK encW 2 d'.toArray) (by rw [size_flatK, List.size_toArray, hl]) n os
      rw [e2] at hpo
      refine ⟨rfl, d', hp, hs, ?_⟩
      have hw : sortWorldK encW 2 w g 0 n (d.toArray.toList.mergeSort fun x y => !(ltOf cmpW) y x).toArray os = grow (putRow id (Sort.ahead w n) g 0 (flatK encW 2 d'.toArray)) os := by
        rw [← hd']; rfl
      rw [hw]
      exact hpo

end Go.Proofs.YtjefgmeejhakbaaGreatDoor
