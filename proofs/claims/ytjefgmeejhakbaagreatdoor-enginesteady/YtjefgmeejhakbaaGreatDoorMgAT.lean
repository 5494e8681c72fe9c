/- KtBegin KtRows KtTells: put together for a claim. -/
import Derived.Test.YtjefgmeejhakbaaGreatDoorMgAQ
/- The tale when one more transaction is begun. -/
namespace Go.Proofs.YtjefgmeejhakbaaGreatDoor
open Go.RowKit

/-- What is put behind each of the six rows. -/
def newX (level steps : Int) (av : Value) (m : Nat) : Nat → Value
  | 0 => .int .i64 level
  | 1 => av
  | 2 => mapV m
  | 3 => .slice none 0 0
  | 4 => .int .i64 steps
  | _ => .int .i64 0
def moreL (L : TalL) (row' : Nat → Value) (av : Value) (m : Nat) : TalL := ⟨L.b, row', L.sn ++ [av], L.om ++ [m], L.rd ++ [.slice none 0 0]⟩
theorem moreX (L : TalL) (E : Eng) (t : Tal) (row' : Nat → Value) (av : Value) (m : Nat) (level : Int) (j : Nat) (hj : j < 6) : (moreL L row' av m).rowX (beginT E t level) j = L.rowX t j ++ [newX level t.steps av m j] := by
  obtain rfl | rfl | rfl | rfl | rfl | rfl : j = 0 ∨ j = 1 ∨ j = 2 ∨ j = 3 ∨ j = 4 ∨ j = 5 := by omega
  all_goals simp [TalL.rowX, moreL, beginT, newX, intsV, mapV]
theorem getElem?_snoc {α : Type} {l : List α} {x y : α} {i : Nat} (h : (l ++ [x])[i]? = some y) : (i < l.length ∧ l[i]? = some y) ∨ (i = l.length ∧ y = x) := by
  rw [List.getElem?_append] at h
  split at h
  · rename_i hi
    exact .inl ⟨hi, h⟩
  · rename_i hi
    rw [List.getElem?_singleton] at h
    split at h
    · injection h with h
      exact .inr ⟨by omega, h.symm⟩
    · cases h

open Classical in
theorem TalAt.more {w w' : World} {s N : Nat} {L : TalL} {t : Tal} (h : TalAt w s L t N) {E : Eng} {level : Int} {row' : Nat → Value} {av : Value} {m : Nat}
    (hb : w'.heap[L.b]? = some (.cells (talCells s row' t.steps t.n t.broken) 67 (0, 0)))
    (hrow : ∀ j, j < 6 → w'.ownsRow 0 (rowT j) 1 (row' j) (N + 1) (L.rowX t j ++ [newX level t.steps av m j]) ∧ ∀ g, (row' j).ownBlock = some g → (L.row j).ownBlock = some g ∨ w.heap.size ≤ g)
    (hd : ∀ i j g, i < 6 → j < 6 → (row' i).ownBlock = some g → (row' j).ownBlock = some g → i = j)
    (hav : w'.ownsRow 0 78 2 av (allE E).length (vrow (allE E))) (hav2 : ∀ g, av.ownBlock = some g → ¬ L.own g ∧ g < w.heap.size)
    (hm : IMap w' m 10 (fun _ => none)) (hm2 : w.heap.size ≤ m)
    (hs : ∀ g, g < w.heap.size → g ≠ L.b → (∀ j, j < 6 → (L.row j).ownBlock ≠ some g) → w'.heap[g]? = w.heap[g]?) :
    TalAt w' s (moreL L row' av m) (beginT E t level) (N + 1) ∧ (∀ g, (moreL L row' av m).own g → L.own g ∨ w.heap.size ≤ g ∨ av.ownBlock = some g) ∧ ∀ g, g < w.heap.size → ¬ L.own g → w'.heap[g]? = w.heap[g]? := by
  obtain ⟨ρ, T⟩ := h.tag
  have hl := h.len
  have hkeep : ∀ g, L.own g → g ≠ L.b → (∀ j, ρ g ≠ .row j) → w'.heap[g]? = w.heap[g]? := fun g hg hne hn => hs g (h.own_lt hg) hne (fun j hj e => hn j (T.row j g hj e))
  have o_sn : ∀ {i : Nat} {v : Value} {g : Nat}, L.sn[i]? = some v → v.ownBlock = some g → L.own g := fun h1 h2 => .inr (.inr (.inl ⟨_, _, h1, h2⟩))
  have o_om : ∀ {i g : Nat}, L.om[i]? = some g → L.own g := fun h1 => .inr (.inr (.inr (.inl ⟨_, h1⟩)))
  have o_rd : ∀ {i : Nat} {v : Value} {g : Nat}, L.rd[i]? = some v → v.ownBlock = some g → L.own g := fun h1 h2 => .inr (.inr (.inr (.inr ⟨_, _, h1, h2⟩)))
  have o_row : ∀ {j g : Nat}, j < 6 → (L.row j).ownBlock = some g → L.own g := fun h1 h2 => .inr (.inl ⟨_, h1, h2⟩)
  have hrm : ∀ j, j < 6 → (row' j).ownBlock ≠ some m := fun j hj e => by
    obtain ⟨cur, hc⟩ := owns_typ (hrow j hj).1 e
    exact hm.ne hc rfl
  refine ⟨⟨hb, fun j hj => ?_, fun i v l hv hl' => ?_, fun i b f hbm hf => ?_, fun i v l hv hl' => ?_, ?_, ?_⟩, fun g hg => ?_, fun g hg hn => ?_⟩
  · rw [moreX L E t row' av m level j hj]
    exact (hrow j hj).1
  · rcases getElem?_snoc hv with ⟨hi, hv⟩ | ⟨hi, rfl⟩
    · rcases getElem?_snoc hl' with ⟨_, hl'⟩ | ⟨hi', _⟩
      · refine owns_same (h.sn i v l hv hl') (fun g hg => hkeep g (o_sn hv hg) (fun e => ?_) (fun j e => ?_))
        · have := T.sn i v g hv hg; rw [e, T.b] at this; cases this
        · rw [T.sn i v g hv hg] at e; cases e
      · have := hl.sn; have := hl.snap; omega
    · rcases getElem?_snoc hl' with ⟨hi', _⟩ | ⟨_, rfl⟩
      · have := hl.sn; have := hl.snap; omega
      · exact hav
  · rcases getElem?_snoc hbm with ⟨hi, hbm⟩ | ⟨hi, rfl⟩
    · rcases getElem?_snoc hf with ⟨_, hf⟩ | ⟨hi', _⟩
      · have h1 := h.om i b f hbm hf
        refine ⟨h1.1.same (hkeep b (o_om hbm) (fun e => ?_) (fun j e => ?_)), h1.2⟩
        · have := T.om i b hbm; rw [e, T.b] at this; cases this
        · rw [T.om i b hbm] at e; cases e
      · have := hl.om; have := hl.own; omega
    · rcases getElem?_snoc hf with ⟨hi', _⟩ | ⟨_, rfl⟩
      · have := hl.om; have := hl.own; omega
      · exact ⟨hm, fun k hk => (hk rfl).elim⟩
  · rcases getElem?_snoc hv with ⟨hi, hv⟩ | ⟨hi, rfl⟩
    · rcases getElem?_snoc hl' with ⟨_, hl'⟩ | ⟨hi', _⟩
      · refine owns_same (h.rd i v l hv hl') (fun g hg => hkeep g (o_rd hv hg) (fun e => ?_) (fun j e => ?_))
        · have := T.rd i v g hv hg; rw [e, T.b] at this; cases this
        · rw [T.rd i v g hv hg] at e; cases e
      · have := hl.rd; have := hl.reads; omega
    · rcases getElem?_snoc hl' with ⟨hi', _⟩ | ⟨_, rfl⟩
      · have := hl.rd; have := hl.reads; omega
      · exact ⟨rfl, .inl ⟨rfl, rfl⟩⟩
  · exact ⟨by simp [beginT, hl.level], by simp [beginT, hl.snap], by simp [beginT, hl.own], by simp [beginT, hl.reads], by simp [beginT, hl.begun], by simp [beginT, hl.over], by simp [moreL, hl.sn], by simp [moreL, hl.om], by simp [moreL, hl.rd]⟩
  · refine ⟨fun g => if g < w.heap.size then (if av.ownBlock = some g then .sn N else ρ g) else if g = m then .om N else if hx : ∃ j, j < 6 ∧ (row' j).ownBlock = some g then .row hx.choose else .b, ?_⟩
    have hold : ∀ g, L.own g → (if g < w.heap.size then (if av.ownBlock = some g then TTag.sn N else ρ g) else if g = m then TTag.om N else if hx : ∃ j, j < 6 ∧ (row' j).ownBlock = some g then TTag.row hx.choose else TTag.b) = ρ g := fun g hg => by
      rw [if_pos (h.own_lt hg), if_neg (fun e => (hav2 g e).1 hg)]
    refine ⟨(hold L.b (.inl rfl)).trans T.b, fun j g hj hg => ?_, fun i v g hv hg => ?_, fun i g hi => ?_, fun i v g hv hg => ?_⟩
    · rcases (hrow j hj).2 g hg with h1 | h1
      · exact (hold g (o_row hj h1)).trans (T.row j g hj h1)
      · have hx : ∃ j, j < 6 ∧ (row' j).ownBlock = some g := ⟨j, hj, hg⟩
        show (if g < w.heap.size then _ else _) = _
        rw [if_neg (by omega), if_neg (fun e => hrm j hj (by rw [← e]; exact hg)), dif_pos hx]
        have := hx.choose_spec
        rw [hd _ _ g this.1 hj this.2 hg]
    · rcases getElem?_snoc hv with ⟨hi, hv⟩ | ⟨hi, rfl⟩
      · exact (hold g (o_sn hv hg)).trans (T.sn i v g hv hg)
      · show (if g < w.heap.size then _ else _) = _
        rw [if_pos (hav2 g hg).2, if_pos hg, hi, hl.sn]
    · rcases getElem?_snoc hi with ⟨_, hi⟩ | ⟨hi', rfl⟩
      · exact (hold g (o_om hi)).trans (T.om i g hi)
      · show (if g < w.heap.size then _ else _) = _
        rw [if_neg (by omega), if_pos rfl, hi', hl.om]
    · rcases getElem?_snoc hv with ⟨hi, hv⟩ | ⟨hi, rfl⟩
      · exact (hold g (o_rd hv hg)).trans (T.rd i v g hv hg)
      · cases hg
  · rcases hg with hg | ⟨j, hj, hg⟩ | ⟨i, v, hv, hg⟩ | ⟨i, hi⟩ | ⟨i, v, hv, hg⟩
    · exact .inl (.inl hg)
    · rcases (hrow j hj).2 g hg with h1 | h1
      · exact .inl (o_row hj h1)
      · exact .inr (.inl h1)
    · rcases getElem?_snoc hv with ⟨_, hv⟩ | ⟨_, rfl⟩
      · exact .inl (o_sn hv hg)
      · exact .inr (.inr hg)
    · rcases getElem?_snoc hi with ⟨_, hi⟩ | ⟨_, rfl⟩
      · exact .inl (o_om hi)
      · exact .inr (.inl hm2)
    · rcases getElem?_snoc hv with ⟨_, hv⟩ | ⟨_, rfl⟩
      · exact .inl (o_rd hv hg)
      · cases hg
  · exact hs g hg (fun e => hn (.inl e)) (fun j hj e => hn (o_row hj e))

end Go.Proofs.YtjefgmeejhakbaaGreatDoor

/- Three rows of the tale that are appended to at once, in whatever order: what each operation leaves. -/
namespace Go.Proofs.YtjefgmeejhakbaaGreatDoor
open Go.RowKit

/-- w' is w but for the blocks of h, and new ones. -/
structure Chg (h : Nat → Prop) (w w' : World) : Prop where
  os : w'.os = w.os
  tape : w'.tape = w.tape
  output : w'.output = w.output
  size : w.heap.size ≤ w'.heap.size
  block : ∀ g, g < w.heap.size → ¬ h g → w'.heap[g]? = w.heap[g]?
theorem Chg.refl (w : World) : Chg (fun _ => False) w w := ⟨rfl, rfl, rfl, Nat.le_refl _, fun _ _ _ => rfl⟩
theorem Chg.alloc (w : World) (o : Obj) : Chg (fun _ => False) w (w.alloc o) := ⟨rfl, rfl, rfl, by simp, fun g hg _ => Below.heap_alloc _ _ g hg⟩
theorem Chg.grown {w w' : World} {v : Option Nat} (h : w.grownBy w' v) : Chg (fun g => v = some g) w w' := ⟨h.os, h.tape, h.output, h.size, fun g hg hn => h.block g hg (fun e => hn e.symm)⟩
theorem Chg.store (w : World) (b o : Nat) (v : Value) : Chg (fun g => g = b) w (w.setCell ⟨b, o, none⟩ v) := ⟨rfl, rfl, rfl, by simp, fun g _ hn => heap_setCell_other _ _ _ _ hn⟩

/-- A block with one element. -/
def pB (B : Nat) (T : TypeId) (x v : Value) (w : World) : Prop := ∃ b, v = .slice (some ⟨b, 0, none⟩) 1 1 ∧ w.heap[b]? = some (.cells #[x] T (0, 0)) ∧ B ≤ b
/-- A row with one more. -/
def pA (B : Nat) (T : TypeId) (v0 : Value) (n : Nat) (xs : List Value) (x v : Value) (w : World) : Prop := w.ownsRow 0 T 1 v (n + 1) (xs ++ [x]) ∧ ∀ g, v.ownBlock = some g → v0.ownBlock = some g ∨ B ≤ g
def pM (B : Nat) (v : Value) (w : World) : Prop := ∃ m, v = mapV m ∧ IMap w m 0 (fun _ => none) ∧ B ≤ m
def pMB (B : Nat) (T : TypeId) (v : Value) (w : World) : Prop := ∃ m, pB B T (mapV m) v w ∧ IMap w m 0 (fun _ => none) ∧ B ≤ m
def pMA (B : Nat) (T : TypeId) (v0 : Value) (n : Nat) (xs : List Value) (v : Value) (w : World) : Prop := ∃ m, pA B T v0 n xs (mapV m) v w ∧ IMap w m 0 (fun _ => none) ∧ B ≤ m

section
variable {B n : Nat} {T : TypeId} {x v v0 : Value} {xs : List Value} {w w' : World} {h : Nat → Prop}
theorem blk_lt {b : Nat} {o : Obj} (hb : w.heap[b]? = some o) : b < w.heap.size := (Array.getElem?_eq_some_iff.1 hb).1
theorem pB.stay (hp : pB B T x v w) (hc : Chg h w w') (hh : ∀ g, h g → g < B) : pB B T x v w' := by
  obtain ⟨b, e, hb, hB⟩ := hp
  exact ⟨b, e, (hc.block b (blk_lt hb) (fun e => by have := hh b e; omega)).trans hb, hB⟩
theorem pA.stay (hp : pA B T v0 n xs x v w) (hc : Chg h w w') (hh : ∀ g, h g → g < B ∧ v0.ownBlock ≠ some g) : pA B T v0 n xs x v w' := by
  refine ⟨owns_same hp.1 (fun g hg => hc.block g (owns_lt hp.1 hg) (fun e => ?_)), hp.2⟩
  rcases hp.2 g hg with h1 | h1
  · exact (hh g e).2 h1
  · have := (hh g e).1; omega
theorem imap_stay {m : Nat} (hp : IMap w m 0 (fun _ => none)) (hB : B ≤ m) (hc : Chg h w w') (hh : ∀ g, h g → g < B) : IMap w' m 0 (fun _ => none) := hp.same (hc.block m hp.lt (fun e => by have := hh m e; omega))
theorem pM.stay (hp : pM B v w) (hc : Chg h w w') (hh : ∀ g, h g → g < B) : pM B v w' := by
  obtain ⟨m, e, hm, hB⟩ := hp
  exact ⟨m, e, imap_stay hm hB hc hh, hB⟩
theorem pMB.stay (hp : pMB B T v w) (hc : Chg h w w') (hh : ∀ g, h g → g < B) : pMB B T v w' := by
  obtain ⟨m, hb, hm, hB⟩ := hp
  exact ⟨m, hb.stay hc hh, imap_stay hm hB hc hh, hB⟩
theorem pMA.stay (hp : pMA B T v0 n xs v w) (hc : Chg h w w') (hh : ∀ g, h g → g < B ∧ v0.ownBlock ≠ some g) : pMA B T v0 n xs v w' := by
  obtain ⟨m, hb, hm, hB⟩ := hp
  exact ⟨m, hb.stay hc hh, imap_stay hm hB hc (fun g hg => (hh g hg).1), hB⟩
end

/-- The tale's six rows, each of a length of its own. -/
structure RowsAt (w : World) (s : Nat) (L : TalL) (steps n : Int) (broken : Bool) (N : Nat → Nat) (X : Nat → List Value) : Prop where
  blk : w.heap[L.b]? = some (.cells (talCells s L.row steps n broken) 67 (0, 0))
  rows : ∀ j, j < 6 → w.ownsRow 0 (rowT j) 1 (L.row j) (N j) (X j)
  ne_b : ∀ j, j < 6 → (L.row j).ownBlock ≠ some L.b
  ne : ∀ i j g, i < 6 → j < 6 → (L.row i).ownBlock = some g → (L.row j).ownBlock = some g → i = j
theorem TalAt.rowsAt {w : World} {s N : Nat} {L : TalL} {t : Tal} (h : TalAt w s L t N) : RowsAt w s L t.steps t.n t.broken (fun _ => N) (L.rowX t) := by
  obtain ⟨ρ, T⟩ := h.tag
  refine ⟨h.blk, h.rows, fun j hj e => ?_, fun i j g hi hj h1 h2 => ?_⟩
  · have := T.row j _ hj e
    rw [T.b] at this
    cases this
  · have e := (T.row i g hi h1).symm.trans (T.row j g hj h2)
    injection e

/-- The stage of a region that appends to three rows (r, r + 1, r + 2): A: the appends; S: the stores; D: the appends' slots. -/
structure Stage (wB : World) (s : Nat) (L : TalL) (steps n : Int) (broken : Bool) (r A0 A1 A2 S0 S1 S2 D0 D1 D2 : Nat) (listed : Array Bool) (a : Act) (w : World) : Prop where
  os : w.os = wB.os
  tape : w.tape = wB.tape
  output : w.output = wB.output
  size : wB.heap.size ≤ w.heap.size
  old : ∀ g, g < wB.heap.size → g ≠ L.b → (∀ j A, (j, A) ∈ [(r, A0), (r + 1, A1), (r + 2, A2)] → (L.row j).ownBlock = some g → ¬ DoneAt listed A) → w.heap[g]? = wB.heap[g]?
  blk : w.heap[L.b]? = some (.cells (talCells s (fun j => if j = r ∧ DoneAt listed S0 then a.tmps.getD D0 undef else if j = r + 1 ∧ DoneAt listed S1 then a.tmps.getD D1 undef else if j = r + 2 ∧ DoneAt listed S2 then a.tmps.getD D2 undef else L.row j) steps n broken) 67 (0, 0))

section
variable {wB w w' : World} {s : Nat} {L : TalL} {steps n : Int} {broken : Bool} {r A0 A1 A2 S0 S1 S2 D0 D1 D2 : Nat} {listed : Array Bool} {a : Act}
/-- Nothing is turned but the slot of an operation that neither appends nor stores. -/
theorem Stage.pure (h : Stage wB s L steps n broken r A0 A1 A2 S0 S1 S2 D0 D1 D2 listed a w) {i d : Nat} {v : Value} (hS : i ≠ S0 ∧ i ≠ S1 ∧ i ≠ S2) (hD : d ≠ D0 ∧ d ≠ D1 ∧ d ≠ D2) (hc : Chg (fun _ => False) w w') (hb : L.b < wB.heap.size) :
    Stage wB s L steps n broken r A0 A1 A2 S0 S1 S2 D0 D1 D2 (listed.setIfInBounds i true) (a.put (some d) v) w' := by
  refine ⟨hc.os.trans h.os, hc.tape.trans h.tape, hc.output.trans h.output, Nat.le_trans h.size hc.size, fun g hg hne hj => ?_, ?_⟩
  · refine (hc.block g (Nat.lt_of_lt_of_le hg h.size) (fun h => h)).trans (h.old g hg hne (fun j A hm hr hd => hj j A hm hr ?_))
    exact done_mono hd
  · rw [hc.block _ (Nat.lt_of_lt_of_le hb h.size) (fun h => h), h.blk]
    simp only [done_set_ne hS.1.symm, done_set_ne hS.2.1.symm, done_set_ne hS.2.2.symm, getD_put_ne hD.1.symm, getD_put_ne hD.2.1.symm, getD_put_ne hD.2.2.symm]
/-- An append. -/
theorem Stage.app (h : Stage wB s L steps n broken r A0 A1 A2 S0 S1 S2 D0 D1 D2 listed a w) {i d j : Nat} {v : Value} (hi : (j, i, d) ∈ [(r, A0, D0), (r + 1, A1, D1), (r + 2, A2, D2)]) (hn : ¬ DoneAt listed S0 ∧ ¬ DoneAt listed S1 ∧ ¬ DoneAt listed S2) (hS : i ≠ S0 ∧ i ≠ S1 ∧ i ≠ S2) (hc : Chg (fun g => (L.row j).ownBlock = some g) w w') (hls : i < listed.size) (hb : L.b < wB.heap.size) (hbr : (L.row j).ownBlock ≠ some L.b) :
    Stage wB s L steps n broken r A0 A1 A2 S0 S1 S2 D0 D1 D2 (listed.setIfInBounds i true) (a.put (some d) v) w' := by
  refine ⟨hc.os.trans h.os, hc.tape.trans h.tape, hc.output.trans h.output, Nat.le_trans h.size hc.size, fun g hg hne hj => ?_, ?_⟩
  · have hjg : (L.row j).ownBlock ≠ some g := fun e => by
      refine hj j i ?_ e (done_self hls)
      simp only [List.mem_cons, Prod.mk.injEq, List.not_mem_nil, or_false] at hi ⊢
      rcases hi with ⟨h1, h2, _⟩ | ⟨h1, h2, _⟩ | ⟨h1, h2, _⟩
      · exact .inl ⟨h1, h2⟩
      · exact .inr (.inl ⟨h1, h2⟩)
      · exact .inr (.inr ⟨h1, h2⟩)
    refine (hc.block g (Nat.lt_of_lt_of_le hg h.size) hjg).trans (h.old g hg hne (fun j A hm hr hd => hj j A hm hr ?_))
    exact done_mono hd
  · rw [hc.block _ (Nat.lt_of_lt_of_le hb h.size) hbr, h.blk]
    simp only [done_set_ne hS.1.symm, done_set_ne hS.2.1.symm, done_set_ne hS.2.2.symm, hn.1, hn.2.1, hn.2.2, and_false, if_false]
/-- A store. -/
theorem Stage.store (h : Stage wB s L steps n broken r A0 A1 A2 S0 S1 S2 D0 D1 D2 listed a w) {i d j : Nat} (hi : (j, i, d) ∈ [(r, S0, D0), (r + 1, S1, D1), (r + 2, S2, D2)]) (hd : S0 ≠ S1 ∧ S0 ≠ S2 ∧ S1 ≠ S2) (hls : i < listed.size) (hr : r = 0 ∨ r = 3) :
    Stage wB s L steps n broken r A0 A1 A2 S0 S1 S2 D0 D1 D2 (listed.setIfInBounds i true) (a.put none undef) (w.setCell ⟨L.b, j + 1, none⟩ (a.tmps.getD d undef)) := by
  have hc := Chg.store w L.b (j + 1) (a.tmps.getD d undef)
  refine ⟨h.os, h.tape, h.output, Nat.le_trans h.size hc.size, fun g hg hne hj => ?_, ?_⟩
  · refine (hc.block g (Nat.lt_of_lt_of_le hg h.size) hne).trans (h.old g hg hne (fun j A hm hr hd => hj j A hm hr (done_mono hd)))
  · rw [setCell_at h.blk]
    have hself := done_self hls
    simp only [List.mem_cons, Prod.mk.injEq, List.not_mem_nil, or_false] at hi
    rcases hi with ⟨rfl, rfl, rfl⟩ | ⟨rfl, rfl, rfl⟩ | ⟨rfl, rfl, rfl⟩
    · rcases hr with rfl | rfl <;> simp [talCells, hself, done_set_ne hd.1.symm, done_set_ne hd.2.1.symm, Act.put]
    · rcases hr with rfl | rfl <;> simp [talCells, hself, done_set_ne hd.1, done_set_ne hd.2.2.symm, Act.put]
    · rcases hr with rfl | rfl <;> simp [talCells, hself, done_set_ne hd.2.1, done_set_ne hd.2.2, Act.put]
/-- At first. -/
theorem Stage.start {wB : World} {s : Nat} {L : TalL} {steps n : Int} {broken : Bool} {N : Nat → Nat} {X : Nat → List Value} (h : RowsAt wB s L steps n broken N X) (r A0 A1 A2 S0 S1 S2 D0 D1 D2 sz : Nat) (a : Act) : Stage wB s L steps n broken r A0 A1 A2 S0 S1 S2 D0 D1 D2 (Array.replicate sz false) a wB.drew := by
  refine ⟨rfl, rfl, rfl, Nat.le_refl _, fun g _ _ _ => rfl, ?_⟩
  simp only [not_done_replicate, and_false, if_false]
  exact h.blk
end

section
variable {wB w : World} {s : Nat} {L : TalL} {N : Nat → Nat} {X : Nat → List Value} {steps n : Int} {broken : Bool} {r A0 A1 A2 S0 S1 S2 D0 D1 D2 : Nat} {listed : Array Bool} {a : Act}
/-- A row that was not appended to yet. -/
theorem Stage.rowAt (h : Stage wB s L steps n broken r A0 A1 A2 S0 S1 S2 D0 D1 D2 listed a w) (hT : RowsAt wB s L steps n broken N X) {j A : Nat} (hj : (j, A) ∈ [(r, A0), (r + 1, A1), (r + 2, A2)]) (hr : r + 2 < 6) (hn : ¬ DoneAt listed A) : w.ownsRow 0 (rowT j) 1 (L.row j) (N j) (X j) := by
  have hj6 : j < 6 := by
    simp only [List.mem_cons, Prod.mk.injEq, List.not_mem_nil, or_false] at hj
    omega
  refine owns_same (hT.rows j hj6) (fun g hg => h.old g (owns_lt (hT.rows j hj6) hg) (fun e => hT.ne_b j hj6 (by rw [hg, e])) (fun j' A' hm hr' hd => hn ?_))
  have e : j' = j := hT.ne j' j g (by
    simp only [List.mem_cons, Prod.mk.injEq, List.not_mem_nil, or_false] at hm
    omega) hj6 hr' hg
  subst e
  simp only [List.mem_cons, Prod.mk.injEq, List.not_mem_nil, or_false] at hj hm
  have : A' = A := by omega
  rw [← this]
  exact hd
theorem Stage.cellAt (h : Stage wB s L steps n broken r A0 A1 A2 S0 S1 S2 D0 D1 D2 listed a w) {j S : Nat} (hj : (j, S) ∈ [(r, S0), (r + 1, S1), (r + 2, S2)]) (hr : r = 0 ∨ r = 3) (hn : ¬ DoneAt listed S) : w.cell? ⟨L.b, j + 1, none⟩ = some (L.row j) := by
  refine (cell_of_row w L.b (j + 1) _ _ (0, 0) h.blk).trans ?_
  simp only [List.mem_cons, Prod.mk.injEq, List.not_mem_nil, or_false] at hj
  rcases hj with ⟨rfl, rfl⟩ | ⟨rfl, rfl⟩ | ⟨rfl, rfl⟩ <;> rcases hr with rfl | rfl <;> simp [talCells, hn]
theorem Stage.cellN (h : Stage wB s L steps n broken r A0 A1 A2 S0 S1 S2 D0 D1 D2 listed a w) : w.cell? ⟨L.b, 7, none⟩ = some (.int .i64 steps) := (cell_of_row w L.b 7 _ _ (0, 0) h.blk).trans (by simp [talCells])
theorem Stage.free (h : Stage wB s L steps n broken r A0 A1 A2 S0 S1 S2 D0 D1 D2 listed a w) (o : Nat) : w.frozen? ⟨L.b, o, none⟩ = false := by simp [World.frozen?, h.blk]

set_option maxRecDepth 100000 in
/-- The append of one element. -/
theorem app_arm {ops : Array Oper} {o : Oper} {K : Act → World → Prop} {Q : Exit → Act → World → Prop} {B m : Nat} {e : TypeId} {z v0 xv x : Value} {xs : List Value} (hgd : o.guard = none) (so xo : Operand) (ty : TypeId)
    (ho : o.op = .call { callee := .builtin .append, args := #[so, xo], argTypes := #[ty, ty] }) (by_ : Nat) (hty : Tryz.prog.underlying ty = some (.slice e)) (hinfo : (Tryz.prog.info? e).map (fun i => (i.zero, i.size, i.bytes)) = some (some z, 1, by_)) (hz : z.cells.size = 1) (hby : by_ ≤ 100)
    (hs : a.eval so = v0) (hown : w.ownsRow 0 e 1 v0 m xs) (hx : a.eval xo = xv) (hb : pB B e x xv w) (h1 : x.oneCell' = true) (hm : m ≤ 1000) (hB : B ≤ w.heap.size)
    (h : ∀ v w', pA B e v0 m xs x v w' → Chg (fun g => v0.ownBlock = some g) w w' → (∀ g, v.ownBlock = some g → v0.ownBlock = some g ∨ w.heap.size ≤ g) → K (a.put o.dst v) w') : if Region.wanted o (yielded ops a.tmps) = true then Oper.wp Tryz.prog o a w K Q else True := by
  obtain ⟨i0, hi0, hz0, hz1, hz2⟩ := info_parts hinfo
  obtain ⟨b, rfl, hblk, hBb⟩ := hb
  refine step_append_lies w hgd so xo ty ho 0 e i0 z 1 by_ hty hi0 hz0 hz1 hz2 hz (by omega) v0 m xs hs hown ⟨b, 0, none⟩ 1 1 [x] hx rfl (World.news_of_block (cs := #[x]) hblk) (fun u hu => by rw [List.mem_singleton.1 hu]; exact h1) (by omega) (by unfold maxLen; omega) (Nat.le_trans (Nat.mul_le_mul (show m + 1 ≤ 1001 by omega) hby) (by omega)) (Nat.zero_le _) w.heap.size rfl ?_
  intro g cap w2 h2 h3 h4 _
  have hg : ∀ g', (Value.slice (some ⟨g, 0, none⟩) (m + 1) cap).ownBlock = some g' → v0.ownBlock = some g' ∨ w.heap.size ≤ g' := fun g' hg' => by
    have : g' = g := by injection hg' with hg'; exact hg'.symm
    rw [this]
    exact h4.imp id (fun e => by omega)
  exact h _ w2 ⟨h2, fun g' hg' => (hg g' hg').imp id (fun e => by omega)⟩ (Chg.grown h3) hg
end
/-- When all of it has gone. -/
theorem Stage.done {wB w : World} {s : Nat} {L : TalL} {N : Nat → Nat} {X : Nat → List Value} {steps n : Int} {broken : Bool} {r A0 A1 A2 S0 S1 S2 D0 D1 D2 : Nat} {listed : Array Bool} {a : Act} (h : Stage wB s L steps n broken r A0 A1 A2 S0 S1 S2 D0 D1 D2 listed a w) (hR : RowsAt wB s L steps n broken N X) (hr : r = 0 ∨ r = 3) (hS : DoneAt listed S0 ∧ DoneAt listed S1 ∧ DoneAt listed S2) (v x : Nat → Value) (h0 : a.tmps.getD D0 undef = v r) (h1 : a.tmps.getD D1 undef = v (r + 1)) (h2 : a.tmps.getD D2 undef = v (r + 2))
    (hp : ∀ j, r ≤ j → j ≤ r + 2 → pA wB.heap.size (rowT j) (L.row j) (N j) (X j) (x j) (v j) w) (hd : ∀ i j g, (r ≤ i ∧ i ≤ r + 2) → (r ≤ j ∧ j ≤ r + 2) → (v i).ownBlock = some g → (v j).ownBlock = some g → i = j) :
    RowsAt w s { L with row := fun j => if r ≤ j ∧ j ≤ r + 2 then v j else L.row j } steps n broken (fun j => if r ≤ j ∧ j ≤ r + 2 then N j + 1 else N j) (fun j => if r ≤ j ∧ j ≤ r + 2 then X j ++ [x j] else X j) ∧
      Chg (fun g => g = L.b ∨ ∃ j, (r ≤ j ∧ j ≤ r + 2) ∧ (L.row j).ownBlock = some g) wB w := by
  have hlt : ∀ j g, j < 6 → (L.row j).ownBlock = some g → g < wB.heap.size := fun j g hj hg => owns_lt (hR.rows j hj) hg
  have hC : Chg (fun g => g = L.b ∨ ∃ j, (r ≤ j ∧ j ≤ r + 2) ∧ (L.row j).ownBlock = some g) wB w := ⟨h.os, h.tape, h.output, h.size, fun g hg hn => h.old g hg (fun e => hn (.inl e)) (fun j A hm hr' _ => hn (.inr ⟨j, by
    simp only [List.mem_cons, Prod.mk.injEq, List.not_mem_nil, or_false] at hm
    omega, hr'⟩))⟩
  refine ⟨⟨?_, fun j hj => ?_, fun j hj e => ?_, fun i j g hi hj hgi hgj => ?_⟩, hC⟩
  · rw [h.blk]
    have e : talCells s (fun j => if j = r ∧ DoneAt listed S0 then a.tmps.getD D0 undef else if j = r + 1 ∧ DoneAt listed S1 then a.tmps.getD D1 undef else if j = r + 2 ∧ DoneAt listed S2 then a.tmps.getD D2 undef else L.row j) steps n broken = talCells s (fun j => if r ≤ j ∧ j ≤ r + 2 then v j else L.row j) steps n broken := by
      rw [h0, h1, h2]
      rcases hr with rfl | rfl <;> simp [talCells, hS.1, hS.2.1, hS.2.2]
    rw [e]
  · by_cases hj2 : r ≤ j ∧ j ≤ r + 2
    · simp only [if_pos hj2]
      exact (hp j hj2.1 hj2.2).1
    · simp only [if_neg hj2]
      refine owns_same (hR.rows j hj) (fun g hg => hC.block g (hlt j g hj hg) (fun hx => ?_))
      rcases hx with e | ⟨i, hi, e⟩
      · exact hR.ne_b j hj (by rw [hg, e])
      · have := hR.ne i j g (by omega) hj e hg
        omega
  · by_cases hj2 : r ≤ j ∧ j ≤ r + 2
    · simp only [if_pos hj2] at e
      rcases (hp j hj2.1 hj2.2).2 _ e with h3 | h3
      · exact hR.ne_b j hj h3
      · have := blk_lt hR.blk
        omega
    · simp only [if_neg hj2] at e
      exact hR.ne_b j hj e
  · by_cases hi2 : r ≤ i ∧ i ≤ r + 2
    · by_cases hj2 : r ≤ j ∧ j ≤ r + 2
      · simp only [if_pos hi2] at hgi
        simp only [if_pos hj2] at hgj
        exact hd i j g hi2 hj2 hgi hgj
      · simp only [if_pos hi2] at hgi
        simp only [if_neg hj2] at hgj
        rcases (hp i hi2.1 hi2.2).2 _ hgi with h3 | h3
        · exact hR.ne i j g hi hj h3 hgj
        · have := hlt j g hj hgj
          omega
    · by_cases hj2 : r ≤ j ∧ j ≤ r + 2
      · simp only [if_neg hi2] at hgi
        simp only [if_pos hj2] at hgj
        rcases (hp j hj2.1 hj2.2).2 _ hgj with h3 | h3
        · exact hR.ne i j g hi hj hgi h3
        · have := hlt i g hi hgi
          omega
      · simp only [if_neg hi2] at hgi
        simp only [if_neg hj2] at hgj
        exact hR.ne i j g hi hj hgi hgj
/-- Rows of elements of other types are not in one block. -/
theorem pA.typ {B : Nat} {T T' : TypeId} {v0 v0' x x' v v' : Value} {n n' : Nat} {xs xs' : List Value} {w : World} {g : Nat} (h : pA B T v0 n xs x v w) (h' : pA B T' v0' n' xs' x' v' w) (hg : v.ownBlock = some g) (hg' : v'.ownBlock = some g) : T = T' := by
  obtain ⟨c, hc⟩ := owns_typ h.1 hg
  obtain ⟨c', hc'⟩ := owns_typ h'.1 hg'
  rw [hc] at hc'
  injection hc' with e
  injection e
/-- One more is begun, and told. -/
theorem TaleAt.begun {w0 : Gr} {w2 w3 W : World} {L L3 : EnL} {E E' : Eng} {TL : TalL} {t : Tal} {level : Int} {row' : Nat → Value} {av : Value} {m : Nat} (H2 : TaleAt w0 w2 L E TL t) (hE3 : EnAt w3 L3 E') (hlen : E'.txs.length = E.txs.length + 1) (hK3 : KeptO L.own L3.own w2 w3) (hs3 : L3.s = L.s)
    (hav : w2.ownsRow 0 78 2 av (allE E).length (vrow (allE E))) (havT : ∀ g, av.ownBlock = some g → ¬ TL.own g ∧ ¬ L.own g ∧ ¬ w0.P g)
    (hb : W.heap[TL.b]? = some (.cells (talCells L.s row' t.steps t.n t.broken) 67 (0, 0)))
    (hrow : ∀ j, j < 6 → W.ownsRow 0 (rowT j) 1 (row' j) (E.txs.length + 1) (TL.rowX t j ++ [newX level t.steps av m j]) ∧ ∀ g, (row' j).ownBlock = some g → (TL.row j).ownBlock = some g ∨ w3.heap.size ≤ g)
    (hd : ∀ i j g, i < 6 → j < 6 → (row' i).ownBlock = some g → (row' j).ownBlock = some g → i = j)
    (hm : IMap W m 10 (fun _ => none)) (hm2 : w3.heap.size ≤ m) (hC : Chg (fun g => g = TL.b ∨ ∃ j, j < 6 ∧ (TL.row j).ownBlock = some g) w3 W) : TaleAt w0 W L3 E' (moreL TL row' av m) (beginT E t level) := by
  have h3 : TalAt w3 L.s TL t E.txs.length := H2.tal.same (fun g hg => hK3.block g (H2.tal.own_lt hg) (H2.apart g hg))
  have hlt : ∀ g, av.ownBlock = some g → g < w2.heap.size := fun g hg => owns_lt hav hg
  have hav3 : ∀ g, av.ownBlock = some g → W.heap[g]? = w2.heap[g]? := fun g hg => (hC.block g (Nat.lt_of_lt_of_le (hlt g hg) hK3.size) (fun h => (havT g hg).1 (h.elim .inl (fun ⟨j, hj, e⟩ => .inr (.inl ⟨j, hj, e⟩))))).trans (hK3.block g (hlt g hg) (havT g hg).2.1)
  obtain ⟨hT, hown, hkeep⟩ := h3.more (E := E) (level := level) hb hrow hd (owns_same hav hav3) (fun g hg => ⟨(havT g hg).1, Nat.lt_of_lt_of_le (hlt g hg) hK3.size⟩) hm hm2 (fun g hg h1 h2 => hC.block g hg (fun h => h.elim h1 (fun ⟨j, hj, e⟩ => h2 j hj e)))
  have hap : ∀ g, TL.own g → ¬ L3.own g := fun g hg hg' => (hK3.sub g hg').elim (H2.apart g hg) (fun e => by have := H2.tal.own_lt hg; omega)
  refine ⟨hE3.same (fun g hg => hkeep g (hE3.own_lt hg) (fun h => hap g h hg)), by rw [hs3, hlen]; exact hT, fun g hg hg' => ?_, fun g hg => ?_, fun g hg => ?_, ?_⟩
  · rcases hown g hg with h | h | h
    · exact hap g h hg'
    · have := hE3.own_lt hg'; omega
    · exact (hK3.sub g hg').elim (havT g h).2.1 (fun e => by have := hlt g h; omega)
  · exact (hK3.sub g hg).elim (H2.newE g) (fun e => H2.kept.new e)
  · rcases hown g hg with h | h | h
    · exact H2.newT g h
    · exact H2.kept.new (Nat.le_trans hK3.size h)
    · exact (havT g h).2.2
  · refine (H2.kept.go hK3 H2.newE).go (o := fun g => g = TL.b ∨ ∃ j, j < 6 ∧ (TL.row j).ownBlock = some g) (o' := fun _ => False) ⟨hC.os, hC.tape, hC.output, hC.size, fun g hg hn => hC.block g hg hn, fun _ hf => hf.elim⟩ (fun g h => ?_)
    exact H2.newT g (h.elim .inl (fun ⟨j, hj, e⟩ => .inr (.inl ⟨j, hj, e⟩)))
theorem infoWs : (Tryz.prog.info? 23).map (fun i => (i.zero, i.size, i.bytes)) = some (some (.slice none 0 0), 1, 24) := by kernel_rfl
theorem infoMp : (Tryz.prog.info? 69).map (fun i => (i.zero, i.size, i.bytes)) = some (some (.map none), 1, 8) := by kernel_rfl
theorem infoSs : (Tryz.prog.info? 73).map (fun i => (i.zero, i.size, i.bytes)) = some (some (.slice none 0 0), 1, 24) := by kernel_rfl
theorem infoSeen : (Tryz.prog.info? 75).map (fun i => (i.zero, i.size, i.bytes)) = some (some (.agg #[.int .i64 0, .int .i64 0]), 2, 16) := by kernel_rfl
theorem infoI : (Tryz.prog.info? 3).map (fun i => (i.zero, i.size, i.bytes)) = some (some (.int .i64 0), 1, 8) := by kernel_rfl

end Go.Proofs.YtjefgmeejhakbaaGreatDoor

/- Plain: an engine and its tale go on as they should: what each one reads is what it should. -/
namespace Go.Proofs.YtjefgmeejhakbaaGreatDoor

def valOr (o : Option (Int × Int)) : Int := match o with
  | some p => p.2
  | none => -1
theorem find_allK (f : Nat → Option (Int × Int)) (k : Int) : ∀ m : Nat, (allK f m).find? (fun p => p.1 == k) = if 0 ≤ k ∧ k < m then (f k.toNat).map (fun p => (k, p.2)) else none
  | 0 => by rw [if_neg (by omega)]; rfl
  | m + 1 => by
    rw [allK, List.find?_append, find_allK f k m]
    by_cases h1 : 0 ≤ k ∧ k < m
    · rw [if_pos h1, if_pos (by omega)]
      cases hf : f k.toNat with
      | some p => rfl
      | none =>
        simp only [Option.map_none, Option.none_or]
        cases hm : f m with
        | none => rfl
        | some p =>
          have : ((m : Int) == k) = false := by simp; omega
          simp [this]
    · rw [if_neg h1]
      by_cases h2 : k = m
      · subst h2
        rw [if_pos (by omega)]
        simp only [Int.toNat_natCast, Option.none_or]
        cases hm : f m with
        | none => rfl
        | some p => simp
      · rw [if_neg (by omega)]
        simp only [Option.none_or]
        cases hm : f m with
        | none => rfl
        | some p =>
          have : ((m : Int) == k) = false := by simp; omega
          simp [this]
theorem of_all (E : Eng) {k : Int} (hk : 0 ≤ k ∧ k < 10) : ofP (allE E) k = valOr (rdP E.last (E.ks[k.toNat]?.getD [])) := by
  unfold ofP allE
  rw [find_allK, if_pos (by omega)]
  cases rdP E.last (E.ks[k.toNat]?.getD []) <;> rfl
theorem of_writes {V : Int → Option Int} (hV : ∀ k, V k ≠ none → 0 ≤ k ∧ k < 10) (k : Int) : (writesP V).find? (fun p => p.1 == k) = (V k).map (fun x => (k, x)) := by
  unfold writesP
  rw [List.find?_map]
  have key : ∀ l : List Int, l.find? (fun x => x == k) = if k ∈ l then some k else none := by
    intro l
    induction l with
    | nil => rfl
    | cons x r ih =>
      rw [List.find?_cons]
      by_cases e : x = k
      · subst e; simp
      · have : (x == k) = false := by simpa using e
        rw [this, ih]
        have e' : ¬ k = x := fun h => e h.symm
        simp [e']
  show Option.map _ ((keysOf V).find? (fun x => x == k)) = _
  rw [key]
  cases hv : V k with
  | none => rw [if_neg (fun hm => by rw [mem_keysOf hV, hv] at hm; cases hm)]; rfl
  | some x => rw [if_pos ((mem_keysOf hV k).2 (by rw [hv]; rfl))]; simp [hv]

abbrev full0 (C : CE) (a : Int) : List (Int × Int) := full 0 (fun _ => none) C a
abbrev Mid0 (E : Eng) : Prop := Mid 0 (fun _ => none) E.ce noQ
/-- As of a time by which nothing that may be read was swept. -/
theorem Mid.rd_full {a0 : Int} {K0 : Int → Option Int} {E : Eng} {Q : Nat → Prop} (h : Mid a0 K0 E.ce Q) {k u : Int} (hk : 0 ≤ k ∧ k < 10) (hu : E.ce.Sees u) : rdP u (E.ks[k.toNat]?.getD []) = rdP u (full a0 K0 E.ce k) := by
  obtain ⟨d, h1, h3, h4⟩ := h.com.kss k.toNat (by omega)
  have hk' : ((k.toNat : Nat) : Int) = k := by omega
  rw [hk'] at h1 h3 h4
  have h3' : E.ks[k.toNat]? = some ((full a0 K0 E.ce k).drop d) := h3
  rw [h3']
  exact rdP_drop _ _ _ (h4 u hu)

/-- An engine and its tale. -/
structure Tells (E : Eng) (t : Tal) : Prop where
  mid : Mid0 E
  llev : t.level.length = E.txs.length
  lsnap : t.snap.length = E.txs.length
  lown : t.own.length = E.txs.length
  lreads : t.reads.length = E.txs.length
  lbegun : t.begun.length = E.txs.length
  lover : t.over.length = E.txs.length
  lev : ∀ (i : Nat) (u : Tx), E.txs[i]? = some u → t.level[i]? = some u.level
  own : OwnOk (ownT t) E.ce
  snap : ∀ (i : Nat) (u : Tx), E.txs[i]? = some u → ∀ k, 0 ≤ k ∧ k < 10 → ofP (t.snap[i]?.getD []) k = valOr (rdP u.start (full0 E.ce k))
  ok : t.broken = false
  num : 0 ≤ t.n ∧ t.n ≤ t.steps
  ovr : ∀ o ∈ t.over, o ≤ t.steps
  ovp : ∀ o ∈ t.over, 0 ≤ o
  ovn : ∀ (k : Nat) (u : Tx), E.txs[k]? = some u → 2 ≤ u.state → 0 < t.over[k]?.getD 0
  bgn : ∀ o ∈ t.begun, 0 < o ∧ o ≤ t.steps
  ord : ∀ (i k : Nat) (u : Tx) (c : Int), E.txs[i]? = some u → E.wr c = some ((k : Int) + 1) → c ≤ u.start → t.over[k]?.getD 0 < t.begun[i]?.getD 0
  mono : ∀ (i k : Nat) (u v : Tx), k ≤ i → E.txs[k]? = some v → E.txs[i]? = some u → v.start ≤ u.start
  late : ∀ (c : Int) (i : Nat) (u : Tx), E.wr c = some ((i : Int) + 1) → E.txs[i]? = some u → u.start < c
  rds : ∀ (i : Nat) (u : Tx) (l : List (Int × Int)), E.txs[i]? = some u → u.level ≠ 0 → t.reads[i]? = some l → ∀ p ∈ l, (0 ≤ p.1 ∧ p.1 < 10) ∧ p.2 = valOr (rdP u.start (full0 E.ce p.1))

section
variable {E E' : Eng} {t t' : Tal}
theorem later_len {C C' : CE} (h : Later C C') : C.cs.length ≤ C'.cs.length := by
  rcases Nat.eq_zero_or_pos C.cs.length with h0 | h0
  · omega
  · obtain ⟨u, hu, _⟩ := h.keep (C.cs.length - 1) C.cs[C.cs.length - 1] (List.getElem?_eq_getElem _)
    have := (List.getElem?_eq_some_iff.1 hu).1
    omega
theorem Later.tx (h : Later E.ce E'.ce) (hl : E'.txs.length = E.txs.length) {i : Nat} {u' : Tx} (hu : E'.txs[i]? = some u') : ∃ u, E.txs[i]? = some u ∧ u'.level = u.level ∧ u'.start = u.start := by
  have hi : i < E.txs.length := by rw [← hl]; exact (List.getElem?_eq_some_iff.1 hu).1
  have hu0 : E.txs[i]? = some E.txs[i] := List.getElem?_eq_getElem hi
  obtain ⟨c, hc, h1, h2, _⟩ := h.keep i _ (cs_get hu0)
  rw [cs_get hu] at hc
  cases hc
  exact ⟨_, hu0, h1, h2⟩
theorem over_le {E : Eng} {s : Int} {j : Nat} {l : List Int} (h : ∀ o ∈ l, o ≤ s) : ∀ o ∈ overTo E s j l, o ≤ s := fun o ho => by
  unfold overTo at ho
  obtain ⟨i, hi, rfl⟩ := List.mem_mapIdx.1 ho
  split
  · exact Int.le_refl _
  · exact h _ (List.getElem_mem _)
theorem over_get (E : Eng) (s : Int) (j : Nat) (l : List Int) (i : Nat) : (overTo E s j l)[i]? = (l[i]?).map (fun o => if i < j ∧ o = 0 ∧ overB E i = true then s else o) := by
  unfold overTo
  rw [List.getElem?_mapIdx]
/-- A step by which no transaction is begun, and what is told besides is told rightly. -/
theorem Tells.go (h : Tells E t) (hM : Mid0 E') (hL : Later E.ce E'.ce) (hlen : E'.txs.length = E.txs.length) {own' : List (Int → Option Int)} {reads' : List (List (Int × Int))} {n' : Int} (hown : OwnOk (fun i => own'[i]?.getD (fun _ => none)) E'.ce) (ho : own'.length = t.own.length) (hr : reads'.length = t.reads.length)
    (hrd : ∀ (i : Nat) (u : Tx) (l : List (Int × Int)), E.txs[i]? = some u → u.level ≠ 0 → reads'[i]? = some l → ∀ p ∈ l, (0 ≤ p.1 ∧ p.1 < 10) ∧ p.2 = valOr (rdP u.start (full0 E.ce p.1))) (hn : 0 ≤ n' ∧ n' ≤ t.steps + 1) (hlate : ∀ c, E.last < c → E'.wr c ≠ none → ∀ (i : Nat) (u : Tx), E.txs[i]? = some u → u.start < c) :
    Tells E' (endT E' { t with own := own', reads := reads', n := n', steps := t.steps + 1, broken := false }) := by
  have hC := h.mid.com
  have hC' := hM.com
  have hst : ∀ (i : Nat) (u : Tx), E.txs[i]? = some u → u.start ≤ E.ce.last := fun i u hu => (hC.start i _ (cs_get hu)).2
  have hwr : ∀ c, c ≤ E.last → E'.wr c = E.wr c := fun c hc => hL.wr hC hC' hc
  refine ⟨hM, h.llev.trans hlen.symm, h.lsnap.trans hlen.symm, ho.trans (h.lown.trans hlen.symm), hr.trans (h.lreads.trans hlen.symm), h.lbegun.trans hlen.symm, ?_, fun i u hu => ?_, hown, fun i u hu k hk => ?_, rfl, hn, ?_, ?_, fun k u hu h2 => ?_, fun o ho => ?_, fun i k u c hu hc hcs => ?_, fun i k u v hki hv hu => ?_, fun c i u hc hu => ?_, fun i u l hu hlv hl p hp => ?_⟩
  · show (overTo E' (t.steps + 1) t.over.length t.over).length = _
    unfold overTo
    rw [List.length_mapIdx]
    exact h.lover.trans hlen.symm
  · obtain ⟨v, hv, e1, _⟩ := hL.tx hlen hu
    rw [e1]
    exact h.lev i v hv
  · obtain ⟨v, hv, _, e2⟩ := hL.tx hlen hu
    rw [e2]
    show ofP (t.snap[i]?.getD []) k = _
    rw [h.snap i v hv k hk, hL.rd hC k (hst i v hv)]
  · exact over_le (fun o ho => by have := h.ovr o ho; show o ≤ t.steps + 1; omega)
  · intro o ho
    have hnum := h.num
    obtain ⟨i, hi, rfl⟩ := List.mem_mapIdx.1 (show o ∈ t.over.mapIdx _ from ho)
    split
    · show 0 ≤ t.steps + 1
      omega
    · exact h.ovp _ (List.getElem_mem _)
  · show 0 < (overTo E' (t.steps + 1) t.over.length t.over)[k]?.getD 0
    have hk : k < t.over.length := by rw [h.lover, ← hlen]; exact (List.getElem?_eq_some_iff.1 hu).1
    rw [over_get, List.getElem?_eq_getElem hk]
    simp only [Option.map_some, Option.getD_some]
    have hov : overB E' k = true := by unfold overB; rw [hu]; simpa using h2
    have hnum := h.num
    by_cases ho : t.over[k] = 0
    · rw [if_pos ⟨hk, ho, hov⟩]; omega
    · rw [if_neg (fun hc => ho hc.2.1)]
      have hpos := h.ovp t.over[k] (List.getElem_mem _)
      omega
  · have := h.bgn o ho
    exact ⟨this.1, by show o ≤ t.steps + 1; omega⟩
  · obtain ⟨v, hv, _, e2⟩ := hL.tx hlen hu
    rw [e2] at hcs
    have hle : c ≤ E.last := Int.le_trans hcs (hst i v hv)
    rw [hwr c hle] at hc
    have h1 := h.ord i k v c hv hc hcs
    show (overTo E' (t.steps + 1) t.over.length t.over)[k]?.getD 0 < t.begun[i]?.getD 0
    rw [over_get]
    cases hk : t.over[k]? with
    | none => rw [hk] at h1; exact h1
    | some o =>
      rw [hk] at h1
      simp only [Option.map_some, Option.getD_some] at h1 ⊢
      split
      · rename_i hx
        obtain ⟨w, hw, hw2⟩ := (hC.coms k).1 (List.mem_filter.1 (hC.wr_com hc)).1
        obtain ⟨x, hx2, e⟩ := cs_of hw
        have h3 : x.state = 2 := by have := congrArg Cor.state e; exact this.trans hw2
        have := h.ovn k x hx2 (by omega)
        rw [hk] at this
        simp only [Option.getD_some] at this
        omega
      · exact h1
  · obtain ⟨u0, hu0, _, e1⟩ := hL.tx hlen hu
    obtain ⟨v0, hv0, _, e2⟩ := hL.tx hlen hv
    rw [e1, e2]
    exact h.mono i k u0 v0 hki hv0 hu0
  · obtain ⟨v, hv, _, e2⟩ := hL.tx hlen hu
    rw [e2]
    by_cases hle : c ≤ E.last
    · rw [hwr c hle] at hc
      exact h.late c i v hc hv
    · exact hlate c (by omega) (by rw [hc]; exact nofun) i v hv
  · obtain ⟨v, hv, e1, e2⟩ := hL.tx hlen hu
    rw [e1] at hlv
    rw [e2, hL.rd hC p.1 (hst i v hv)]
    exact hrd i v l hv hlv hl p hp
end

end Go.Proofs.YtjefgmeejhakbaaGreatDoor
