/- The writers of all keys in memory; (*writers).add. -/
import Derived.Test.YtjefgmeejhakbaaGreatDoorOrWritR
namespace Go.Proofs.YtjefgmeejhakbaaGreatDoor
open Go.RowKit
def updN {α : Type} (f : Nat → α) (k : Nat) (v : α) : Nat → α := fun j => if j = k then v else f j
theorem updN_same {α : Type} (f : Nat → α) (k : Nat) (v : α) : updN f k v k = v := by simp [updN]
theorem updN_other {α : Type} (f : Nat → α) {k j : Nat} (v : α) (h : j ≠ k) : updN f k v j = f j := by simp [updN, h]
def keyCells (av : Nat → Value) (mv : Nat → Option Nat) : Array Value := Array.ofFn (n := 20) (fun i => if i.val % 2 = 0 then av (i.val / 2) else .map (mv (i.val / 2)))
theorem keyCells_size (av : Nat → Value) (mv : Nat → Option Nat) : (keyCells av mv).size = 20 := by simp [keyCells]
theorem keyCells_even (av : Nat → Value) (mv : Nat → Option Nat) {k : Nat} (hk : k < 10) : (keyCells av mv)[k * 2]? = some (av k) := by
  simp [keyCells, show k * 2 < 20 by omega]
theorem keyCells_odd (av : Nat → Value) (mv : Nat → Option Nat) {k : Nat} (hk : k < 10) : (keyCells av mv)[k * 2 + 1]? = some (.map (mv k)) := by
  simp [keyCells, show k * 2 + 1 < 20 by omega, show (k * 2 + 1) / 2 = k by omega, show (k * 2 + 1) % 2 = 1 by omega]
theorem keyCells_get (av : Nat → Value) (mv : Nat → Option Nat) (i : Nat) : (keyCells av mv)[i]? = if i < 20 then some (if i % 2 = 0 then av (i / 2) else .map (mv (i / 2))) else none := by
  unfold keyCells
  rw [Array.getElem?_ofFn]
  by_cases h : i < 20 <;> simp [h]
theorem keyCells_setA (av : Nat → Value) (mv : Nat → Option Nat) (k : Nat) (a : Value) : (keyCells av mv).setIfInBounds (k * 2) a = keyCells (updN av k a) mv := by
  apply Array.ext_getElem?
  intro i
  rw [Array.getElem?_setIfInBounds, keyCells_get, keyCells_get, keyCells_size]
  unfold updN
  by_cases e : k * 2 = i
  · subst e
    by_cases h : k * 2 < 20 <;> simp [h]
  · rw [if_neg e]
    by_cases h : i < 20
    · rw [if_pos h, if_pos h]
      by_cases e2 : i % 2 = 0
      · rw [if_pos e2, if_pos e2, if_neg (by omega)]
      · rw [if_neg e2, if_neg e2]
    · rw [if_neg h, if_neg h]
theorem keyCells_setM (av : Nat → Value) (mv : Nat → Option Nat) (k : Nat) (m : Option Nat) : (keyCells av mv).setIfInBounds (k * 2 + 1) (.map m) = keyCells av (updN mv k m) := by
  apply Array.ext_getElem?
  intro i
  rw [Array.getElem?_setIfInBounds, keyCells_get, keyCells_get, keyCells_size]
  unfold updN
  by_cases e : k * 2 + 1 = i
  · subst e
    by_cases h : k * 2 + 1 < 20
    · rw [if_pos rfl, if_pos h, if_pos h, if_neg (by omega), if_pos (by omega)]
    · rw [if_pos rfl, if_neg h, if_neg h]
  · rw [if_neg e]
    by_cases h : i < 20
    · rw [if_pos h, if_pos h]
      by_cases e2 : i % 2 = 0
      · rw [if_pos e2, if_pos e2]
      · rw [if_neg e2, if_neg e2, if_neg (by omega)]
    · rw [if_neg h, if_neg h]
structure KeysAt (w : World) (K : Nat) (av : Nat → Value) (mv : Nat → Option Nat) (S : Nat → List Int) : Prop where
  blk : w.heap[K]? = some (.cells (keyCells av mv) 133 (0, 0))
  row : ∀ k, k < 10 → w.ownsRow 0 3 1 (av k) (S k).length (intsV (S k))
  map : ∀ k, k < 10 → MapIs w (mv k) (S k).length (firstV (S k))
  nil : ∀ k, k < 10 → (mv k = none ↔ S k = [])
  ap : ∀ i j g, i < 10 → j < 10 → (av i).ownBlock = some g → (av j).ownBlock = some g → i = j
  am : ∀ i j b, i < 10 → j < 10 → mv i = some b → mv j = some b → i = j
def keysOwn (K : Nat) (av : Nat → Value) (mv : Nat → Option Nat) (b : Nat) : Prop := b = K ∨ ∃ k, k < 10 ∧ ((av k).ownBlock = some b ∨ mv k = some b)
section
variable {w w' : World} {K : Nat} {av : Nat → Value} {mv : Nat → Option Nat} {S : Nat → List Int}
theorem KeysAt.lt (h : KeysAt w K av mv S) : K < w.heap.size := (Array.getElem?_eq_some_iff.1 h.blk).1
theorem KeysAt.rowIs (h : KeysAt w K av mv S) {k g : Nat} (hk : k < 10) (hg : (av k).ownBlock = some g) : ∃ cur, w.heap[g]? = some (.cells cur 3 (0, 0)) := by
  rcases (h.row k hk).2 with ⟨e, _⟩ | ⟨g', cap, cur, e, _, hc, _⟩
  · rw [e] at hg; cases hg
  · rw [e] at hg; cases hg; exact ⟨cur, hc⟩
theorem KeysAt.rowNe (h : KeysAt w K av mv S) {k : Nat} (hk : k < 10) : (av k).ownBlock ≠ some K := fun e => by
  obtain ⟨cur, hc⟩ := h.rowIs hk e
  rw [h.blk] at hc
  simp at hc
theorem KeysAt.mapNe (h : KeysAt w K av mv S) {k : Nat} (hk : k < 10) : mv k ≠ some K := (h.map k hk).ne h.blk
theorem KeysAt.mapRow (h : KeysAt w K av mv S) {k j g : Nat} (hk : k < 10) (hj : j < 10) (hg : (av k).ownBlock = some g) : mv j ≠ some g := by
  obtain ⟨cur, hc⟩ := h.rowIs hk hg
  exact (h.map j hj).ne hc
theorem KeysAt.own_lt (h : KeysAt w K av mv S) {b : Nat} (hb : keysOwn K av mv b) : b < w.heap.size := by
  rcases hb with rfl | ⟨k, hk, e | e⟩
  · exact h.lt
  · exact ((h.row k hk).lt b e).2
  · exact (h.map k hk).lt e
theorem KeysAt.same (h : KeysAt w K av mv S) (hs : ∀ b, keysOwn K av mv b → w'.heap[b]? = w.heap[b]?) : KeysAt w' K av mv S :=
  ⟨(hs K (.inl rfl)).trans h.blk, fun k hk => owns_same (h.row k hk) (fun g e => hs g (.inr ⟨k, hk, .inl e⟩)), fun k hk => (h.map k hk).same (fun b e => hs b (.inr ⟨k, hk, .inr e⟩)), h.nil, h.ap, h.am⟩
theorem KeysAt.below (h : KeysAt w K av mv S) (hB : Below w.heap.size w w') : KeysAt w' K av mv S := h.same (fun b hb => hB.block b (h.own_lt hb))
theorem KeysAt.c0 (h : KeysAt w K av mv S) {k : Nat} (hk : k < 10) : w.cell? ⟨K, k * 2, none⟩ = some (av k) := (cell_of_row w K (k * 2) _ _ (0, 0) h.blk).trans (keyCells_even av mv hk)
theorem KeysAt.c1 (h : KeysAt w K av mv S) {k : Nat} (hk : k < 10) : w.cell? ⟨K, k * 2 + 1, none⟩ = some (.map (mv k)) := (cell_of_row w K (k * 2 + 1) _ _ (0, 0) h.blk).trans (keyCells_odd av mv hk)
theorem KeysAt.free (h : KeysAt w K av mv S) (j : Nat) : w.frozen? ⟨K, j, none⟩ = false := by simp [World.frozen?, h.blk]
theorem KeysAt.at (h : KeysAt w K av mv S) {k : Nat} (hk : k < 10) : WrAt w K (k * 2) (av k) (mv k) (S k) := ⟨h.c0 hk, h.c1 hk, h.row k hk, h.map k hk⟩
theorem KeysAt.turn (h : KeysAt w K av mv S) {k : Nat} (hk : k < 10) {a : Value} {m : Option Nat} {s : List Int} (hb : w'.heap[K]? = some (.cells (keyCells (updN av k a) (updN mv k m)) 133 (0, 0)))
    (ho : w'.ownsRow 0 3 1 a s.length (intsV s)) (hm : MapIs w' m s.length (firstV s)) (hn : m = none ↔ s = [])
    (hf : ∀ b, b < w.heap.size → b ≠ K → (av k).ownBlock ≠ some b → mv k ≠ some b → w'.heap[b]? = w.heap[b]?) (hsz : w.heap.size ≤ w'.heap.size) (hos : w'.os = w.os ∧ w'.tape = w.tape ∧ w'.output = w.output)
    (ha : ∀ g, a.ownBlock = some g → (av k).ownBlock = some g ∨ w.heap.size ≤ g) (hmm : ∀ b, m = some b → mv k = some b ∨ w.heap.size ≤ b) :
    KeysAt w' K (updN av k a) (updN mv k m) (updN S k s) ∧ KeptO (keysOwn K av mv) (keysOwn K (updN av k a) (updN mv k m)) w w' := by
  refine ⟨⟨hb, fun j hj => ?_, fun j hj => ?_, fun j hj => ?_, fun i j g hi hj h1 h2 => ?_, fun i j b hi hj h1 h2 => ?_⟩, ⟨hos.1, hos.2.1, hos.2.2, hsz, fun b hbl hno => ?_, fun b hb => ?_⟩⟩
  · by_cases e : j = k
    · subst e; rw [updN_same, updN_same]; exact ho
    · rw [updN_other _ _ e, updN_other _ _ e]
      refine owns_same (h.row j hj) (fun g hg => hf g ((h.row j hj).lt g hg).2 (fun e2 => h.rowNe hj (e2 ▸ hg)) (fun e2 => e (h.ap j k g hj hk hg e2)) (h.mapRow hj hk hg))
  · by_cases e : j = k
    · subst e; rw [updN_same, updN_same]; exact hm
    · rw [updN_other _ _ e, updN_other _ _ e]
      refine (h.map j hj).same (fun b hb => hf b ((h.map j hj).lt hb) (fun e2 => h.mapNe hj (e2 ▸ hb)) (fun e2 => h.mapRow hk hj e2 hb) (fun e2 => e (h.am j k b hj hk hb e2)))
  · by_cases e : j = k
    · subst e; rw [updN_same, updN_same]; exact hn
    · rw [updN_other _ _ e, updN_other _ _ e]; exact h.nil j hj
  · by_cases e1 : i = k
    · by_cases e2 : j = k
      · omega
      · subst e1
        rw [updN_same] at h1
        rw [updN_other _ _ e2] at h2
        rcases ha g h1 with h3 | h3
        · exact (h.ap j i g hj hk h2 h3).symm
        · have := ((h.row j hj).lt g h2).2; omega
    · by_cases e2 : j = k
      · subst e2
        rw [updN_same] at h2
        rw [updN_other _ _ e1] at h1
        rcases ha g h2 with h3 | h3
        · exact h.ap i j g hi hk h1 h3
        · have := ((h.row i hi).lt g h1).2; omega
      · rw [updN_other _ _ e1] at h1
        rw [updN_other _ _ e2] at h2
        exact h.ap i j g hi hj h1 h2
  · by_cases e1 : i = k
    · by_cases e2 : j = k
      · omega
      · subst e1
        rw [updN_same] at h1
        rw [updN_other _ _ e2] at h2
        rcases hmm b h1 with h3 | h3
        · exact (h.am j i b hj hk h2 h3).symm
        · have := (h.map j hj).lt h2; omega
    · by_cases e2 : j = k
      · subst e2
        rw [updN_same] at h2
        rw [updN_other _ _ e1] at h1
        rcases hmm b h2 with h3 | h3
        · exact h.am i j b hi hk h1 h3
        · have := (h.map i hi).lt h1; omega
      · rw [updN_other _ _ e1] at h1
        rw [updN_other _ _ e2] at h2
        exact h.am i j b hi hj h1 h2
  · exact hf b hbl (fun e => hno (.inl e)) (fun e => hno (.inr ⟨k, hk, .inl e⟩)) (fun e => hno (.inr ⟨k, hk, .inr e⟩))
  · rcases hb with e | ⟨j, hj, e | e⟩
    · exact .inl (.inl e)
    · by_cases ej : j = k
      · subst ej
        rw [updN_same] at e
        rcases ha b e with e | e
        · exact .inl (.inr ⟨j, hj, .inl e⟩)
        · exact .inr e
      · rw [updN_other _ _ ej] at e
        exact .inl (.inr ⟨j, hj, .inl e⟩)
    · by_cases ej : j = k
      · subst ej
        rw [updN_same] at e
        rcases hmm b e with e | e
        · exact .inl (.inr ⟨j, hj, .inr e⟩)
        · exact .inr e
      · rw [updN_other _ _ ej] at e
        exact .inl (.inr ⟨j, hj, .inr e⟩)
end
def wAdd (s : List Int) (x : Int) : List Int := if s.getLast? = some x then s else s ++ [x]
end Go.Proofs.YtjefgmeejhakbaaGreatDoor
