/- How a store lies in memory: its block, and of each key a row of its own; what a call that turns one store leaves of all others. -/
import Derived.Test.YtjefgmeejhakbaaDoorLatest
import Derived.Test.YtjefgmeejhakbaaDoorLkBase
import Derived.Deep.AppendLies
namespace Go.Proofs.YtjefgmeejhakbaaDoor
open Go.RowKit

theorem vrow_one : ∀ (l : List (Int × Int)), ∀ u ∈ vrow l, u.oneCell' = true
  | [], u, h => by simp [vrow] at h
  | (x, y) :: r, u, h => by
    simp only [vrow, List.mem_cons] at h
    rcases h with rfl | rfl | h
    · rfl
    · rfl
    · exact vrow_one r u h
theorem vrow_drop : ∀ (l : List (Int × Int)) (m : Nat), (vrow l).drop (m * 2) = vrow (l.drop m)
  | l, 0 => by simp
  | [], m + 1 => by simp [vrow]
  | (x, y) :: r, m + 1 => by
    rw [show (m + 1) * 2 = m * 2 + 1 + 1 from by omega]
    simpa [vrow] using vrow_drop r m

/-- What a row owns is versions. -/
theorem vers_of_owns {w : World} {base : Nat} {v : Value} {l : List (Int × Int)} (h : w.ownsRow base 44 2 v l.length (vrow l)) : Vers w.heap.size w v l := by
  rcases h.2 with ⟨hv, hn⟩ | ⟨g, cap, cur, hv, hb, hg, hr⟩
  · exact .inl ⟨hv, List.eq_nil_of_length_eq_zero hn⟩
  · refine .inr ⟨g, cap, hv, (Array.getElem?_eq_some_iff.1 hg).1, fun j a x e => ?_⟩
    have hc := h.cells (g := g) (by rw [hv]; rfl)
    have hx := vrow_get l j a x e
    have h1 := hc (j * 2) _ hx.1
    have h2 := hc (j * 2 + 1) _ hx.2
    rw [addr_add] at h1 h2
    exact ⟨h1, h2⟩

/-- The store at block s: the last commit's time, and of each key its versions; the rows lie at base or beyond. -/
structure Sto (w : World) (base s : Nat) (last : Int) (vs : List Value) (ks : List (List (Int × Int))) : Prop where
  blk : w.heap[s]? = some (.cells (Value.int .i64 last :: vs).toArray 26 (0, 0))
  lv : vs.length = 10
  lk : ks.length = 10
  own : ∀ (k : Nat) (v : Value) (l : List (Int × Int)), vs[k]? = some v → ks[k]? = some l → w.ownsRow base 44 2 v l.length (vrow l)
  apart : ∀ (i j : Nat) (v u : Value) (g : Nat), vs[i]? = some v → vs[j]? = some u → v.ownBlock = some g → u.ownBlock = some g → i = j
  sb : s < base

/-- Block b is one of the rows. -/
def InRows (vs : List Value) (b : Nat) : Prop := ∃ v ∈ vs, v.ownBlock = some b

/-- The world is as it was but for block s, the rows of vs, and new blocks; the rows of vs' are rows of vs, or new. -/
structure Kept (s : Nat) (vs vs' : List Value) (w w' : World) : Prop where
  os : w'.os = w.os
  tape : w'.tape = w.tape
  output : w'.output = w.output
  size : w.heap.size ≤ w'.heap.size
  block : ∀ b, b < w.heap.size → b ≠ s → ¬ InRows vs b → w'.heap[b]? = w.heap[b]?
  sub : ∀ g, InRows vs' g → InRows vs g ∨ w.heap.size ≤ g

theorem Kept.trans {s : Nat} {vs vs' vs'' : List Value} {a b c : World} (h : Kept s vs vs' a b) (k : Kept s vs' vs'' b c) : Kept s vs vs'' a c :=
  ⟨k.os.trans h.os, k.tape.trans h.tape, k.output.trans h.output, Nat.le_trans h.size k.size,
    fun i hi hs hn => (k.block i (Nat.lt_of_lt_of_le hi h.size) hs (fun hr => (h.sub i hr).elim hn (fun e => by omega))).trans (h.block i hi hs hn),
    fun g hg => (k.sub g hg).elim (h.sub g) (fun e => .inr (Nat.le_trans h.size e))⟩
theorem Kept.refl (s : Nat) (vs : List Value) (w : World) : Kept s vs vs w w := ⟨rfl, rfl, rfl, Nat.le_refl _, fun _ _ _ _ => rfl, fun _ h => .inl h⟩
theorem Kept.of_below {s : Nat} {vs : List Value} {w w' : World} (h : Below w.heap.size w w') : Kept s vs vs w w' :=
  ⟨h.os, h.tape, h.output, h.size, fun b hb _ _ => h.block b hb, fun _ h => .inl h⟩
/-- Of what was there below B nothing has turned, where the store lies beyond. -/
theorem Kept.below {s B : Nat} {vs vs' : List Value} {w w' : World} (h : Kept s vs vs' w w') (hB : B ≤ w.heap.size) (hs : B ≤ s) (hr : ∀ g, InRows vs g → B ≤ g) : Below B w w' :=
  ⟨h.os, h.tape, h.output, h.size, fun k hk => h.block k (by omega) (by omega) (fun e => by have := hr k e; omega)⟩

theorem Sto.lt {w : World} {base s : Nat} {last : Int} {vs : List Value} {ks : List (List (Int × Int))} (h : Sto w base s last vs ks) : s < w.heap.size := (Array.getElem?_eq_some_iff.1 h.blk).1
theorem Sto.row {w : World} {base s : Nat} {last : Int} {vs : List Value} {ks : List (List (Int × Int))} (h : Sto w base s last vs ks) {g : Nat} (hg : InRows vs g) : base ≤ g ∧ g < w.heap.size := by
  obtain ⟨v, hv, hg⟩ := hg
  obtain ⟨k, hk, rfl⟩ := List.mem_iff_getElem.1 hv
  have hl : k < ks.length := by have := h.lv; have := h.lk; omega
  exact (h.own k _ ks[k] (List.getElem?_eq_getElem hk) (List.getElem?_eq_getElem hl)).lt g hg

/-- A store whose blocks all lie as they lay is what it was. -/
theorem Sto.kept {w w' : World} {base s : Nat} {last : Int} {vs : List Value} {ks : List (List (Int × Int))} (h : Sto w base s last vs ks)
    (hs : w'.heap[s]? = w.heap[s]?) (hr : ∀ g, InRows vs g → w'.heap[g]? = w.heap[g]?) : Sto w' base s last vs ks :=
  ⟨hs.trans h.blk, h.lv, h.lk, fun k v l hv hl => by
    have ho := h.own k v l hv hl
    refine ⟨ho.1, ?_⟩
    rcases ho.2 with hn | ⟨g, cap, cur, e, hb, hg, r⟩
    · exact .inl hn
    · exact .inr ⟨g, cap, cur, e, hb, (hr g ⟨v, List.mem_of_getElem? hv, by rw [e]; rfl⟩).trans hg, r⟩, h.apart, h.sb⟩
theorem Sto.below {w w' : World} {base s : Nat} {last : Int} {vs : List Value} {ks : List (List (Int × Int))} (h : Sto w base s last vs ks) (hB : Below w.heap.size w w') : Sto w' base s last vs ks :=
  h.kept (hB.block s h.lt) (fun g hg => hB.block g (h.row hg).2)
/-- Another store is what it was. -/
theorem Sto.other {w w' : World} {base s t base' : Nat} {last : Int} {vs us us' : List Value} {ks : List (List (Int × Int))} (h : Sto w base s last vs ks) (hk : Kept t us us' w w')
    (hne : s ≠ t) (hsr : ¬ InRows us s) (hap : ∀ g, InRows vs g → ¬ InRows us g) (hb : t < base') (hbb : base' ≤ base) : Sto w' base s last vs ks :=
  h.kept (hk.block s h.lt hne hsr) (fun g hg => hk.block g (h.row hg).2 (by have := (h.row hg).1; omega) (hap g hg))

/-- The key's cell. -/
theorem Sto.cell {w : World} {base s : Nat} {last : Int} {vs : List Value} {ks : List (List (Int × Int))} (h : Sto w base s last vs ks) {k : Nat} {v : Value} (hv : vs[k]? = some v) : w.cell? ⟨s, 1 + k, none⟩ = some v := by
  rw [cell_of_row w s (1 + k) _ 26 (0, 0) h.blk, Nat.add_comm]
  simpa using hv
theorem Sto.cellLast {w : World} {base s : Nat} {last : Int} {vs : List Value} {ks : List (List (Int × Int))} (h : Sto w base s last vs ks) : w.cell? ⟨s, 0, none⟩ = some (.int .i64 last) := by
  rw [cell_of_row w s 0 _ 26 (0, 0) h.blk]
  simp
theorem Sto.free {w : World} {base s : Nat} {last : Int} {vs : List Value} {ks : List (List (Int × Int))} (h : Sto w base s last vs ks) (o : Nat) : w.frozen? ⟨s, o, none⟩ = false := by
  simp [World.frozen?, h.blk]

end Go.Proofs.YtjefgmeejhakbaaDoor
