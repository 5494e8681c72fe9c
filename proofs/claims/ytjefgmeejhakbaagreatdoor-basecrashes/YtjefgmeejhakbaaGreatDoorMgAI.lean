/- LkShelf Kept EkMem EkSmall EkHold EkFor MapLen: put together for a claim. -/
import Derived.Shelf.SlGeneric
import Derived.Shelf.SlicesE.DeleteFunc
import Derived.Ground.SlgfProg
import Derived.Lib.SliceRun
import Derived.Test.YtjefgmeejhakbaaGreatDoorProg
import Derived.Test.YtjefgmeejhakbaaGreatDoorMgAA
import Derived.Maps.RangeWalk
/- slices.DeleteFunc at []int: the library's contract, laid at this dump (by the kit's program, in plain words). -/
namespace Go.Proofs
open Go.Shelf
def Tryz.l10_ren : Go.Shelf.Ren := ⟨fun | 10 => 238 | 6 => 247 | n => n, fun | 22 => 29 | 23 => 3 | 25 => 72 | 3 => 3 | 4 => 4 | 0 => 0 | n => n, fun | n => n⟩
theorem Tryz.l10 : Go.Proofs.SlLaysH.n10 Tryz.prog Tryz.l10_ren := {
  mixed := by kernel_rfl
  f6 := ⟨Tryz.f247.name, by decide, Tryz.func247.trans (congrArg some (by kernel_rfl))⟩
  f10 := ⟨Tryz.f238.name, by decide, Tryz.func238.trans (congrArg some (by kernel_rfl))⟩
  t0 := Tryz.underlying0
  a0 := Tryz.isAgg0
  z0 := Tryz.sizeOf0
  v0 := Tryz.zeroValue0
  t3 := Tryz.underlying3
  a3 := Tryz.isAgg3
  z3 := Tryz.sizeOf3
  v3 := Tryz.zeroValue3
  t4 := Tryz.underlying4
  a4 := Tryz.isAgg4
  z4 := Tryz.sizeOf4
  v4 := Tryz.zeroValue4
  t22 := Tryz.underlying29
  a22 := Tryz.isAgg29
  z22 := Tryz.sizeOf29
  v22 := Tryz.zeroValue29
  a23 := Tryz.isAgg3
  z23 := Tryz.sizeOf3
  t25 := Tryz.underlying72
  a25 := Tryz.isAgg72
  z25 := Tryz.sizeOf72
  v25 := Tryz.zeroValue72 }
end Go.Proofs

/- What is kept but for some blocks; small facts on maps of ints. -/
namespace Go.Proofs.YtjefgmeejhakbaaGreatDoor
open Go.RowKit

/-- The world is as it was but for the blocks of o, and new ones; those of o' are of o, or new. -/
structure KeptO (o o' : Nat → Prop) (w w' : World) : Prop where
  os : w'.os = w.os
  tape : w'.tape = w.tape
  output : w'.output = w.output
  size : w.heap.size ≤ w'.heap.size
  block : ∀ b, b < w.heap.size → ¬ o b → w'.heap[b]? = w.heap[b]?
  sub : ∀ g, o' g → o g ∨ w.heap.size ≤ g

theorem KeptO.trans {o o' o'' : Nat → Prop} {a b c : World} (h : KeptO o o' a b) (k : KeptO o' o'' b c) : KeptO o o'' a c :=
  ⟨k.os.trans h.os, k.tape.trans h.tape, k.output.trans h.output, Nat.le_trans h.size k.size,
    fun i hi hn => (k.block i (Nat.lt_of_lt_of_le hi h.size) (fun hr => (h.sub i hr).elim hn (fun e => by omega))).trans (h.block i hi hn),
    fun g hg => (k.sub g hg).elim (h.sub g) (fun e => .inr (Nat.le_trans h.size e))⟩
theorem KeptO.refl (o : Nat → Prop) (w : World) : KeptO o o w w := ⟨rfl, rfl, rfl, Nat.le_refl _, fun _ _ _ => rfl, fun _ h => .inl h⟩
theorem KeptO.of_below {o : Nat → Prop} {w w' : World} (h : Below w.heap.size w w') : KeptO o o w w' :=
  ⟨h.os, h.tape, h.output, h.size, fun b hb _ => h.block b hb, fun _ h => .inl h⟩
/-- Of what was there below B nothing has turned, where o lies beyond. -/
theorem KeptO.below {B : Nat} {o o' : Nat → Prop} {w w' : World} (h : KeptO o o' w w') (hB : B ≤ w.heap.size) (hs : ∀ b, o b → B ≤ b) : Below B w w' :=
  ⟨h.os, h.tape, h.output, h.size, fun k hk => h.block k (by omega) (fun e => by have := hs k e; omega)⟩

theorem KeptO.drewN {o o' : Nat → Prop} {a w : World} (h : KeptO o o' a w) : ∀ q, KeptO o o' a (w.drewN q)
  | 0 => h
  | q + 1 => ⟨(h.drewN q).os, (h.drewN q).tape, (h.drewN q).output, (h.drewN q).size, (h.drewN q).block, (h.drewN q).sub⟩
theorem getD_int (o : Option Int) (d : Int) : (o.map (Value.int .i64)).getD (.int .i64 d) = .int .i64 (o.getD d) := by cases o <;> rfl
theorem eqlSome (b : Nat) (w : World) : (binOp .eql 69 (.map (some b)) (.map none)).run Tryz.prog w = .ok (.bool false) w := by kernel_rfl
theorem eqlNil (w : World) : (binOp .eql 69 (.map none) (.map none)).run Tryz.prog w = .ok (.bool true) w := by kernel_rfl
theorem zeroI (w : World) : (zeroValue 3).run Tryz.prog w = .ok (.int .i64 0) w := by kernel_rfl
theorem zeroL (w : World) : (zeroValue 29).run Tryz.prog w = .ok (.slice none 0 0) w := by kernel_rfl
theorem updT_map (h : Int → Option Int) (k : Int) (v : Option Int) : (fun j => (updT h k v j).map (Value.int .i64)) = updT (fun j => (h j).map (Value.int .i64)) k (v.map (Value.int .i64)) := by
  funext j
  by_cases e : j = k
  · subst e; simp [updT_same]
  · simp [updT_other _ _ e]

end Go.Proofs.YtjefgmeejhakbaaGreatDoor

/- How a lock.Table lies in memory: its block, its three maps, and of each line a row of its own. -/
namespace Go.Proofs.YtjefgmeejhakbaaGreatDoor
open Go.RowKit

/-- What a table lies in: the cells ahead of it, those behind it, and the block's type. -/
structure Emb where
  pre : List Value
  post : List Value
  tt : TypeId
  ne : tt ≠ 3
/-- Where it begins. -/
def Emb.o (C : Emb) : Nat := C.pre.length
/-- The block's cells. -/
def Emb.cells (C : Emb) (a b c : Value) : Array Value := (C.pre ++ a :: b :: c :: C.post).toArray
theorem Emb.get0 (C : Emb) (a b c : Value) : (C.cells a b c)[C.o]? = some a := by unfold Emb.cells Emb.o; simp
theorem Emb.get1 (C : Emb) (a b c : Value) : (C.cells a b c)[C.o + 1]? = some b := by unfold Emb.cells Emb.o; simp
theorem Emb.get2 (C : Emb) (a b c : Value) : (C.cells a b c)[C.o + 2]? = some c := by unfold Emb.cells Emb.o; simp
theorem Emb.set0 (C : Emb) (a b c v : Value) : (C.cells a b c).setIfInBounds C.o v = C.cells v b c := by unfold Emb.cells Emb.o; simp
theorem Emb.set1 (C : Emb) (a b c v : Value) : (C.cells a b c).setIfInBounds (C.o + 1) v = C.cells a v c := by unfold Emb.cells Emb.o; simp
theorem Emb.set2 (C : Emb) (a b c v : Value) : (C.cells a b c).setIfInBounds (C.o + 2) v = C.cells a b v := by unfold Emb.cells Emb.o; simp

/-- Where the maps lie, and what the map of lines holds. -/
structure LkM where
  mh : Option Nat
  mw : Option Nat
  ml : Option Nat
  lv : Int → Option Value
/-- Block b is one of the table's. -/
def LkM.own (M : LkM) (s b : Nat) : Prop := b = s ∨ M.mh = some b ∨ M.mw = some b ∨ M.ml = some b ∨ ∃ k v, M.lv k = some v ∧ v.ownBlock = some b

/-- The table at block s: who holds a key, who waits for which, and the lines. -/
structure Raw (C : Emb) (w : World) (s N : Nat) (M : LkM) (h wa : Int → Option Int) (ln : Int → List Int) : Prop where
  blk : w.heap[s]? = some (.cells (C.cells (.map M.mh) (.map M.mw) (.map M.ml)) C.tt (0, 0))
  mh : MapIs w M.mh N (fun k => (h k).map (Value.int .i64))
  mw : MapIs w M.mw N (fun x => (wa x).map (Value.int .i64))
  ml : MapIs w M.ml N M.lv
  ln0 : ∀ k, ln k = [] → M.lv k = none
  ln1 : ∀ k, ln k ≠ [] → ∃ v, M.lv k = some v ∧ w.ownsRow 0 3 1 v (ln k).length (intsV (ln k))
  ap : ∀ i j v u g, M.lv i = some v → M.lv j = some u → v.ownBlock = some g → u.ownBlock = some g → i = j
  d1 : ∀ b, M.mh = some b → M.mw ≠ some b ∧ M.ml ≠ some b
  d2 : ∀ b, M.mw = some b → M.ml ≠ some b
  both : M.mw = none ↔ M.ml = none
  len : ∀ k, (ln k).length ≤ N

section
variable {C : Emb} {w w' : World} {s N : Nat} {M : LkM} {h wa : Int → Option Int} {ln : Int → List Int}
theorem Raw.lt (r : Raw C w s N M h wa ln) : s < w.heap.size := (Array.getElem?_eq_some_iff.1 r.blk).1
/-- A line's row. -/
theorem Raw.row (r : Raw C w s N M h wa ln) {k : Int} {v : Value} (hv : M.lv k = some v) : ln k ≠ [] ∧ w.ownsRow 0 3 1 v (ln k).length (intsV (ln k)) := by
  by_cases e : ln k = []
  · rw [r.ln0 k e] at hv; cases hv
  · obtain ⟨u, hu, ho⟩ := r.ln1 k e
    rw [hv] at hu
    cases hu
    exact ⟨e, ho⟩
theorem Raw.rowIs (r : Raw C w s N M h wa ln) {k : Int} {v : Value} {g : Nat} (hv : M.lv k = some v) (hg : v.ownBlock = some g) : ∃ cur, w.heap[g]? = some (.cells cur 3 (0, 0)) := by
  rcases (r.row hv).2.2 with ⟨e, _⟩ | ⟨g', cap, cur, e, _, hc, _⟩
  · rw [e] at hg; cases hg
  · rw [e] at hg; cases hg; exact ⟨cur, hc⟩
theorem Raw.row_ne (r : Raw C w s N M h wa ln) {k : Int} {v : Value} {g : Nat} (hv : M.lv k = some v) (hg : v.ownBlock = some g) : g ≠ s ∧ M.mh ≠ some g ∧ M.mw ≠ some g ∧ M.ml ≠ some g := by
  obtain ⟨cur, hc⟩ := r.rowIs hv hg
  refine ⟨?_, r.mh.ne hc, r.mw.ne hc, r.ml.ne hc⟩
  rintro rfl
  rw [r.blk] at hc
  injection hc with hc
  injection hc with _ hc
  exact C.ne hc
theorem Raw.map_ne (r : Raw C w s N M h wa ln) : M.mh ≠ some s ∧ M.mw ≠ some s ∧ M.ml ≠ some s := ⟨r.mh.ne r.blk, r.mw.ne r.blk, r.ml.ne r.blk⟩
theorem Raw.own_lt (r : Raw C w s N M h wa ln) {b : Nat} (hb : M.own s b) : b < w.heap.size := by
  rcases hb with rfl | e | e | e | ⟨k, v, hv, hg⟩
  · exact r.lt
  · exact r.mh.lt e
  · exact r.mw.lt e
  · exact r.ml.lt e
  · obtain ⟨cur, hc⟩ := r.rowIs hv hg
    exact (Array.getElem?_eq_some_iff.1 hc).1
/-- A table whose blocks all lie as they lay is what it was. -/
theorem Raw.same (r : Raw C w s N M h wa ln) (hs : ∀ b, M.own s b → w'.heap[b]? = w.heap[b]?) : Raw C w' s N M h wa ln :=
  ⟨(hs s (.inl rfl)).trans r.blk, r.mh.same (fun b e => hs b (.inr (.inl e))), r.mw.same (fun b e => hs b (.inr (.inr (.inl e)))), r.ml.same (fun b e => hs b (.inr (.inr (.inr (.inl e))))), r.ln0,
    fun k hk => by
      obtain ⟨v, hv, ho⟩ := r.ln1 k hk
      exact ⟨v, hv, owns_same ho (fun g hg => hs g (.inr (.inr (.inr (.inr ⟨k, v, hv, hg⟩)))))⟩, r.ap, r.d1, r.d2, r.both, r.len⟩
theorem Raw.below (r : Raw C w s N M h wa ln) (hB : Below w.heap.size w w') : Raw C w' s N M h wa ln := r.same (fun b hb => hB.block b (r.own_lt hb))
theorem Raw.mono (r : Raw C w s N M h wa ln) {N' : Nat} (hN : N ≤ N') : Raw C w s N' M h wa ln :=
  ⟨r.blk, r.mh.mono hN, r.mw.mono hN, r.ml.mono hN, r.ln0, r.ln1, r.ap, r.d1, r.d2, r.both, fun k => Nat.le_trans (r.len k) hN⟩

theorem Raw.c0 (r : Raw C w s N M h wa ln) : w.cell? ⟨s, C.o, none⟩ = some (.map M.mh) := (cell_of_row w s C.o _ C.tt (0, 0) r.blk).trans (C.get0 _ _ _)
theorem Raw.c1 (r : Raw C w s N M h wa ln) : w.cell? ⟨s, C.o + 1, none⟩ = some (.map M.mw) := (cell_of_row w s (C.o + 1) _ C.tt (0, 0) r.blk).trans (C.get1 _ _ _)
theorem Raw.c2 (r : Raw C w s N M h wa ln) : w.cell? ⟨s, C.o + 2, none⟩ = some (.map M.ml) := (cell_of_row w s (C.o + 2) _ C.tt (0, 0) r.blk).trans (C.get2 _ _ _)
theorem Raw.free (r : Raw C w s N M h wa ln) (o : Nat) : w.frozen? ⟨s, o, none⟩ = false := by simp [World.frozen?, r.blk]
end

/-- A table's zero value. -/
def noM : LkM := ⟨none, none, none, fun _ => none⟩
theorem Raw.zero {C : Emb} {w : World} {s : Nat} (h : w.heap[s]? = some (.cells (C.cells (.map none) (.map none) (.map none)) C.tt (0, 0))) : Raw C w s 0 noM (fun _ => none) (fun _ => none) (fun _ => []) :=
  ⟨h, .inl ⟨rfl, fun _ => rfl⟩, .inl ⟨rfl, fun _ => rfl⟩, .inl ⟨rfl, fun _ => rfl⟩, fun _ _ => rfl, fun k hk => (hk rfl).elim, (fun _ _ _ _ _ h => by cases h), (fun _ h => by cases h), (fun _ h => by cases h), ⟨fun _ => rfl, fun _ => rfl⟩, fun _ => by simp⟩

end Go.Proofs.YtjefgmeejhakbaaGreatDoor

/- (*Table).Holds, Waits. -/
namespace Go.Proofs.YtjefgmeejhakbaaGreatDoor
open Go.RowKit

variable {C : Emb}

section
variable {w : World} {s N : Nat} {M : LkM} {h wa : Int → Option Int} {ln : Int → List Int}
theorem Raw.lookH (r : Raw C w s N M h wa ln) {k : Int} (hk : I64 k) : (Instr.lookup 69 (.map M.mh) (.int .i64 k) false).run Tryz.prog w = .ok (.int .i64 ((h k).getD 0)) w := by
  have := r.mh.look1 Tryz.underlying69 (zeroI w) hk
  rwa [getD_int] at this
theorem Raw.lookH2 (r : Raw C w s N M h wa ln) {k : Int} (hk : I64 k) : (Instr.lookup 69 (.map M.mh) (.int .i64 k) true).run Tryz.prog w = .ok (.tuple #[.int .i64 ((h k).getD 0), .bool (h k).isSome]) w := by
  have := r.mh.look Tryz.underlying69 (zeroI w) hk
  rwa [getD_int, Option.isSome_map] at this
theorem Raw.lookW (r : Raw C w s N M h wa ln) {x : Int} (hx : I64 x) : (Instr.lookup 69 (.map M.mw) (.int .i64 x) true).run Tryz.prog w = .ok (.tuple #[.int .i64 ((wa x).getD 0), .bool (wa x).isSome]) w := by
  have := r.mw.look Tryz.underlying69 (zeroI w) hx
  rwa [getD_int, Option.isSome_map] at this
theorem Raw.lookL (r : Raw C w s N M h wa ln) {k : Int} (hk : I64 k) : (Instr.lookup 157 (.map M.ml) (.int .i64 k) false).run Tryz.prog w = .ok ((M.lv k).getD (.slice none 0 0)) w :=
  r.ml.look1 Tryz.underlying157 (zeroL w) hk
end

set_option maxHeartbeats 1000000 in
theorem holds_any (s N : Nat) (M : LkM) (h wa : Int → Option Int) (ln : Int → List Int) (k : Int) (w : World) (r : Raw C w s N M h wa ln) (hk : I64 k) :
    Calls Tryz.prog 98 #[.pointer (some ⟨s, C.o, none⟩), .int .i64 k] w fun e w' => e = .returned (.int .i64 ((h k).getD 0)) ∧ w' = w := by
  have c0 := r.c0
  have hl := r.lookH hk
  clear r
  go_enter Tryz.func98, Tryz.ntmps98
  go_wp2
  go_ret
  exact ⟨rfl, rfl⟩

set_option maxHeartbeats 1000000 in
theorem waits_any (s N : Nat) (M : LkM) (h wa : Int → Option Int) (ln : Int → List Int) (x : Int) (w : World) (r : Raw C w s N M h wa ln) (hx : I64 x) :
    Calls Tryz.prog 99 #[.pointer (some ⟨s, C.o, none⟩), .int .i64 x] w fun e w' => e = .returned (.int .i64 ((wa x).getD (-1))) ∧ w' = w := by
  have c0 := r.c1
  have hl := r.lookW hx
  clear r
  cases hw : wa x with
  | none =>
    rw [hw] at hl
    simp only [Option.getD_none, Option.isSome_none] at hl
    clear hw
    go_enter Tryz.func99, Tryz.ntmps99
    go_wp2
    go_ret
    exact ⟨rfl, rfl⟩
  | some y =>
    rw [hw] at hl
    simp only [Option.getD_some, Option.isSome_some] at hl
    clear hw
    go_enter Tryz.func99, Tryz.ntmps99
    go_wp2
    go_ret
    exact ⟨rfl, rfl⟩

end Go.Proofs.YtjefgmeejhakbaaGreatDoor

/- (*Table).hold. -/
namespace Go.Proofs.YtjefgmeejhakbaaGreatDoor
open Go.RowKit

variable {C : Emb}

section
variable {w w1 : World} {s N : Nat} {M : LkM} {h wa : Int → Option Int} {ln : Int → List Int}
/-- The map of holders has turned. -/
theorem Raw.turnH (r : Raw C w s N M h wa ln) {b N' : Nat} {h' : Int → Option Int} (hb : M.mh = some b) (hN : N ≤ N') (hI : IMap w1 b N' (fun k => (h' k).map (Value.int .i64))) (hg : w.grownBy w1 (some b)) :
    Raw C w1 s N' M h' wa ln ∧ KeptO (M.own s) (M.own s) w w1 := by
  have hk : ∀ i, i < w.heap.size → i ≠ b → w1.heap[i]? = w.heap[i]? := fun i hi hne => hg.block i hi (fun e => hne (by cases e; rfl))
  have hsb : s ≠ b := fun e => r.map_ne.1 (by rw [hb, e])
  refine ⟨⟨(hk s r.lt hsb).trans r.blk, .inr ⟨b, hb, hI⟩, (r.mw.same (fun b' e => hk b' (r.mw.lt e) (fun e2 => ?_))).mono hN, (r.ml.same (fun b' e => hk b' (r.ml.lt e) (fun e2 => ?_))).mono hN, r.ln0, fun k hkn => ?_, r.ap, r.d1, r.d2, r.both, fun k => Nat.le_trans (r.len k) hN⟩, ?_⟩
  · subst e2; exact (r.d1 _ hb).1 e
  · subst e2; exact (r.d1 _ hb).2 e
  · obtain ⟨v, hv, ho⟩ := r.ln1 k hkn
    refine ⟨v, hv, owns_same ho (fun g hgv => hk g ?_ ?_)⟩
    · obtain ⟨cur, hc⟩ := r.rowIs hv hgv
      exact (Array.getElem?_eq_some_iff.1 hc).1
    · rintro rfl; exact (r.row_ne hv hgv).2.1 hb
  · exact ⟨hg.os, hg.tape, hg.output, hg.size, fun i hi hn => hk i hi (fun e => hn (by subst e; exact .inr (.inl hb))), fun g hg => .inl hg⟩
/-- A new map of holders. -/
theorem Raw.newH (r : Raw C w s N M h wa ln) (hm : M.mh = none) :
    Raw C ((w.setCell ⟨s, C.o, none⟩ (.map (some w.heap.size))).alloc (.map #[] 0)) s N { M with mh := some w.heap.size } h wa ln ∧
      KeptO (M.own s) (({ M with mh := some w.heap.size } : LkM).own s) w ((w.setCell ⟨s, C.o, none⟩ (.map (some w.heap.size))).alloc (.map #[] 0)) := by
  have hsz : (w.setCell ⟨s, C.o, none⟩ (.map (some w.heap.size))).heap.size = w.heap.size := by simp
  have hk : ∀ i, i < w.heap.size → i ≠ s → ((w.setCell ⟨s, C.o, none⟩ (.map (some w.heap.size))).alloc (.map #[] 0)).heap[i]? = w.heap[i]? := fun i hi hne =>
    (Below.heap_alloc _ _ i (by simpa using hi)).trans (heap_setCell_other w ⟨s, C.o, none⟩ i _ hne)
  have hh : ∀ k, h k = none := by
    rcases r.mh with ⟨_, e⟩ | ⟨b, e, _⟩
    · intro k; have := e k; simpa using this
    · rw [hm] at e; cases e
  refine ⟨⟨?_, .inr ⟨w.heap.size, rfl, ?_⟩, r.mw.same (fun b e => hk b (r.mw.lt e) (fun e2 => r.map_ne.2.1 (by rw [e, e2]))), r.ml.same (fun b e => hk b (r.ml.lt e) (fun e2 => r.map_ne.2.2 (by rw [e, e2]))), r.ln0, fun k hkn => ?_, r.ap, ?_, r.d2, r.both, r.len⟩, ?_⟩
  · refine (Below.heap_alloc _ _ s (by simpa using r.lt)).trans ((heap_setCell_same w s C.o _ C.tt _ r.blk).trans ?_)
    rw [C.set0]
  · have := IMap.made (w.setCell ⟨s, C.o, none⟩ (.map (some w.heap.size)))
    rw [hsz] at this
    have e : (fun k => (h k).map (Value.int .i64)) = fun _ => none := by funext k; rw [hh k]; rfl
    rw [e]
    exact this.mono (Nat.zero_le _)
  · obtain ⟨v, hv, ho⟩ := r.ln1 k hkn
    refine ⟨v, hv, owns_same ho (fun g hgv => hk g ?_ (r.row_ne hv hgv).1)⟩
    obtain ⟨cur, hc⟩ := r.rowIs hv hgv
    exact (Array.getElem?_eq_some_iff.1 hc).1
  · intro b e
    cases e
    exact ⟨fun e => by have := r.mw.lt e; omega, fun e => by have := r.ml.lt e; omega⟩
  · refine ⟨rfl, rfl, rfl, by simp, fun i hi hn => hk i hi (fun e => hn (.inl e)), fun g hg => ?_⟩
    rcases hg with e | e | e | e | e
    · exact .inl (.inl e)
    · cases e; exact .inr (Nat.le_refl _)
    · exact .inl (.inr (.inr (.inl e)))
    · exact .inl (.inr (.inr (.inr (.inl e))))
    · exact .inl (.inr (.inr (.inr (.inr e))))
end

set_option maxRecDepth 100000 in
set_option maxHeartbeats 1000000 in
theorem hold_any (s N : Nat) (M : LkM) (h wa : Int → Option Int) (ln : Int → List Int) (tx k : Int) (w : World) (r : Raw C w s N M h wa ln) (hk : I64 k) (hN : N ≤ 1000000) :
    Calls Tryz.prog 163 #[.pointer (some ⟨s, C.o, none⟩), .int .i64 tx, .int .i64 k] w fun e w' => e = .returned (.tuple #[]) ∧ ∃ M', Raw C w' s (N + 1) M' (updT h k (some tx)) wa ln ∧ KeptO (M.own s) (M'.own s) w w' := by
  cases hm : M.mh with
  | some b =>
    have c0 := r.c0
    have he := eqlSome
    obtain ⟨w1, hrun, hI, hg⟩ : ∃ w', _ := (MapIs.at (show MapIs w (some b) N _ from hm ▸ r.mh)).store Tryz.underlying69 (by unfold maxLen; omega) hk (.int .i64 tx)
    rw [hm] at c0
    have hF := hid (r.turnH (h' := updT h k (some tx)) hm (Nat.le_succ N) (by rw [updT_map]; exact hI) hg)
    clear r hI hg hm
    go_enter Tryz.func163, Tryz.ntmps163
    go_wp2
    refine bodyPost_end (results_none rfl _ _ _) rfl ?_
    exact ⟨rfl, M, hF.out⟩
  | none =>
    have c0 := r.c0
    have he := eqlNil
    have f0 := r.free C.o
    have hs := r.lt
    rw [hm] at c0
    obtain ⟨r1, k1⟩ := r.newH hm
    obtain ⟨w1, hrun, hI, hg⟩ : ∃ w', _ := (MapIs.at (show MapIs _ (some w.heap.size) N _ from r1.mh)).store Tryz.underlying69 (by unfold maxLen; omega) hk (.int .i64 tx)
    have hF := hid (r1.turnH (h' := updT h k (some tx)) rfl (Nat.le_succ N) (by rw [updT_map]; exact hI) hg)
    have hK := hid k1
    have hmm := @run_makeMap Tryz.prog
    clear r r1 hI hg k1 hm
    go_enter Tryz.func163, Tryz.ntmps163
    go_wp2
    refine bodyPost_end (results_none rfl _ _ _) rfl ?_
    exact ⟨rfl, _, hF.out.1, hK.out.trans hF.out.2⟩

end Go.Proofs.YtjefgmeejhakbaaGreatDoor

/- (*Table).waitsFor, Line. -/
namespace Go.Proofs.YtjefgmeejhakbaaGreatDoor
open Go.RowKit

variable {C : Emb}

/-- Memory and the table as lists agree. -/
structure Rep (T : Tab) (h wa : Int → Option Int) (ln : Int → List Int) : Prop where
  h : ∀ k, h k = (T k).head?
  wa : ∀ x, (wa x).getD (-1) = waitsP T x ∧ (wa x = none ↔ waitsP T x = -1)
  ln : ∀ k, ln k = (T k).tail
theorem Rep.holds {T : Tab} {h wa : Int → Option Int} {ln : Int → List Int} (r : Rep T h wa ln) (k : Int) : (h k).getD 0 = holdsP T k := by
  rw [r.h k, holdsP]
  cases T k <;> rfl
theorem Rep.waits {T : Tab} {h wa : Int → Option Int} {ln : Int → List Int} (r : Rep T h wa ln) (x : Int) : (wa x).getD (-1) = waitsP T x := (r.wa x).1
theorem waits_i64 (T : Tab) (x : Int) : I64 (waitsP T x) := by
  rcases waits_cases T x with e | ⟨h1, h2⟩
  · rw [e]; unfold I64; omega
  · unfold I64; omega
theorem holds_i64 {T : Tab} (h : Tidy0 T) (k : Int) : I64 (holdsP T k) := by
  by_cases e : T k = []
  · rw [(holds_zero h).2 e]; unfold I64; omega
  · have := h.pos k _ (head_mem e); unfold I64 holdsP; omega

section
variable {T : Tab} {h wa : Int → Option Int} {ln : Int → List Int}
theorem waitsR (s N : Nat) (M : LkM) (R : Rep T h wa ln) (x : Int) (w : World) (r : Raw C w s N M h wa ln) (hx : I64 x) :
    Calls Tryz.prog 99 #[.pointer (some ⟨s, C.o, none⟩), .int .i64 x] w fun e w' => e = .returned (.int .i64 (waitsP T x)) ∧ w' = w := by
  have := waits_any s N M h wa ln x w r hx
  rwa [R.waits] at this
theorem holdsR (s N : Nat) (M : LkM) (R : Rep T h wa ln) (k : Int) (w : World) (r : Raw C w s N M h wa ln) (hk : I64 k) :
    Calls Tryz.prog 98 #[.pointer (some ⟨s, C.o, none⟩), .int .i64 k] w fun e w' => e = .returned (.int .i64 (holdsP T k)) ∧ w' = w := by
  have := holds_any s N M h wa ln k w r hk
  rwa [R.holds] at this
end

set_option maxRecDepth 100000 in
set_option maxHeartbeats 2000000 in
theorem waitsFor_any (s N : Nat) (M : LkM) (h wa : Int → Option Int) (ln : Int → List Int) (T : Tab) (q : Int → Nat) (x tx : Int) (w : World) (r : Raw C w s N M h wa ln) (R : Rep T h wa ln) (ht : Tidy0 T) (hq : Ranked T q) (hx : I64 x) (hne : x ≠ tx) :
    Calls Tryz.prog 164 #[.pointer (some ⟨s, C.o, none⟩), .int .i64 x, .int .i64 tx] w fun e w' => e = .returned (.bool (reachP T tx (q x + 1) x)) ∧ w' = w := by
  obtain ⟨A, hA⟩ : ∃ A, reachP T tx (q x + 1) x = A := ⟨_, rfl⟩
  rw [hA]
  have HR := hid r
  have HQ := hid hq
  have HT := hid ht
  have HP := hid R
  clear r hq ht R
  go_enter Tryz.func164, Tryz.ntmps164
  go_wp2
  go_loop [1] (fun v => ∃ y : Int, v = .int .i64 y ∧ I64 y ∧ ((y = tx ∧ A = true) ∨ (y ≠ tx ∧ ∃ n, q y < n ∧ reachP T tx n y = A))) (fun v => if intOf v = tx then 0 else q (intOf v) + 1)
  case atStart => exact ⟨x, rfl, hx, .inr ⟨hne, q x + 1, by omega, hA⟩⟩
  case round =>
    obtain ⟨y, rfl, hy, hc⟩ := hrel
    rcases hc with ⟨e, rfl⟩ | ⟨hyt, n, hn, hr⟩
    · have e1 : (y != tx) = false := by simp [e]
      clear e hA
      go_wp2
      go_ret
      exact ⟨rfl, rfl⟩
    · have e1 : (y != tx) = true := by simpa using hyt
      obtain ⟨m, rfl⟩ : ∃ m, n = m + 1 := ⟨n - 1, by omega⟩
      rw [reachP] at hr
      by_cases hw : waitsP T y < 0
      · rw [if_pos hw] at hr
        have hw1 : waitsP T y = -1 := by rcases waits_cases T y with e | e <;> omega
        have HW := hid hw1
        subst hr
        clear hA hw hw1
        go_wp2_with (go_at_call 99; refine (waitsR s N M HP.out y _ HR.out hy).mono ?_; rw [HW.out]; rintro e w' ⟨rfl, rfl⟩)
        go_ret
        exact ⟨rfl, rfl⟩
      · rw [if_neg hw] at hr
        have hlt := HQ.out _ _ (mem_of_waits (T := T) (x := y) (by omega))
        obtain ⟨k, hk⟩ : ∃ k, waitsP T y = k := ⟨_, rfl⟩
        have hk64 := waits_i64 T y
        have hz64 := holds_i64 HT.out k
        rw [hk] at hr hw hk64 hlt
        have HW := hid hk
        obtain ⟨z, hz⟩ : ∃ z, holdsP T k = z := ⟨_, rfl⟩
        rw [hz] at hr hlt hz64
        have HZ := hid hz
        have e2 : (k == -1) = false := by simp; omega
        have HRR := hid hr
        have HA := hid hA
        clear hk hz hw hr hA
        go_wp2_with (first
          | (go_at_call 99; refine (waitsR s N M HP.out y _ HR.out hy).mono ?_; rw [HW.out]; rintro e w' ⟨rfl, rfl⟩)
          | (go_at_call 98; refine (holdsR s N M HP.out k _ HR.out hk64).mono ?_; rw [HZ.out]; rintro e w' ⟨rfl, rfl⟩))
        go_round
        case rel =>
          refine ⟨z, rfl, hz64, ?_⟩
          by_cases hzt : z = tx
          · left
            have := HRR.out
            rw [if_pos hzt] at this
            exact ⟨hzt, this.symm⟩
          · right
            have := HRR.out
            rw [if_neg hzt] at this
            exact ⟨hzt, m, by omega, this⟩
        case measure =>
          by_cases hzt : z = tx
          · simp only [intOf, hyt, hzt, if_false, if_true]; omega
          · simp only [intOf, hyt, hzt, if_false]; omega

theorem eqlSl (a : Addr) (n c : Nat) (w : World) : (binOp .eql 29 (.slice (some a) n c) (.slice none 0 0)).run Tryz.prog w = .ok (.bool false) w := by kernel_rfl
theorem eqlSlNil (w : World) : (binOp .eql 29 (.slice none 0 0) (.slice none 0 0)).run Tryz.prog w = .ok (.bool true) w := by kernel_rfl

end Go.Proofs.YtjefgmeejhakbaaGreatDoor

/- How many entries a map has. -/
namespace Go.Proofs.YtjefgmeejhakbaaGreatDoor
open Go.RowKit

theorem IMap.len {w : World} {b n : Nat} {f : Int → Option Value} (h : IMap w b n f) {t e : TypeId} (ht : Tryz.prog.underlying t = some (.map 3 e)) :
    ∃ k : Nat, k ≤ n ∧ (∀ ty, (Builtin.len_ #[t] ty #[.map (some b)]).run Tryz.prog w = .ok (.int .i64 k) w) ∧ (k = 0 ↔ ∀ a, f a = none) := by
  obtain ⟨D, h1, h2⟩ := h
  refine ⟨Maps.size D, h1.size_le, fun ty => h1.len ht ty, ?_⟩
  obtain ⟨es, clock, hb, F, hs, rfl⟩ := h1
  constructor
  · intro h0 a
    have e0 := List.eq_nil_of_length_eq_zero h0
    have h3 := (h2 a).1
    rw [e0] at h3
    cases hf : f a with
    | none => rfl
    | some v => rw [hf] at h3; cases h3
  · intro hn
    rcases Nat.eq_zero_or_pos es.size with e | e
    · have : es = #[] := Array.eq_empty_of_size_eq_zero e
      subst this
      rfl
    · exfalso
      obtain ⟨x, hx⟩ : ∃ x, x ∈ es.toList := ⟨es[0], by simp⟩
      obtain ⟨v, hv⟩ := Maps.fit_keys F _ (List.mem_map.2 ⟨x, hx, rfl⟩)
      obtain ⟨a, _, hk, _⟩ := Maps.keyOf_int_inv Tryz.underlying3 hv
      have h3 := (h2 a).1
      rw [hn a] at h3
      have h4 : Maps.has (DataW.map ((es.toList.map (WideElems.rg Tryz.prog 3 anyElem)).foldr DataW.insert [])) (.int .i64 a) = true := by
        rw [Maps.has_eq, List.any_eq_true]
        refine ⟨_, (WideShapes.sorted_perm _).mem_iff.2 (List.mem_map.2 ⟨x, hx, rfl⟩), ?_⟩
        rw [hk]
        simp [Lit.sameKey]
      rw [h4] at h3
      cases h3
theorem IMap.congr {w : World} {b n : Nat} {f g : Int → Option Value} (h : IMap w b n f) (e : ∀ a, f a = g a) : IMap w b n g := (funext e : f = g) ▸ h

end Go.Proofs.YtjefgmeejhakbaaGreatDoor
