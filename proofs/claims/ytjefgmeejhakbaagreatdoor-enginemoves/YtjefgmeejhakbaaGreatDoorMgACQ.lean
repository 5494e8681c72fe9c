/- Tell EsMem EkHold EkFor: put together for a claim. -/
import Derived.Test.YtjefgmeejhakbaaGreatDoorAsQ
import Derived.WalkSpells
import Derived.Test.YtjefgmeejhakbaaGreatDoorMgAAQ
import Derived.Deep.AppendLies
import Derived.Test.YtjefgmeejhakbaaGreatDoorMgABQ
import Derived.Lib.SliceRun
/- api.Tell. -/
namespace Go.Proofs.YtjefgmeejhakbaaGreatDoor
open Go.RowKit
def Handle (w : World) : Prop := w.cell? ⟨0, 0, none⟩ = some (.iface 263 (.agg #[.pointer (some ⟨1, 33, none⟩)]))
theorem Handle.pos {w : World} (h : Handle w) : 0 < w.heap.size := by
  rcases Nat.eq_zero_or_pos w.heap.size with h0 | h1
  · simp [Handle, World.cell?, h0] at h
  · exact h1
theorem Handle.below {w w' : World} {B : Nat} (h : Handle w) (hB : Below B w w') (hp : 0 < B) : Handle w' := (hB.cell (p := ⟨0, 0, none⟩) hp).trans h
set_option maxHeartbeats 1000000 in
theorem tell_nil (w : World) : Calls Tryz.prog 93 #[.nilIface] w fun e w' => e = .returned (.int .i64 0) ∧ w' = w := by
  go_enter Tryz.func93, Tryz.ntmps93
  go_wp2
  go_ret
  exact ⟨rfl, rfl⟩
set_option maxHeartbeats 1000000 in
theorem tell_errno (n : Int) (w : World) (hg : Handle w) : Calls Tryz.prog 93 #[.iface 24 (.int .i64 n)] w fun e w' => e = .returned (.int .i64 n) ∧ Below w.heap.size w w' := by
  have hp := hg.pos
  have hg1 : (w.alloc (.cells #[.int .i64 0] 24)).cell? ⟨0, 0, none⟩ = some (.iface 263 (.agg #[.pointer (some ⟨1, 33, none⟩)])) := (World.cell?_alloc_lt _ _ ⟨0, 0, none⟩ hp).trans hg
  have HG : Hid _ := hg1
  clear hg hg1
  go_enter Tryz.func93, Tryz.ntmps93
  go_wp2_with (go_at_call 149; refine (as_hit n ⟨w.heap.size, 0, none⟩ (.int .i64 0) _ HG.out (cell_one_new w _ _ 0 _ rfl) (by simp)).mono ?_; rintro e w' ⟨rfl, rfl⟩)
  go_ret
  refine ⟨rfl, ?_⟩
  exact (((((Below.refl _ w).alloc (Nat.le_refl _) _).alloc (by simp) _).alloc (by simp; omega) _).alloc (by simp; omega) _).alloc (by simp; omega) _
end Go.Proofs.YtjefgmeejhakbaaGreatDoor

/- How a store lies in memory: its block, and of each key a row of its own; what a call that turns one store leaves of all others. -/
namespace Go.Proofs.YtjefgmeejhakbaaGreatDoor
open Go.RowKit
theorem vrow_one : ∀ (l : List (Int × Int)), ∀ u ∈ vrow l, u.oneCell' = true
  | [], u, h => by simp [vrow] at h
  | (x, y) :: r, u, h => by
    simp only [vrow, List.mem_cons] at h
    rcases h with rfl | rfl | h
    · rfl
    · rfl
    · exact vrow_one r u h
theorem vrow_drop : ∀ (l : List (Int × Int)) (m : Nat), (vrow l).drop (m * 2) = vrow (l.drop m)
  | l, 0 => by simp
  | [], m + 1 => by simp [vrow]
  | (x, y) :: r, m + 1 => by
    rw [show (m + 1) * 2 = m * 2 + 1 + 1 from by omega]
    simpa [vrow] using vrow_drop r m
theorem vers_of_owns {w : World} {base : Nat} {v : Value} {l : List (Int × Int)} (h : w.ownsRow base 199 2 v l.length (vrow l)) : Vers w.heap.size w v l := by
  rcases h.2 with ⟨hv, hn⟩ | ⟨g, cap, cur, hv, hb, hg, hr⟩
  · exact .inl ⟨hv, List.eq_nil_of_length_eq_zero hn⟩
  · refine .inr ⟨g, cap, hv, (Array.getElem?_eq_some_iff.1 hg).1, fun j a x e => ?_⟩
    have hc := h.cells (g := g) (by rw [hv]; rfl)
    have hx := vrow_get l j a x e
    have h1 := hc (j * 2) _ hx.1
    have h2 := hc (j * 2 + 1) _ hx.2
    rw [addr_add] at h1 h2
    exact ⟨h1, h2⟩
structure Tail where
  post : List Value
  tt : TypeId
def Tail.cells (P : Tail) (last : Int) (vs : List Value) : Array Value := (Value.int .i64 last :: (vs ++ P.post)).toArray
theorem Tail.get0 (P : Tail) (last : Int) (vs : List Value) : (P.cells last vs)[0]? = some (.int .i64 last) := by unfold Tail.cells; simp
theorem Tail.getk (P : Tail) (last : Int) {vs : List Value} {k : Nat} {v : Value} (hv : vs[k]? = some v) : (P.cells last vs)[1 + k]? = some v := by
  unfold Tail.cells
  rw [Nat.add_comm]
  simp only [List.getElem?_toArray, List.getElem?_cons_succ]
  rw [List.getElem?_append_left (List.getElem?_eq_some_iff.1 hv).1, hv]
theorem Tail.set0 (P : Tail) (last t : Int) (vs : List Value) : (P.cells last vs).setIfInBounds 0 (.int .i64 t) = P.cells t vs := by unfold Tail.cells; simp
theorem Tail.setk (P : Tail) (last : Int) {vs : List Value} {k : Nat} (hk : k < vs.length) (v : Value) : (P.cells last vs).setIfInBounds (1 + k) v = P.cells last (vs.set k v) := by
  unfold Tail.cells
  rw [Nat.add_comm]
  simp only [List.setIfInBounds_toArray, List.set_cons_succ]
  rw [List.set_append_left _ _ hk]
variable {P : Tail}
structure Sto (P : Tail) (w : World) (base s : Nat) (last : Int) (vs : List Value) (ks : List (List (Int × Int))) : Prop where
  blk : w.heap[s]? = some (.cells (P.cells last vs) P.tt (0, 0))
  lv : vs.length = 10
  lk : ks.length = 10
  own : ∀ (k : Nat) (v : Value) (l : List (Int × Int)), vs[k]? = some v → ks[k]? = some l → w.ownsRow base 199 2 v l.length (vrow l)
  apart : ∀ (i j : Nat) (v u : Value) (g : Nat), vs[i]? = some v → vs[j]? = some u → v.ownBlock = some g → u.ownBlock = some g → i = j
  sb : s < base
def InRows (vs : List Value) (b : Nat) : Prop := ∃ v ∈ vs, v.ownBlock = some b
structure Kept (s : Nat) (vs vs' : List Value) (w w' : World) : Prop where
  os : w'.os = w.os
  tape : w'.tape = w.tape
  output : w'.output = w.output
  size : w.heap.size ≤ w'.heap.size
  block : ∀ b, b < w.heap.size → b ≠ s → ¬ InRows vs b → w'.heap[b]? = w.heap[b]?
  sub : ∀ g, InRows vs' g → InRows vs g ∨ w.heap.size ≤ g
theorem Kept.trans {s : Nat} {vs vs' vs'' : List Value} {a b c : World} (h : Kept s vs vs' a b) (k : Kept s vs' vs'' b c) : Kept s vs vs'' a c :=
  ⟨k.os.trans h.os, k.tape.trans h.tape, k.output.trans h.output, Nat.le_trans h.size k.size,
    fun i hi hs hn => (k.block i (Nat.lt_of_lt_of_le hi h.size) hs (fun hr => (h.sub i hr).elim hn (fun e => by omega))).trans (h.block i hi hs hn),
    fun g hg => (k.sub g hg).elim (h.sub g) (fun e => .inr (Nat.le_trans h.size e))⟩
theorem Kept.refl (s : Nat) (vs : List Value) (w : World) : Kept s vs vs w w := ⟨rfl, rfl, rfl, Nat.le_refl _, fun _ _ _ _ => rfl, fun _ h => .inl h⟩
theorem Kept.of_below {s : Nat} {vs : List Value} {w w' : World} (h : Below w.heap.size w w') : Kept s vs vs w w' :=
  ⟨h.os, h.tape, h.output, h.size, fun b hb _ _ => h.block b hb, fun _ h => .inl h⟩
theorem Sto.lt {w : World} {base s : Nat} {last : Int} {vs : List Value} {ks : List (List (Int × Int))} (h : Sto P w base s last vs ks) : s < w.heap.size := (Array.getElem?_eq_some_iff.1 h.blk).1
theorem Sto.row {w : World} {base s : Nat} {last : Int} {vs : List Value} {ks : List (List (Int × Int))} (h : Sto P w base s last vs ks) {g : Nat} (hg : InRows vs g) : base ≤ g ∧ g < w.heap.size := by
  obtain ⟨v, hv, hg⟩ := hg
  obtain ⟨k, hk, rfl⟩ := List.mem_iff_getElem.1 hv
  have hl : k < ks.length := by have := h.lv; have := h.lk; omega
  exact (h.own k _ ks[k] (List.getElem?_eq_getElem hk) (List.getElem?_eq_getElem hl)).lt g hg
theorem Sto.kept {w w' : World} {base s : Nat} {last : Int} {vs : List Value} {ks : List (List (Int × Int))} (h : Sto P w base s last vs ks)
    (hs : w'.heap[s]? = w.heap[s]?) (hr : ∀ g, InRows vs g → w'.heap[g]? = w.heap[g]?) : Sto P w' base s last vs ks :=
  ⟨hs.trans h.blk, h.lv, h.lk, fun k v l hv hl => by
    have ho := h.own k v l hv hl
    refine ⟨ho.1, ?_⟩
    rcases ho.2 with hn | ⟨g, cap, cur, e, hb, hg, r⟩
    · exact .inl hn
    · exact .inr ⟨g, cap, cur, e, hb, (hr g ⟨v, List.mem_of_getElem? hv, by rw [e]; rfl⟩).trans hg, r⟩, h.apart, h.sb⟩
theorem Sto.below {w w' : World} {base s : Nat} {last : Int} {vs : List Value} {ks : List (List (Int × Int))} (h : Sto P w base s last vs ks) (hB : Below w.heap.size w w') : Sto P w' base s last vs ks :=
  h.kept (hB.block s h.lt) (fun g hg => hB.block g (h.row hg).2)
theorem Sto.cell {w : World} {base s : Nat} {last : Int} {vs : List Value} {ks : List (List (Int × Int))} (h : Sto P w base s last vs ks) {k : Nat} {v : Value} (hv : vs[k]? = some v) : w.cell? ⟨s, 1 + k, none⟩ = some v := (cell_of_row w s (1 + k) _ P.tt (0, 0) h.blk).trans (P.getk last hv)
theorem Sto.cellLast {w : World} {base s : Nat} {last : Int} {vs : List Value} {ks : List (List (Int × Int))} (h : Sto P w base s last vs ks) : w.cell? ⟨s, 0, none⟩ = some (.int .i64 last) := (cell_of_row w s 0 _ P.tt (0, 0) h.blk).trans (P.get0 last vs)
theorem Sto.free {w : World} {base s : Nat} {last : Int} {vs : List Value} {ks : List (List (Int × Int))} (h : Sto P w base s last vs ks) (o : Nat) : w.frozen? ⟨s, o, none⟩ = false := by
  simp [World.frozen?, h.blk]
end Go.Proofs.YtjefgmeejhakbaaGreatDoor

/- (*Table).hold. -/
namespace Go.Proofs.YtjefgmeejhakbaaGreatDoor
open Go.RowKit
variable {C : Emb}
section
variable {w w1 : World} {s N : Nat} {M : LkM} {h wa : Int → Option Int} {ln : Int → List Int}
theorem Raw.turnH (r : Raw C w s N M h wa ln) {b N' : Nat} {h' : Int → Option Int} (hb : M.mh = some b) (hN : N ≤ N') (hI : IMap w1 b N' (fun k => (h' k).map (Value.int .i64))) (hg : w.grownBy w1 (some b)) :
    Raw C w1 s N' M h' wa ln ∧ KeptO (M.own s) (M.own s) w w1 := by
  have hk : ∀ i, i < w.heap.size → i ≠ b → w1.heap[i]? = w.heap[i]? := fun i hi hne => hg.block i hi (fun e => hne (by cases e; rfl))
  have hsb : s ≠ b := fun e => r.map_ne.1 (by rw [hb, e])
  refine ⟨⟨(hk s r.lt hsb).trans r.blk, .inr ⟨b, hb, hI⟩, (r.mw.same (fun b' e => hk b' (r.mw.lt e) (fun e2 => ?_))).mono hN, (r.ml.same (fun b' e => hk b' (r.ml.lt e) (fun e2 => ?_))).mono hN, r.ln0, fun k hkn => ?_, r.ap, r.d1, r.d2, r.both, fun k => Nat.le_trans (r.len k) hN⟩, ?_⟩
  · subst e2; exact (r.d1 _ hb).1 e
  · subst e2; exact (r.d1 _ hb).2 e
  · obtain ⟨v, hv, ho⟩ := r.ln1 k hkn
    refine ⟨v, hv, owns_same ho (fun g hgv => hk g ?_ ?_)⟩
    · obtain ⟨cur, hc⟩ := r.rowIs hv hgv
      exact (Array.getElem?_eq_some_iff.1 hc).1
    · rintro rfl; exact (r.row_ne hv hgv).2.1 hb
  · exact ⟨hg.os, hg.tape, hg.output, hg.size, fun i hi hn => hk i hi (fun e => hn (by subst e; exact .inr (.inl hb))), fun g hg => .inl hg⟩
theorem Raw.newH (r : Raw C w s N M h wa ln) (hm : M.mh = none) :
    Raw C ((w.setCell ⟨s, C.o, none⟩ (.map (some w.heap.size))).alloc (.map #[] 0)) s N { M with mh := some w.heap.size } h wa ln ∧
      KeptO (M.own s) (({ M with mh := some w.heap.size } : LkM).own s) w ((w.setCell ⟨s, C.o, none⟩ (.map (some w.heap.size))).alloc (.map #[] 0)) := by
  have hsz : (w.setCell ⟨s, C.o, none⟩ (.map (some w.heap.size))).heap.size = w.heap.size := by simp
  have hk : ∀ i, i < w.heap.size → i ≠ s → ((w.setCell ⟨s, C.o, none⟩ (.map (some w.heap.size))).alloc (.map #[] 0)).heap[i]? = w.heap[i]? := fun i hi hne =>
    (Below.heap_alloc _ _ i (by simpa using hi)).trans (heap_setCell_other w ⟨s, C.o, none⟩ i _ hne)
  have hh : ∀ k, h k = none := by
    rcases r.mh with ⟨_, e⟩ | ⟨b, e, _⟩
    · intro k; have := e k; simpa using this
    · rw [hm] at e; cases e
  refine ⟨⟨?_, .inr ⟨w.heap.size, rfl, ?_⟩, r.mw.same (fun b e => hk b (r.mw.lt e) (fun e2 => r.map_ne.2.1 (by rw [e, e2]))), r.ml.same (fun b e => hk b (r.ml.lt e) (fun e2 => r.map_ne.2.2 (by rw [e, e2]))), r.ln0, fun k hkn => ?_, r.ap, ?_, r.d2, r.both, r.len⟩, ?_⟩
  · refine (Below.heap_alloc _ _ s (by simpa using r.lt)).trans ((heap_setCell_same w s C.o _ C.tt _ r.blk).trans ?_)
    rw [C.set0]
  · have := IMap.made (w.setCell ⟨s, C.o, none⟩ (.map (some w.heap.size)))
    rw [hsz] at this
    have e : (fun k => (h k).map (Value.int .i64)) = fun _ => none := by funext k; rw [hh k]; rfl
    rw [e]
    exact this.mono (Nat.zero_le _)
  · obtain ⟨v, hv, ho⟩ := r.ln1 k hkn
    refine ⟨v, hv, owns_same ho (fun g hgv => hk g ?_ (r.row_ne hv hgv).1)⟩
    obtain ⟨cur, hc⟩ := r.rowIs hv hgv
    exact (Array.getElem?_eq_some_iff.1 hc).1
  · intro b e
    cases e
    exact ⟨fun e => by have := r.mw.lt e; omega, fun e => by have := r.ml.lt e; omega⟩
  · refine ⟨rfl, rfl, rfl, by simp, fun i hi hn => hk i hi (fun e => hn (.inl e)), fun g hg => ?_⟩
    rcases hg with e | e | e | e | e
    · exact .inl (.inl e)
    · cases e; exact .inr (Nat.le_refl _)
    · exact .inl (.inr (.inr (.inl e)))
    · exact .inl (.inr (.inr (.inr (.inl e))))
    · exact .inl (.inr (.inr (.inr (.inr e))))
end
set_option maxRecDepth 100000 in
set_option maxHeartbeats 1000000 in
theorem hold_any (s N : Nat) (M : LkM) (h wa : Int → Option Int) (ln : Int → List Int) (tx k : Int) (w : World) (r : Raw C w s N M h wa ln) (hk : I64 k) (hN : N ≤ 1000000) :
    Calls Tryz.prog 163 #[.pointer (some ⟨s, C.o, none⟩), .int .i64 tx, .int .i64 k] w fun e w' => e = .returned (.tuple #[]) ∧ ∃ M', Raw C w' s (N + 1) M' (updT h k (some tx)) wa ln ∧ KeptO (M.own s) (M'.own s) w w' := by
  cases hm : M.mh with
  | some b =>
    have c0 := r.c0
    have he := eqlSome
    obtain ⟨w1, hrun, hI, hg⟩ : ∃ w', _ := (MapIs.at (show MapIs w (some b) N _ from hm ▸ r.mh)).store Tryz.underlying69 (by unfold maxLen; omega) hk (.int .i64 tx)
    rw [hm] at c0
    have hF := hid (r.turnH (h' := updT h k (some tx)) hm (Nat.le_succ N) (by rw [updT_map]; exact hI) hg)
    clear r hI hg hm
    go_enter Tryz.func163, Tryz.ntmps163
    go_wp2
    refine bodyPost_end (results_none rfl _ _ _) rfl ?_
    exact ⟨rfl, M, hF.out⟩
  | none =>
    have c0 := r.c0
    have he := eqlNil
    have f0 := r.free C.o
    have hs := r.lt
    rw [hm] at c0
    obtain ⟨r1, k1⟩ := r.newH hm
    obtain ⟨w1, hrun, hI, hg⟩ : ∃ w', _ := (MapIs.at (show MapIs _ (some w.heap.size) N _ from r1.mh)).store Tryz.underlying69 (by unfold maxLen; omega) hk (.int .i64 tx)
    have hF := hid (r1.turnH (h' := updT h k (some tx)) rfl (Nat.le_succ N) (by rw [updT_map]; exact hI) hg)
    have hK := hid k1
    have hmm := @run_makeMap Tryz.prog
    clear r r1 hI hg k1 hm
    go_enter Tryz.func163, Tryz.ntmps163
    go_wp2
    refine bodyPost_end (results_none rfl _ _ _) rfl ?_
    exact ⟨rfl, _, hF.out.1, hK.out.trans hF.out.2⟩
end Go.Proofs.YtjefgmeejhakbaaGreatDoor

/- (*Table).waitsFor, Line. -/
namespace Go.Proofs.YtjefgmeejhakbaaGreatDoor
open Go.RowKit
variable {C : Emb}
structure Rep (T : Tab) (h wa : Int → Option Int) (ln : Int → List Int) : Prop where
  h : ∀ k, h k = (T k).head?
  wa : ∀ x, (wa x).getD (-1) = waitsP T x ∧ (wa x = none ↔ waitsP T x = -1)
  ln : ∀ k, ln k = (T k).tail
theorem Rep.holds {T : Tab} {h wa : Int → Option Int} {ln : Int → List Int} (r : Rep T h wa ln) (k : Int) : (h k).getD 0 = holdsP T k := by
  rw [r.h k, holdsP]
  cases T k <;> rfl
theorem Rep.waits {T : Tab} {h wa : Int → Option Int} {ln : Int → List Int} (r : Rep T h wa ln) (x : Int) : (wa x).getD (-1) = waitsP T x := (r.wa x).1
theorem waits_i64 (T : Tab) (x : Int) : I64 (waitsP T x) := by
  rcases waits_cases T x with e | ⟨h1, h2⟩
  · rw [e]; unfold I64; omega
  · unfold I64; omega
theorem holds_i64 {T : Tab} (h : Tidy0 T) (k : Int) : I64 (holdsP T k) := by
  by_cases e : T k = []
  · rw [(holds_zero h).2 e]; unfold I64; omega
  · have := h.pos k _ (head_mem e); unfold I64 holdsP; omega
section
variable {T : Tab} {h wa : Int → Option Int} {ln : Int → List Int}
theorem waitsR (s N : Nat) (M : LkM) (R : Rep T h wa ln) (x : Int) (w : World) (r : Raw C w s N M h wa ln) (hx : I64 x) :
    Calls Tryz.prog 99 #[.pointer (some ⟨s, C.o, none⟩), .int .i64 x] w fun e w' => e = .returned (.int .i64 (waitsP T x)) ∧ w' = w := by
  have := waits_any s N M h wa ln x w r hx
  rwa [R.waits] at this
theorem holdsR (s N : Nat) (M : LkM) (R : Rep T h wa ln) (k : Int) (w : World) (r : Raw C w s N M h wa ln) (hk : I64 k) :
    Calls Tryz.prog 98 #[.pointer (some ⟨s, C.o, none⟩), .int .i64 k] w fun e w' => e = .returned (.int .i64 (holdsP T k)) ∧ w' = w := by
  have := holds_any s N M h wa ln k w r hk
  rwa [R.holds] at this
end
set_option maxRecDepth 100000 in
set_option maxHeartbeats 2000000 in
theorem waitsFor_any (s N : Nat) (M : LkM) (h wa : Int → Option Int) (ln : Int → List Int) (T : Tab) (q : Int → Nat) (x tx : Int) (w : World) (r : Raw C w s N M h wa ln) (R : Rep T h wa ln) (ht : Tidy0 T) (hq : Ranked T q) (hx : I64 x) (hne : x ≠ tx) :
    Calls Tryz.prog 164 #[.pointer (some ⟨s, C.o, none⟩), .int .i64 x, .int .i64 tx] w fun e w' => e = .returned (.bool (reachP T tx (q x + 1) x)) ∧ w' = w := by
  obtain ⟨A, hA⟩ : ∃ A, reachP T tx (q x + 1) x = A := ⟨_, rfl⟩
  rw [hA]
  have HR := hid r
  have HQ := hid hq
  have HT := hid ht
  have HP := hid R
  clear r hq ht R
  go_enter Tryz.func164, Tryz.ntmps164
  go_wp2
  go_loop [1] (fun v => ∃ y : Int, v = .int .i64 y ∧ I64 y ∧ ((y = tx ∧ A = true) ∨ (y ≠ tx ∧ ∃ n, q y < n ∧ reachP T tx n y = A))) (fun v => if intOf v = tx then 0 else q (intOf v) + 1)
  case atStart => exact ⟨x, rfl, hx, .inr ⟨hne, q x + 1, by omega, hA⟩⟩
  case round =>
    obtain ⟨y, rfl, hy, hc⟩ := hrel
    rcases hc with ⟨e, rfl⟩ | ⟨hyt, n, hn, hr⟩
    · have e1 : (y != tx) = false := by simp [e]
      clear e hA
      go_wp2
      go_ret
      exact ⟨rfl, rfl⟩
    · have e1 : (y != tx) = true := by simpa using hyt
      obtain ⟨m, rfl⟩ : ∃ m, n = m + 1 := ⟨n - 1, by omega⟩
      rw [reachP] at hr
      by_cases hw : waitsP T y < 0
      · rw [if_pos hw] at hr
        have hw1 : waitsP T y = -1 := by rcases waits_cases T y with e | e <;> omega
        have HW := hid hw1
        subst hr
        clear hA hw hw1
        go_wp2_with (go_at_call 99; refine (waitsR s N M HP.out y _ HR.out hy).mono ?_; rw [HW.out]; rintro e w' ⟨rfl, rfl⟩)
        go_ret
        exact ⟨rfl, rfl⟩
      · rw [if_neg hw] at hr
        have hlt := HQ.out _ _ (mem_of_waits (T := T) (x := y) (by omega))
        obtain ⟨k, hk⟩ : ∃ k, waitsP T y = k := ⟨_, rfl⟩
        have hk64 := waits_i64 T y
        have hz64 := holds_i64 HT.out k
        rw [hk] at hr hw hk64 hlt
        have HW := hid hk
        obtain ⟨z, hz⟩ : ∃ z, holdsP T k = z := ⟨_, rfl⟩
        rw [hz] at hr hlt hz64
        have HZ := hid hz
        have e2 : (k == -1) = false := by simp; omega
        have HRR := hid hr
        have HA := hid hA
        clear hk hz hw hr hA
        go_wp2_with (first
          | (go_at_call 99; refine (waitsR s N M HP.out y _ HR.out hy).mono ?_; rw [HW.out]; rintro e w' ⟨rfl, rfl⟩)
          | (go_at_call 98; refine (holdsR s N M HP.out k _ HR.out hk64).mono ?_; rw [HZ.out]; rintro e w' ⟨rfl, rfl⟩))
        go_round
        case rel =>
          refine ⟨z, rfl, hz64, ?_⟩
          by_cases hzt : z = tx
          · left
            have := HRR.out
            rw [if_pos hzt] at this
            exact ⟨hzt, this.symm⟩
          · right
            have := HRR.out
            rw [if_neg hzt] at this
            exact ⟨hzt, m, by omega, this⟩
        case measure =>
          by_cases hzt : z = tx
          · simp only [intOf, hyt, hzt, if_false, if_true]; omega
          · simp only [intOf, hyt, hzt, if_false]; omega
end Go.Proofs.YtjefgmeejhakbaaGreatDoor
