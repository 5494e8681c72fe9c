/- Latest EsMem EkDel EkLeave: put together for a claim. -/
import Derived.Test.YtjefgmeejhakbaaGreatDoorBack
import Derived.Test.YtjefgmeejhakbaaGreatDoorMgAA
import Derived.Deep.AppendLies
import Derived.Test.YtjefgmeejhakbaaGreatDoorMgAI
import Derived.Test.YtjefgmeejhakbaaGreatDoorEkWait
/- store.latest: where the latest version that is not later than a time stands; -1: there is none. -/
namespace Go.Proofs.YtjefgmeejhakbaaGreatDoor
open Go.RowKit Go.Shelf

attribute [local go_sem] Oper.semAt_some

/-- The latest one of the first m that is not later than t; -1: there is none. -/
def latN (l : List (Int × Int)) (t : Int) : Nat → Int
  | 0 => -1
  | m + 1 => if (l[m]?.getD (0, 0)).1 ≤ t then (m : Int) else latN l t m
def lat (l : List (Int × Int)) (t : Int) : Int := latN l t l.length

/-- None of those that have come may be read as of t. -/
def NoneYet (t : Int) (pre : List (Nat × (Int × Int))) : Prop := ∀ p ∈ pre, t < p.2.1
theorem NoneYet.snoc {t : Int} {pre : List (Nat × (Int × Int))} (h : NoneYet t pre) {i : Nat} {x1 x2 : Int} (hx : t < x1) : NoneYet t (pre ++ [(i, x1, x2)]) := by
  intro p hp
  rcases List.mem_append.1 hp with hp | hp
  · exact h p hp
  · simp at hp; subst hp; exact hx

/-- None of those that have come may be read: then it is among the others. -/
theorem lat_came (l : List (Int × Int)) (t : Int) (m : Nat) (hm : m ≤ l.length) (h : NoneYet t (came l m)) : lat l t = latN l t m := by
  unfold lat
  obtain ⟨d, hd⟩ : ∃ d, l.length = m + d := ⟨l.length - m, by omega⟩
  have key : ∀ d, m + d ≤ l.length → latN l t (m + d) = latN l t m := by
    intro d
    induction d with
    | zero => intro _; rfl
    | succ d ih =>
      intro hle
      rw [show m + (d + 1) = (m + d) + 1 from by omega, latN, if_neg, ih (by omega)]
      have := h (m + d, l[m + d]?.getD (0, 0)) (by
        simp only [came, List.mem_reverse, List.mem_drop_iff_getElem]
        exact ⟨d, by simp; omega, by simp⟩)
      simp only at this
      omega
  rw [hd]
  exact key d (by omega)

set_option maxRecDepth 100000 in
set_option maxHeartbeats 2000000 in
theorem latest_in (F : Fence) (n : Nat) (h29 : F.fn 152) (h34 : F.fn 206) (h40 : F.fn 237) (hro : F.round = none) (hn : 3 ≤ n) (a : Option Addr) (len cap : Nat) (t : Int) (zs : List (Int × Int)) (hreach : zs.length ≤ 1000000) (w : World) (hI : Vers w.heap.size w (.slice a len cap) zs) :
    CallsIn F n Tryz.prog 152 #[.slice a len cap, .int .i64 t] w fun e W' => e = .returned (.int .i64 (lat zs t)) ∧ Below w.heap.size w W' := by
  have h1 : 1 ≤ n := by omega
  refine callsIn_of_wp_marks Tryz.func152 rfl h29 ?_ hro
  simp only [Tryz.ntmps152, List.size_toArray, List.length_cons, List.length_nil, Nat.reduceAdd, Nat.reduceSub, Array.replicate_succ, Array.replicate_zero, List.push_toArray, List.append_toArray, List.nil_append, List.cons_append]
  gi_wp2_with (gi_at_call 206; refine (back_in F (n - 1) h34 hro _ _ _ _).mono ?_; rintro e w' ⟨rfl, rfl⟩)
  have bT := ((Boxed.new w 3 (.int .i64 t)).alloc (.cells #[.int .i64 0] 3)).alloc (.cells #[.slice a len cap] 153)
  have bR := (Boxed.new (w.alloc (.cells #[.int .i64 t] 3)) 3 (.int .i64 0)).alloc (.cells #[.slice a len cap] 153)
  have bS := Boxed.new ((w.alloc (.cells #[.int .i64 t] 3)).alloc (.cells #[.int .i64 0] 3)) 153 (.slice a len cap)
  simp only [World.size_alloc] at bR bS
  have hB0 : Below w.heap.size w (((w.alloc (.cells #[.int .i64 t] 3)).alloc (.cells #[.int .i64 0] 3)).alloc (.cells #[.slice a len cap] 153)) := (((Below.refl _ w).alloc (Nat.le_refl _) _).alloc (by simp) _).alloc (by simp; omega) _
  have hsz : (((w.alloc (.cells #[.int .i64 t] 3)).alloc (.cells #[.int .i64 0] 3)).alloc (.cells #[.slice a len cap] 153)).heap.size = w.heap.size + 3 := by simp
  obtain ⟨W0, hW0⟩ : ∃ W0, ((w.alloc (.cells #[.int .i64 t] 3)).alloc (.cells #[.int .i64 0] 3)).alloc (.cells #[.slice a len cap] 153) = W0 := ⟨_, rfl⟩
  rw [hW0] at bT bR bS hB0 hsz ⊢
  clear hW0
  have hsz1 : w.heap.size + 3 ≤ W0.heap.size := by omega
  have hsz2 : W0.heap.size ≤ w.heap.size + 3 := by omega
  clear hsz
  have hI0 : Vers W0.heap.size W0 (.slice a len cap) zs := by
    rcases hI.below hB0 with h | ⟨b, cp, e, hb, hc⟩
    · exact .inl h
    · exact .inr ⟨b, cp, e, by omega, hc⟩
  refine wpIn_rangeFunc_ownH hro h1 (gf := 237) (lb := #[.pointer (some ⟨w.heap.size + 1 + 1, 0, none⟩)]) rfl h40 (enters_of Tryz.func237 (by kernel_rfl) rfl)
    (back_stops F (n - 1) h40 hro (by omega) (w.heap.size + 1 + 1) W0.heap.size _ zs hreach W0 (by omega) (Nat.le_refl _) bS.cell hI0) belowK_t (belowK_b (Nat.le_refl _)) (Below.refl _ _) (fun _ => rfl)
    (fun pre W => (NoneYet t pre ∧ Boxed W w.heap.size 3 (.int .i64 t) ∧ Boxed W (w.heap.size + 1) 3 (.int .i64 0)) ∧ Below w.heap.size w W ∧ Below W0.heap.size W0 W)
    (fun c pre W => (c = .ret ∧ ∃ ini last, pre = ini ++ [last] ∧ NoneYet t ini ∧ last.2.1 ≤ t ∧ Boxed W (w.heap.size + 1) 3 (.int .i64 (last.1 : Int))) ∧ Below w.heap.size w W)
    (OwnFrom.and (OwnFrom.and (ownFrom_pure _ _) (OwnFrom.and (Own.from (boxed_own _ _ _) _) (Own.from (boxed_own _ _ _) _))) (OwnFrom.and (ownFrom_below (Nat.le_refl _) (by omega)) (ownFrom_below (Nat.le_refl _) (Nat.le_refl _))))
    (fun c => OwnFrom.and (fun s X Y row hs hg hr => by obtain ⟨hc, ini, last, e1, e2, e3, e4⟩ := hs; exact ⟨hc, ini, last, e1, e2, e3, boxed_own (w.heap.size + 1) 3 (fun (_ : Unit) => Value.int .i64 (last.1 : Int)) () X Y row e4 hg (fun r e => (hr r e).2)⟩) (ownFrom_below (Nat.le_refl _) (by omega)))
    ⟨⟨by simp [NoneYet], bT, bR⟩, hB0, Below.refl _ _⟩
    (fun x a' W => ∃ Bx, w.heap.size + 2 < Bx ∧ W.cell? ⟨Bx, 0, none⟩ = some (.int .i64 x.2.1) ∧ a' = { tmps := #[.slice a len cap, .int .i64 t, undef, .pointer (some ⟨w.heap.size, 0, none⟩), .pointer (some ⟨w.heap.size + 1, 0, none⟩), .int .i64 (x.1 : Int), .pointer (some ⟨Bx, 0, none⟩), .slice a len cap, .func (.func 237) #[] #[.pointer (some ⟨w.heap.size + 1 + 1, 0, none⟩)], .int .i64 (x.1 : Int), .agg #[.int .i64 x.2.1, .int .i64 x.2.2], undef, undef, undef, undef, undef], defers := [] })
    (fun x a' _ X Y row hs hg hr => by obtain ⟨Bx, h1, h2, h3⟩ := hs; exact ⟨Bx, h1, cell_kept h2 hg (fun r e => (hr r e).2), h3⟩)
    ?assign ?body ?done ?stop
  case assign =>
    rintro l pre ⟨i, x1, x2⟩ W K ⟨⟨hp, bT1, bR1⟩, hB1, hB2⟩ hK
    simp only [encV] at *
    gi_wp2
    have hs2 := hB2.size
    exact hK _ _ ((KeepsOthers.alloc _ _).from _) ((Below.refl _ W).alloc hs2 _) ⟨⟨hp, bT1.alloc _, bR1.alloc _⟩, hB1.alloc hB1.size _, hB2.alloc hs2 _⟩
      ⟨W.heap.size, by omega, (cell_of_row _ W.heap.size 0 _ 199 (0, 0) (World.alloc_heap_new W _)).trans rfl, rfl⟩
  case body =>
    rintro l pre ⟨i, x1, x2⟩ a' W hl ⟨r, hr⟩ ⟨⟨hp, bT1, bR1⟩, hB1, hB2⟩ ⟨Bx, hBx, cX, rfl⟩ hlt
    have cT := bT1.cell
    have cR := bR1.cell
    have fR := bR1.frozen
    simp only at cX
    by_cases hx : x1 ≤ t
    · gi_wp2
      exact ⟨(KeepsOthers.setCell _ _ _).from _, ⟨rfl, pre, (i, x1, x2), rfl, hp, hx, bR1.set _⟩, hB1.setCell (p := ⟨w.heap.size + 1, 0, none⟩) (by simp) _⟩
    · gi_wp2
      exact ⟨KeepsFrom.refl _ _, Below.refl _ _, ⟨hp.snoc hx, bT1, bR1⟩, hB1, hB2⟩
  case done =>
    rintro D ys W hD rfl ⟨⟨hne, bT1, bR1⟩, hB1, hB2⟩ hK
    have cR := bR1.cell
    have fR := bR1.frozen
    gi_wp2
    have hK' := (KeepsOthers.setCell W ⟨w.heap.size + 1, 0, none⟩ (.int .i64 (-1))).same D _ hK rfl
    refine ⟨by simp, .inl ⟨_, _, rfl, run_takeDeferred hK', ?_⟩⟩
    have hc5 := cell_kept (bR1.set (.int .i64 (-1))).cell (grownBy_putObj' _ D (.deferred none)) (fun r e => by cases e; exact ⟨_, hK', rfl⟩)
    refine ⟨.int .i64 (-1), ?_, ?_, (hB1.setCell (p := ⟨w.heap.size + 1, 0, none⟩) (by simp) _).trans (belowK_b (w := w) (Nat.le_refl _) _ D _ _ (by omega) hK' rfl rfl)⟩
    · simp [results, Tryz.f152, go_sem, hc5]
    · rw [lat_came zs t 0 (Nat.zero_le _) hne]; rfl
  case stop =>
    rintro D c pre W hD ⟨m, hm, rfl⟩ ⟨⟨rfl, ini, last, e1, e2, e3, bR1⟩, hB⟩ hK
    gi_wp2
    refine ⟨by simp, .inl ⟨_, _, rfl, run_takeDeferred hK, ?_⟩⟩
    have hc5 := cell_kept bR1.cell (grownBy_putObj' _ D (.deferred none)) (fun r e => by cases e; exact ⟨_, hK, rfl⟩)
    obtain ⟨⟨x, y⟩, hxy⟩ : ∃ p, zs[m]? = some p := ⟨zs[m], List.getElem?_eq_getElem hm⟩
    rw [came_step zs m x y hxy] at e1
    obtain ⟨rfl, e5⟩ := List.append_inj' e1 rfl
    obtain rfl : (m, (x, y)) = last := by simpa using e5
    refine ⟨.int .i64 (m : Int), ?_, ?_, hB.trans (belowK_b (w := w) (Nat.le_refl _) W D _ _ (by omega) hK rfl rfl)⟩
    · simp [results, Tryz.f152, go_sem, hc5]
    · rw [lat_came zs t (m + 1) hm e2, latN, if_pos (by rw [hxy]; exact e3)]

/-- store.latest, whatever it is handed. -/
theorem latest_any (a : Option Addr) (len cap : Nat) (t : Int) (zs : List (Int × Int)) (hreach : zs.length ≤ 1000000) (w : World) (hI : Vers w.heap.size w (.slice a len cap) zs) :
    Calls Tryz.prog 152 #[.slice a len cap, .int .i64 t] w fun e W' => e = .returned (.int .i64 (lat zs t)) ∧ Below w.heap.size w W' :=
  (callsIn_wide (n := 3)).1 (latest_in Fence.wide 3 trivial trivial trivial rfl (Nat.le_refl _) a len cap t zs hreach w hI)

end Go.Proofs.YtjefgmeejhakbaaGreatDoor

/- How a store lies in memory: its block, and of each key a row of its own; what a call that turns one store leaves of all others. -/
namespace Go.Proofs.YtjefgmeejhakbaaGreatDoor
open Go.RowKit

theorem vrow_one : ∀ (l : List (Int × Int)), ∀ u ∈ vrow l, u.oneCell' = true
  | [], u, h => by simp [vrow] at h
  | (x, y) :: r, u, h => by
    simp only [vrow, List.mem_cons] at h
    rcases h with rfl | rfl | h
    · rfl
    · rfl
    · exact vrow_one r u h
theorem vrow_drop : ∀ (l : List (Int × Int)) (m : Nat), (vrow l).drop (m * 2) = vrow (l.drop m)
  | l, 0 => by simp
  | [], m + 1 => by simp [vrow]
  | (x, y) :: r, m + 1 => by
    rw [show (m + 1) * 2 = m * 2 + 1 + 1 from by omega]
    simpa [vrow] using vrow_drop r m

/-- What a row owns is versions. -/
theorem vers_of_owns {w : World} {base : Nat} {v : Value} {l : List (Int × Int)} (h : w.ownsRow base 199 2 v l.length (vrow l)) : Vers w.heap.size w v l := by
  rcases h.2 with ⟨hv, hn⟩ | ⟨g, cap, cur, hv, hb, hg, hr⟩
  · exact .inl ⟨hv, List.eq_nil_of_length_eq_zero hn⟩
  · refine .inr ⟨g, cap, hv, (Array.getElem?_eq_some_iff.1 hg).1, fun j a x e => ?_⟩
    have hc := h.cells (g := g) (by rw [hv]; rfl)
    have hx := vrow_get l j a x e
    have h1 := hc (j * 2) _ hx.1
    have h2 := hc (j * 2 + 1) _ hx.2
    rw [addr_add] at h1 h2
    exact ⟨h1, h2⟩

/-- What a store lies at the head of: the cells behind it, and the block's type. -/
structure Tail where
  post : List Value
  tt : TypeId
/-- The block's cells. -/
def Tail.cells (P : Tail) (last : Int) (vs : List Value) : Array Value := (Value.int .i64 last :: (vs ++ P.post)).toArray
theorem Tail.get0 (P : Tail) (last : Int) (vs : List Value) : (P.cells last vs)[0]? = some (.int .i64 last) := by unfold Tail.cells; simp
theorem Tail.getk (P : Tail) (last : Int) {vs : List Value} {k : Nat} {v : Value} (hv : vs[k]? = some v) : (P.cells last vs)[1 + k]? = some v := by
  unfold Tail.cells
  rw [Nat.add_comm]
  simp only [List.getElem?_toArray, List.getElem?_cons_succ]
  rw [List.getElem?_append_left (List.getElem?_eq_some_iff.1 hv).1, hv]
theorem Tail.set0 (P : Tail) (last t : Int) (vs : List Value) : (P.cells last vs).setIfInBounds 0 (.int .i64 t) = P.cells t vs := by unfold Tail.cells; simp
theorem Tail.setk (P : Tail) (last : Int) {vs : List Value} {k : Nat} (hk : k < vs.length) (v : Value) : (P.cells last vs).setIfInBounds (1 + k) v = P.cells last (vs.set k v) := by
  unfold Tail.cells
  rw [Nat.add_comm]
  simp only [List.setIfInBounds_toArray, List.set_cons_succ]
  rw [List.set_append_left _ _ hk]
variable {P : Tail}

/-- The store at block s: the last commit's time, and of each key its versions; the rows lie at base or beyond. -/
structure Sto (P : Tail) (w : World) (base s : Nat) (last : Int) (vs : List Value) (ks : List (List (Int × Int))) : Prop where
  blk : w.heap[s]? = some (.cells (P.cells last vs) P.tt (0, 0))
  lv : vs.length = 10
  lk : ks.length = 10
  own : ∀ (k : Nat) (v : Value) (l : List (Int × Int)), vs[k]? = some v → ks[k]? = some l → w.ownsRow base 199 2 v l.length (vrow l)
  apart : ∀ (i j : Nat) (v u : Value) (g : Nat), vs[i]? = some v → vs[j]? = some u → v.ownBlock = some g → u.ownBlock = some g → i = j
  sb : s < base

/-- Block b is one of the rows. -/
def InRows (vs : List Value) (b : Nat) : Prop := ∃ v ∈ vs, v.ownBlock = some b

/-- The world is as it was but for block s, the rows of vs, and new blocks; the rows of vs' are rows of vs, or new. -/
structure Kept (s : Nat) (vs vs' : List Value) (w w' : World) : Prop where
  os : w'.os = w.os
  tape : w'.tape = w.tape
  output : w'.output = w.output
  size : w.heap.size ≤ w'.heap.size
  block : ∀ b, b < w.heap.size → b ≠ s → ¬ InRows vs b → w'.heap[b]? = w.heap[b]?
  sub : ∀ g, InRows vs' g → InRows vs g ∨ w.heap.size ≤ g

theorem Kept.trans {s : Nat} {vs vs' vs'' : List Value} {a b c : World} (h : Kept s vs vs' a b) (k : Kept s vs' vs'' b c) : Kept s vs vs'' a c :=
  ⟨k.os.trans h.os, k.tape.trans h.tape, k.output.trans h.output, Nat.le_trans h.size k.size,
    fun i hi hs hn => (k.block i (Nat.lt_of_lt_of_le hi h.size) hs (fun hr => (h.sub i hr).elim hn (fun e => by omega))).trans (h.block i hi hs hn),
    fun g hg => (k.sub g hg).elim (h.sub g) (fun e => .inr (Nat.le_trans h.size e))⟩
theorem Kept.refl (s : Nat) (vs : List Value) (w : World) : Kept s vs vs w w := ⟨rfl, rfl, rfl, Nat.le_refl _, fun _ _ _ _ => rfl, fun _ h => .inl h⟩
theorem Kept.of_below {s : Nat} {vs : List Value} {w w' : World} (h : Below w.heap.size w w') : Kept s vs vs w w' :=
  ⟨h.os, h.tape, h.output, h.size, fun b hb _ _ => h.block b hb, fun _ h => .inl h⟩
/-- Of what was there below B nothing has turned, where the store lies beyond. -/
theorem Kept.below {s B : Nat} {vs vs' : List Value} {w w' : World} (h : Kept s vs vs' w w') (hB : B ≤ w.heap.size) (hs : B ≤ s) (hr : ∀ g, InRows vs g → B ≤ g) : Below B w w' :=
  ⟨h.os, h.tape, h.output, h.size, fun k hk => h.block k (by omega) (by omega) (fun e => by have := hr k e; omega)⟩

theorem Sto.lt {w : World} {base s : Nat} {last : Int} {vs : List Value} {ks : List (List (Int × Int))} (h : Sto P w base s last vs ks) : s < w.heap.size := (Array.getElem?_eq_some_iff.1 h.blk).1
theorem Sto.row {w : World} {base s : Nat} {last : Int} {vs : List Value} {ks : List (List (Int × Int))} (h : Sto P w base s last vs ks) {g : Nat} (hg : InRows vs g) : base ≤ g ∧ g < w.heap.size := by
  obtain ⟨v, hv, hg⟩ := hg
  obtain ⟨k, hk, rfl⟩ := List.mem_iff_getElem.1 hv
  have hl : k < ks.length := by have := h.lv; have := h.lk; omega
  exact (h.own k _ ks[k] (List.getElem?_eq_getElem hk) (List.getElem?_eq_getElem hl)).lt g hg

/-- A store whose blocks all lie as they lay is what it was. -/
theorem Sto.kept {w w' : World} {base s : Nat} {last : Int} {vs : List Value} {ks : List (List (Int × Int))} (h : Sto P w base s last vs ks)
    (hs : w'.heap[s]? = w.heap[s]?) (hr : ∀ g, InRows vs g → w'.heap[g]? = w.heap[g]?) : Sto P w' base s last vs ks :=
  ⟨hs.trans h.blk, h.lv, h.lk, fun k v l hv hl => by
    have ho := h.own k v l hv hl
    refine ⟨ho.1, ?_⟩
    rcases ho.2 with hn | ⟨g, cap, cur, e, hb, hg, r⟩
    · exact .inl hn
    · exact .inr ⟨g, cap, cur, e, hb, (hr g ⟨v, List.mem_of_getElem? hv, by rw [e]; rfl⟩).trans hg, r⟩, h.apart, h.sb⟩
theorem Sto.below {w w' : World} {base s : Nat} {last : Int} {vs : List Value} {ks : List (List (Int × Int))} (h : Sto P w base s last vs ks) (hB : Below w.heap.size w w') : Sto P w' base s last vs ks :=
  h.kept (hB.block s h.lt) (fun g hg => hB.block g (h.row hg).2)
/-- Another store is what it was. -/
theorem Sto.other {w w' : World} {base s t base' : Nat} {last : Int} {vs us us' : List Value} {ks : List (List (Int × Int))} (h : Sto P w base s last vs ks) (hk : Kept t us us' w w')
    (hne : s ≠ t) (hsr : ¬ InRows us s) (hap : ∀ g, InRows vs g → ¬ InRows us g) (hb : t < base') (hbb : base' ≤ base) : Sto P w' base s last vs ks :=
  h.kept (hk.block s h.lt hne hsr) (fun g hg => hk.block g (h.row hg).2 (by have := (h.row hg).1; omega) (hap g hg))

/-- The key's cell. -/
theorem Sto.cell {w : World} {base s : Nat} {last : Int} {vs : List Value} {ks : List (List (Int × Int))} (h : Sto P w base s last vs ks) {k : Nat} {v : Value} (hv : vs[k]? = some v) : w.cell? ⟨s, 1 + k, none⟩ = some v := (cell_of_row w s (1 + k) _ P.tt (0, 0) h.blk).trans (P.getk last hv)
theorem Sto.cellLast {w : World} {base s : Nat} {last : Int} {vs : List Value} {ks : List (List (Int × Int))} (h : Sto P w base s last vs ks) : w.cell? ⟨s, 0, none⟩ = some (.int .i64 last) := (cell_of_row w s 0 _ P.tt (0, 0) h.blk).trans (P.get0 last vs)
theorem Sto.free {w : World} {base s : Nat} {last : Int} {vs : List Value} {ks : List (List (Int × Int))} (h : Sto P w base s last vs ks) (o : Nat) : w.frozen? ⟨s, o, none⟩ = false := by
  simp [World.frozen?, h.blk]

end Go.Proofs.YtjefgmeejhakbaaGreatDoor

/- slices.DeleteFunc with leave's closure. -/
namespace Go.Proofs.YtjefgmeejhakbaaGreatDoor
open Go.Shelf Go.RowKit Go.Lib Go.Sort

/-- leave's closure, in whatever world holds tx in its cell. -/
theorem gives_leave (tx x : Int) (B : Nat) (W : World) (hc : W.cell? ⟨B, 0, none⟩ = some (.int .i64 tx)) :
    FnGives Tryz.prog 239 #[.pointer (some ⟨B, 0, none⟩)] #[.int .i64 x] (.bool (x == tx)) W := by
  show Calls Tryz.prog 239 #[.int .i64 x, .pointer (some ⟨B, 0, none⟩)] W _
  go_enter Tryz.func239, Tryz.ntmps239
  go_wp2
  all_goals (go_ret; exact ⟨rfl, 0, rfl⟩)

theorem pred_leave (tx : Int) (B : Nat) (w : World) (hB : B < w.heap.size) (hcell : w.cell? ⟨B, 0, none⟩ = some (.int .i64 tx)) :
    PredAt Tryz.prog 239 #[.pointer (some ⟨B, 0, none⟩)] (Value.int .i64) (fun x => x == tx) w :=
  fun W x hb => gives_leave tx x B W ((hb.cell (p := ⟨B, 0, none⟩) hB).trans hcell)

theorem over_leave (tx : Int) (B blk off size : Nat) (w : World) (hB : B < w.heap.size) (hne : B ≠ blk) (hcell : w.cell? ⟨B, 0, none⟩ = some (.int .i64 tx)) :
    PredOver Tryz.prog 239 #[.pointer (some ⟨B, 0, none⟩)] (Value.int .i64) (fun x => x == tx) blk off size w :=
  fun n os dk x _ => gives_leave tx x B _ (by
    unfold sortWorld
    rw [cell?_grow _ _ _ (by show B < (putRow _ _ _ _ _).heap.size; rw [size_putRow]; exact hB), cell?_putRow_other _ _ blk off _ _ (Or.inl hne)]
    exact hcell)

theorem ekPutCells_take (l : List Int) (z : Nat) (cur : Array Value) (h : l.length + z ≤ cur.size) : (putCells (Value.int .i64) 0 (l ++ List.replicate z 0).toArray cur).toList.take l.length = intsV l := by
  apply List.ext_getElem?
  intro j
  rw [List.getElem?_take]
  by_cases hj : j < l.length
  · rw [if_pos hj]
    have hjc : j < cur.size := by omega
    simp only [putCells, Array.toList_mapIdx, List.getElem?_mapIdx, Array.getElem?_toList, Array.getElem?_eq_getElem hjc, Option.map_some]
    rw [if_pos ⟨Nat.zero_le _, by simp; omega⟩]
    have e : (l ++ List.replicate z 0).toArray[j - 0]! = l[j] := by
      rw [Nat.sub_zero, getElem!_pos _ j (by simp; omega)]
      simp [List.getElem_append_left hj]
    rw [e, intsV_get (List.getElem?_eq_getElem hj)]
  · rw [if_neg hj, List.getElem?_eq_none (by rw [intsV_length]; omega)]

theorem heap_putRow (w : World) (g q : Nat) (d : Array Int) (cur : Array Value) (t : TypeId) (fr : Nat × Nat) (h : w.heap[g]? = some (.cells cur t fr)) :
    (putRow (Value.int .i64) (Sort.ahead w q) g 0 d).heap[g]? = some (.cells (putCells (Value.int .i64) 0 d cur) t fr) := by
  show ((Sort.ahead w q).heap.modify g _)[g]? = _
  rw [Array.getElem?_modify, if_pos rfl]
  show (w.heap[g]?).map _ = _
  rw [h]
  rfl
theorem ekHeap_putRow_other (w : World) (g q k : Nat) (d : Array Int) (h : k ≠ g) :
    (putRow (Value.int .i64) (Sort.ahead w q) g 0 d).heap[k]? = w.heap[k]? := by
  show ((Sort.ahead w q).heap.modify g _)[k]? = _
  rw [Array.getElem?_modify, if_neg (fun e => h e.symm)]
  rfl

theorem del_any (g cap B : Nat) (l : List Int) (tx : Int) (w : World) (ho : w.ownsRow 0 3 1 (.slice (some ⟨g, 0, none⟩) l.length cap) l.length (intsV l)) (hc : w.cell? ⟨B, 0, none⟩ = some (.int .i64 tx)) (hBg : B ≠ g) (hlen : l.length ≤ 1000000) :
    Calls Tryz.prog 238 #[.slice (some ⟨g, 0, none⟩) l.length cap, .func (.func 239) #[] #[.pointer (some ⟨B, 0, none⟩)]] w fun e w' =>
      e = .returned (.slice (some ⟨g, 0, none⟩) (l.filter (fun x => x != tx)).length cap) ∧ w'.ownsRow 0 3 1 (.slice (some ⟨g, 0, none⟩) (l.filter (fun x => x != tx)).length cap) (l.filter (fun x => x != tx)).length (intsV (l.filter (fun x => x != tx))) ∧ w.grownBy w' (some g) := by
  have hB := World.block_lt_of_cell? w _ hc
  rcases ho.2 with ⟨e, _⟩ | ⟨g', cap', cur, e, hb0, hg, hnc, hcm, hcs, htake⟩
  · cases e
  · cases e
    have hcells := ho.cells (g := g) rfl
    have eg : ∀ args w, (callFunc 239 args).run Tryz.prog w = .ok (.enter 239 args) w := enters_of Tryz.func239 (by kernel_rfl) rfl
    have hH : Holds (Value.int .i64) w g 0 l.toArray := by
      intro j hj
      have hj' : j < l.length := by simpa using hj
      refine ⟨?_, frozen_of_row w g _ _ _ hg⟩
      have := hcells j _ (intsV_get (List.getElem?_eq_getElem hj'))
      rw [addr_add] at this
      rw [Nat.zero_add, this, getElem!_pos _ j hj]
      simp
    have hcon := AnyE.slices_DeleteFunc Tryz.l10 (Value.int .i64) (fun _ => rfl) (fun x => x == tx) 239 #[.pointer (some ⟨B, 0, none⟩)] eg 0 Tryz.zeroValue3 g 0 cap l.toArray w
      (pred_leave tx B w hB hc) (over_leave tx B g 0 l.toArray.size w hB hBg hc) hH (by simp; omega) (by simpa using hnc)
    have hcon2 : Calls Tryz.prog 238 #[.slice (some ⟨g, 0, none⟩) l.length cap, .func (.func 239) #[] #[.pointer (some ⟨B, 0, none⟩)]] w _ := hcon
    refine hcon2.mono ?_
    rintro e w' ⟨rfl, q, rfl⟩
    have hfl : (l.filter (fun x => x != tx)).length ≤ l.length := List.length_filter_le _ _
    refine ⟨rfl, ⟨by rw [intsV_length]; omega, .inr ⟨g, cap, _, rfl, Nat.zero_le _, heap_putRow w g q _ cur _ _ hg, by omega, hcm, ?_, ?_⟩⟩, ⟨rfl, rfl, rfl, ?_, fun k _ hk => ekHeap_putRow_other w g q k _ (fun e => hk (by rw [e]))⟩⟩
    · simpa [putCells] using hcs
    · rw [Nat.mul_one]
      have e2 : (l.filter (fun x => x != tx)).length = (l.filter (fun x => !x == tx)).length := rfl
      exact ekPutCells_take _ _ cur (by simp; omega)
    · show w.heap.size ≤ ((Sort.ahead w q).heap.modify g _).size
      rw [Array.size_modify]
      exact Nat.le_refl _

end Go.Proofs.YtjefgmeejhakbaaGreatDoor

/- (*Table).leave. -/
namespace Go.Proofs.YtjefgmeejhakbaaGreatDoor
open Go.RowKit

variable {C : Emb}

set_option maxRecDepth 100000 in
set_option maxHeartbeats 2000000 in
theorem leave_none (s N : Nat) (M : LkM) (h wa : Int → Option Int) (ln : Int → List Int) (tx : Int) (w : World) (r : Raw C w s N M h wa ln) (hx : I64 tx) (hw : wa tx = none) :
    Calls Tryz.prog 207 #[.pointer (some ⟨s, C.o, none⟩), .int .i64 tx] w fun e w' => e = .returned (.tuple #[]) ∧ Below w.heap.size w w' := by
  have hA : Below w.heap.size w (w.alloc (.cells #[.int .i64 tx] 3)) := (Below.refl _ _).alloc (Nat.le_refl _) _
  have hs := r.lt
  have c1 := r.c1
  have hl : ∀ q, (Instr.lookup 69 (.map M.mw) (.int .i64 tx) true).run Tryz.prog ((w.alloc (.cells #[.int .i64 tx] 3)).drewN q) = .ok (.tuple #[.int .i64 0, .bool false]) ((w.alloc (.cells #[.int .i64 tx] 3)).drewN q) := fun q => (by
    have := ((r.below hA).below (below_drewN (Below.refl _ _) q)).lookW hx
    rw [hw] at this
    exact this)
  clear r hw
  go_enter Tryz.func207, Tryz.ntmps207
  go_wp2
  go_quiet (fail)
  go_wp2
  refine bodyPost_ret (results_none rfl _ _ _) rfl ?_
  exact ⟨rfl, below_drewN hA _⟩

/-- Behind DeleteFunc. -/
theorem leave_end {w w1 : World} {s N n g cap b : Nat} {M : LkM} {h wa : Int → Option Int} {ln : Int → List Int} {k : Int} {l : List Int} (r : Raw C w s N M h wa ln) (hb : M.ml = some b) (hk : I64 k) (hN : N ≤ 1000000)
    (hv : M.lv k = some (.slice (some ⟨g, 0, none⟩) n cap)) (ho : w1.ownsRow 0 3 1 (.slice (some ⟨g, 0, none⟩) l.length cap) l.length (intsV l)) (hgr : w.grownBy w1 (some g)) (hl : l.length ≤ (ln k).length) :
    w1.cell? ⟨s, C.o + 2, none⟩ = some (.map (some b)) ∧
    (l = [] → ∃ w3, (Builtin.delete_ #[157, 3] 0 #[.map (some b), .int .i64 k]).run Tryz.prog w1 = .ok (.tuple #[]) w3 ∧ ∃ M', Raw C w3 s (N + 1) M' h wa (updT ln k l) ∧ KeptO (M.own s) (M'.own s) w w3) ∧
    (l ≠ [] → ∃ w3, (Instr.mapUpdate 157 (.map (some b)) (.int .i64 k) (.slice (some ⟨g, 0, none⟩) l.length cap)).run Tryz.prog w1 = .ok () w3 ∧ ∃ M', Raw C w3 s (N + 1) M' h wa (updT ln k l) ∧ KeptO (M.own s) (M'.own s) w w3) := by
  have hbl := r.ml.lt hb
  have hlen := r.len k
  have hB : ∀ i, i < w.heap.size → (∀ v, M.lv k = some v → v.ownBlock ≠ some i) → w1.heap[i]? = w.heap[i]? := fun i hi hn =>
    hgr.block i hi (fun e => by cases e; exact hn _ hv rfl)
  have hI : IMap w b N M.lv := MapIs.at (hb ▸ r.ml)
  have hI1 := hI.same (hB b hbl (fun v hv e => (r.row_ne hv e).2.2.2 hb))
  refine ⟨?_, fun hn => ?_, fun hn => ?_⟩
  · refine (World.cell?_of_block (a := ⟨s, C.o + 2, none⟩) (hB s r.lt (fun v hv e => (r.row_ne hv e).1 rfl))).trans ?_
    rw [r.c2, hb]
  · obtain ⟨w3, hrun, hI3, hg3⟩ := hI1.del Tryz.underlying157 hk 0
    exact ⟨w3, hrun, _, r.turnL (N' := N + 1) (u := none) (l := l) hb (Nat.le_succ _) hB hgr.size ⟨hgr.os, hgr.tape, hgr.output⟩ (.inl ⟨hn, rfl⟩) (by omega) (hI3.mono (Nat.le_succ _)) hg3⟩
  · obtain ⟨w3, hrun, hI3, hg3⟩ := hI1.store Tryz.underlying157 (by unfold maxLen; omega) hk (.slice (some ⟨g, 0, none⟩) l.length cap)
    exact ⟨w3, hrun, _, r.turnL (N' := N + 1) (l := l) hb (Nat.le_succ _) hB hgr.size ⟨hgr.os, hgr.tape, hgr.output⟩ (.inr ⟨hn, _, rfl, ho, fun g' e => .inl ⟨_, hv, e⟩⟩) (by omega) hI3 hg3⟩

set_option maxRecDepth 100000 in
set_option maxHeartbeats 4000000 in
theorem leave_some (s N : Nat) (M : LkM) (h wa : Int → Option Int) (ln : Int → List Int) (tx k : Int) (w : World) (r : Raw C w s N M h wa ln) (hx : I64 tx) (hk : I64 k) (hw : wa tx = some k) (hn : ln k ≠ []) (hN : N ≤ 100000) :
    Calls Tryz.prog 207 #[.pointer (some ⟨s, C.o, none⟩), .int .i64 tx] w fun e w' => e = .returned (.tuple #[]) ∧
      ∃ M', Raw C w' s (N + 1) M' h (updT wa tx none) (updT ln k ((ln k).filter (fun x => x != tx))) ∧ KeptO (M.own s) (M'.own s) w w' := by
  obtain ⟨b1, hm, _⟩ := r.mw.imap (a := tx) (by rw [hw]; simp)
  obtain ⟨v0, hv0, ho0⟩ := r.ln1 k hn
  obtain ⟨b2, hml, _⟩ := r.ml.imap (a := k) (by rw [hv0]; simp)
  have hA : Below w.heap.size w (w.alloc (.cells #[.int .i64 tx] 3)) := (Below.refl _ _).alloc (Nat.le_refl _) _
  have hs := r.lt
  have c1 := r.c1
  rw [hm] at c1
  have hl : ∀ q, (Instr.lookup 69 (.map (some b1)) (.int .i64 tx) true).run Tryz.prog ((w.alloc (.cells #[.int .i64 tx] 3)).drewN q) = .ok (.tuple #[.int .i64 k, .bool true]) ((w.alloc (.cells #[.int .i64 tx] 3)).drewN q) := fun q => by
    have := ((r.below hA).below (below_drewN (Below.refl _ _) q)).lookW hx
    rw [hw, hm] at this
    exact this
  have HA := hid hA
  have HR := hid r
  clear hw r hA
  go_enter Tryz.func207, Tryz.ntmps207
  go_wp2
  go_quiet (fail)
  have hB1 := below_drewN HA.out (nq + 1)
  have r1 := HR.out.below hB1
  have hcB : (w.alloc (.cells #[.int .i64 tx] 3)).heap[w.heap.size]? = some (.cells #[.int .i64 tx] 3 (0, 0)) := heap_alloc_new w _
  clear hl
  obtain ⟨W, hW⟩ : ∃ W, (w.alloc (.cells #[.int .i64 tx] 3)).drewN nq = W := ⟨_, rfl⟩
  have hcB1 : W.heap[w.heap.size]? = some (.cells #[.int .i64 tx] 3 (0, 0)) := by rw [← hW]; exact ((below_drewN (Below.refl (w.heap.size + 1) _) nq).block _ (Nat.lt_succ_self _)).trans hcB
  have r1 : Raw C W.drew s N M h wa ln := by rw [← hW]; exact r1
  have hB1 : Below w.heap.size w W.drew := by rw [← hW]; exact hB1
  rw [hW]
  clear hW hcB c1
  have c1 := r1.c1
  rw [hm] at c1
  have cB : W.cell? ⟨w.heap.size, 0, none⟩ = some (.int .i64 tx) := (cell_of_row _ _ 0 _ 3 (0, 0) hcB1).trans rfl
  obtain ⟨w2, hrun, hI, hg⟩ := (MapIs.at (show MapIs W.drew (some b1) N _ from hm ▸ r1.mw)).del Tryz.underlying69 hx 0
  obtain ⟨r2, k2⟩ := r1.turnW (wa' := updT wa tx none) hm (Nat.le_refl N) (by rw [updT_map]; exact hI) hg
  have hBb : w.heap.size ≠ b1 := by have := HR.out.mw.lt hm; omega
  have hcB2 : w2.heap[w.heap.size]? = some (.cells #[.int .i64 tx] 3 (0, 0)) := (hg.block w.heap.size (Array.getElem?_eq_some_iff.1 hcB1).1 (fun e => hBb (by cases e; rfl))).trans hcB1
  have cB2 : w2.cell? ⟨w.heap.size, 0, none⟩ = some (.int .i64 tx) := (cell_of_row _ _ 0 _ 3 (0, 0) hcB2).trans rfl
  have c12 := r2.c1
  rw [hm] at c12
  have c22 := r2.c2
  rw [hml] at c22
  have hl2 := r2.lookL hk
  rw [hml, hv0] at hl2
  simp only [Option.getD_some] at hl2
  have HR2 := hid r2
  have HB1 := hid hB1
  have HK2 := hid k2
  clear r1 hI hg r2 k2 hB1 hcB1 hcB2
  go_wp2
  go_region_held3 (fun W => W.cell? ⟨s, C.o + 1, none⟩ = some (.map (some b1)) ∧ W.cell? ⟨w.heap.size, 0, none⟩ = some (.int .i64 tx))
    (first
      | go_keep
      | exact ⟨c12, cB2⟩)
    (refine step_del (by rfl) _ _ _ _ (by rfl) _ _ (by rfl) (by rfl) hrun ?_)
  rcases row_slice ho0 with ⟨_, e0⟩ | ⟨g, cap, rfl, hgl, _⟩
  · exact (hn (List.eq_nil_of_length_eq_zero e0)).elim
  clear hrun c12 c1 cB
  have hlen := HR2.out.len k
  have hgB : w.heap.size ≠ g := by omega
  have ho2 := (HR2.out.row hv0).2
  go_wp2_with fail
  refine (del_any g cap w.heap.size (ln k) tx _ ho2 cB2 hgB (by omega)).mono ?_
  rintro e w3 ⟨rfl, ho3, hg3⟩
  have hfl : ((ln k).filter (fun x => x != tx)).length ≤ (ln k).length := List.length_filter_le _ _
  obtain ⟨c3, hE, hF⟩ := leave_end HR2.out hml hk (by omega) hv0 ho3 hg3 hfl
  have HKK := hid ((KeptO.of_below (o := M.own s) HB1.out).trans HK2.out)
  clear hl2 c22 ho2 cB2 hgB ho3 hg3 hm hml hv0 ho0
  obtain ⟨l, hle⟩ : ∃ l, (ln k).filter (fun x => x != tx) = l := ⟨_, rfl⟩
  rw [hle] at hE hF hfl ⊢
  have HL := hid hle
  clear hle
  by_cases hl0 : l = []
  · obtain ⟨w4, hrun, hpost⟩ := hE hl0
    have HP := hid hpost
    have e1 : (((l.length : Nat) : Int) == 0) = true := by simp [hl0]
    clear hE hF hpost hl0
    go_wp2_with (at_delete; refine wpList_del (by rfl) _ _ _ _ (by rfl) _ _ (by rfl) (by rfl) hrun ?_)
    refine bodyPost_ret (results_none rfl _ _ _) rfl ?_
    rw [HL.out]
    obtain ⟨M', hM, hK'⟩ := HP.out
    exact ⟨rfl, M', hM, HKK.out.trans hK'⟩
  · obtain ⟨w4, hrun, hpost⟩ := hF hl0
    have HP := hid hpost
    have e1 : (((l.length : Nat) : Int) == 0) = false := by simp [hl0]
    clear hE hF hpost hl0
    go_wp2
    refine bodyPost_end (results_none rfl _ _ _) rfl ?_
    rw [HL.out]
    obtain ⟨M', hM, hK'⟩ := HP.out
    exact ⟨rfl, M', hM, HKK.out.trans hK'⟩

end Go.Proofs.YtjefgmeejhakbaaGreatDoor
