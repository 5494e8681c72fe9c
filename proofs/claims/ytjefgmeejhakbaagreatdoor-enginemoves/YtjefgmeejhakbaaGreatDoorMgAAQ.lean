/- LkBase Latest: put together for a claim. -/
import Derived.Test.YtjefgmeejhakbaaGreatDoorProg
import Derived.WalkKit
import Derived.WalkSpells
import Derived.BigQuiet
import Derived.Deep.QuietTactic
import Derived.Deep.AppendLies
import Derived.Deep.RegionHeld3
import Derived.Deep.RegionLaw
import Derived.Laws.AppendOwnNone
import Derived.KernelRfl
import Derived.Test.YtjefgmeejhakbaaGreatDoorBackQ
/- What the walks share: rows of numbers and of pairs; the small functions in and Bare. -/
namespace Go.Proofs.YtjefgmeejhakbaaGreatDoor
open Go.RowKit
theorem hid {p : Prop} (h : p) : Hid p := h
theorem addr_add (g j : Nat) : (⟨g, 0, none⟩ : Addr).add j = ⟨g, j, none⟩ := by unfold Addr.add; split <;> simp_all
def vrow : List (Int × Int) → List Value
  | [] => []
  | (a, v) :: r => .int .i64 a :: .int .i64 v :: vrow r
theorem vrow_length : ∀ l : List (Int × Int), (vrow l).length = l.length * 2
  | [] => rfl
  | (_, _) :: r => by simp [vrow, vrow_length r]; omega
theorem vrow_append : ∀ l m : List (Int × Int), vrow (l ++ m) = vrow l ++ vrow m
  | [], _ => rfl
  | (_, _) :: r, m => by simp [vrow, vrow_append r m]
theorem vrow_get : ∀ (l : List (Int × Int)) (j : Nat) (a v : Int), l[j]? = some (a, v) → (vrow l)[j * 2]? = some (.int .i64 a) ∧ (vrow l)[j * 2 + 1]? = some (.int .i64 v)
  | [], j, a, v, h => by simp at h
  | (x, y) :: r, 0, a, v, h => by simp at h; obtain ⟨rfl, rfl⟩ := h; simp [vrow]
  | (x, y) :: r, j + 1, a, v, h => by
    have := vrow_get r j a v (by simpa using h)
    rw [show (j + 1) * 2 = j * 2 + 1 + 1 from by omega]
    simpa [vrow] using this
def intsV (l : List Int) : List Value := l.map (Value.int .i64)
theorem intsV_append (l m : List Int) : intsV (l ++ m) = intsV l ++ intsV m := by simp [intsV]
theorem intsV_length (l : List Int) : (intsV l).length = l.length := by simp [intsV]
theorem intsV_get {l : List Int} {j : Nat} {x : Int} (h : l[j]? = some x) : (intsV l)[j]? = some (.int .i64 x) := by simp [intsV, h]
theorem owns_same {w w' : World} {base : Nat} {e : TypeId} {size : Nat} {v : Value} {n : Nat} {xs : List Value} (h : w.ownsRow base e size v n xs) (hs : ∀ g, v.ownBlock = some g → w'.heap[g]? = w.heap[g]?) : w'.ownsRow base e size v n xs := by
  refine ⟨h.1, ?_⟩
  rcases h.2 with hn | ⟨g, cap, cur, rfl, hb, hg, r⟩
  · exact .inl hn
  · exact .inr ⟨g, cap, cur, rfl, hb, (hs g rfl).trans hg, r⟩
theorem owns_base {w : World} {base base' : Nat} {e : TypeId} {size : Nat} {v : Value} {n : Nat} {xs : List Value} (h : w.ownsRow base e size v n xs) (hb : base' ≤ base) : w.ownsRow base' e size v n xs := by
  refine ⟨h.1, ?_⟩
  rcases h.2 with hn | ⟨g, cap, cur, rfl, hg0, r⟩
  · exact .inl hn
  · exact .inr ⟨g, cap, cur, rfl, Nat.le_trans hb hg0, r⟩
theorem row_slice {w : World} {base : Nat} {e : TypeId} {size : Nat} {v : Value} {n : Nat} {xs : List Value} (h : w.ownsRow base e size v n xs) :
    (v = .slice none 0 0 ∧ n = 0) ∨ ∃ g cap, v = .slice (some ⟨g, 0, none⟩) n cap ∧ g < w.heap.size ∧ ∀ j u, xs[j]? = some u → w.cell? ⟨g, j, none⟩ = some u := by
  rcases h.2 with ⟨e, e0⟩ | ⟨g, cap, cur, e, hb, hg, _⟩
  · exact .inl ⟨e, e0⟩
  · refine .inr ⟨g, cap, e, (Array.getElem?_eq_some_iff.1 hg).1, fun j u hu => ?_⟩
    have := h.cells (g := g) (by rw [e]; rfl) j u hu
    rwa [addr_add] at this
theorem row_form {w : World} {base : Nat} {e : TypeId} {size : Nat} {v : Value} {n : Nat} {xs : List Value} (h : w.ownsRow base e size v n xs) : ∃ ad cap, v = .slice ad n cap := by
  rcases row_slice h with ⟨e1, e2⟩ | ⟨g, cap, e1, _⟩
  · exact ⟨none, 0, by rw [e1, e2]⟩
  · exact ⟨_, cap, e1⟩
theorem below_drewN {B : Nat} {a w : World} (h : Below B a w) : ∀ q, Below B a (w.drewN q)
  | 0 => h
  | q + 1 => ⟨(below_drewN h q).os, (below_drewN h q).tape, (below_drewN h q).output, (below_drewN h q).size, (below_drewN h q).block⟩
theorem info3 : (Tryz.prog.info? 3).map (fun i => (i.zero, i.size, i.bytes)) = some (some (.int .i64 0), 1, 8) := by kernel_rfl
theorem info78 : (Tryz.prog.info? 78).map (fun i => (i.zero, i.size, i.bytes)) = some (some (.agg #[.int .i64 0, .int .i64 0]), 2, 16) := by kernel_rfl
end Go.Proofs.YtjefgmeejhakbaaGreatDoor

/- store.latest: where the latest version that is not later than a time stands; -1: there is none. -/
namespace Go.Proofs.YtjefgmeejhakbaaGreatDoor
open Go.RowKit Go.Shelf
attribute [local go_sem] Oper.semAt_some
def latN (l : List (Int × Int)) (t : Int) : Nat → Int
  | 0 => -1
  | m + 1 => if (l[m]?.getD (0, 0)).1 ≤ t then (m : Int) else latN l t m
def lat (l : List (Int × Int)) (t : Int) : Int := latN l t l.length
def NoneYet (t : Int) (pre : List (Nat × (Int × Int))) : Prop := ∀ p ∈ pre, t < p.2.1
theorem NoneYet.snoc {t : Int} {pre : List (Nat × (Int × Int))} (h : NoneYet t pre) {i : Nat} {x1 x2 : Int} (hx : t < x1) : NoneYet t (pre ++ [(i, x1, x2)]) := by
  intro p hp
  rcases List.mem_append.1 hp with hp | hp
  · exact h p hp
  · simp at hp; subst hp; exact hx
theorem lat_came (l : List (Int × Int)) (t : Int) (m : Nat) (hm : m ≤ l.length) (h : NoneYet t (came l m)) : lat l t = latN l t m := by
  unfold lat
  obtain ⟨d, hd⟩ : ∃ d, l.length = m + d := ⟨l.length - m, by omega⟩
  have key : ∀ d, m + d ≤ l.length → latN l t (m + d) = latN l t m := by
    intro d
    induction d with
    | zero => intro _; rfl
    | succ d ih =>
      intro hle
      rw [show m + (d + 1) = (m + d) + 1 from by omega, latN, if_neg, ih (by omega)]
      have := h (m + d, l[m + d]?.getD (0, 0)) (by
        simp only [came, List.mem_reverse, List.mem_drop_iff_getElem]
        exact ⟨d, by simp; omega, by simp⟩)
      simp only at this
      omega
  rw [hd]
  exact key d (by omega)
set_option maxRecDepth 100000 in
set_option maxHeartbeats 2000000 in
theorem latest_in (F : Fence) (n : Nat) (h29 : F.fn 152) (h34 : F.fn 206) (h40 : F.fn 237) (hro : F.round = none) (hn : 3 ≤ n) (a : Option Addr) (len cap : Nat) (t : Int) (zs : List (Int × Int)) (hreach : zs.length ≤ 1000000) (w : World) (hI : Vers w.heap.size w (.slice a len cap) zs) :
    CallsIn F n Tryz.prog 152 #[.slice a len cap, .int .i64 t] w fun e W' => e = .returned (.int .i64 (lat zs t)) ∧ Below w.heap.size w W' := by
  have h1 : 1 ≤ n := by omega
  refine callsIn_of_wp_marks Tryz.func152 rfl h29 ?_ hro
  simp only [Tryz.ntmps152, List.size_toArray, List.length_cons, List.length_nil, Nat.reduceAdd, Nat.reduceSub, Array.replicate_succ, Array.replicate_zero, List.push_toArray, List.append_toArray, List.nil_append, List.cons_append]
  gi_wp2_with (gi_at_call 206; refine (back_in F (n - 1) h34 hro _ _ _ _).mono ?_; rintro e w' ⟨rfl, rfl⟩)
  have bT := ((Boxed.new w 3 (.int .i64 t)).alloc (.cells #[.int .i64 0] 3)).alloc (.cells #[.slice a len cap] 153)
  have bR := (Boxed.new (w.alloc (.cells #[.int .i64 t] 3)) 3 (.int .i64 0)).alloc (.cells #[.slice a len cap] 153)
  have bS := Boxed.new ((w.alloc (.cells #[.int .i64 t] 3)).alloc (.cells #[.int .i64 0] 3)) 153 (.slice a len cap)
  simp only [World.size_alloc] at bR bS
  have hB0 : Below w.heap.size w (((w.alloc (.cells #[.int .i64 t] 3)).alloc (.cells #[.int .i64 0] 3)).alloc (.cells #[.slice a len cap] 153)) := (((Below.refl _ w).alloc (Nat.le_refl _) _).alloc (by simp) _).alloc (by simp; omega) _
  have hsz : (((w.alloc (.cells #[.int .i64 t] 3)).alloc (.cells #[.int .i64 0] 3)).alloc (.cells #[.slice a len cap] 153)).heap.size = w.heap.size + 3 := by simp
  obtain ⟨W0, hW0⟩ : ∃ W0, ((w.alloc (.cells #[.int .i64 t] 3)).alloc (.cells #[.int .i64 0] 3)).alloc (.cells #[.slice a len cap] 153) = W0 := ⟨_, rfl⟩
  rw [hW0] at bT bR bS hB0 hsz ⊢
  clear hW0
  have hsz1 : w.heap.size + 3 ≤ W0.heap.size := by omega
  have hsz2 : W0.heap.size ≤ w.heap.size + 3 := by omega
  clear hsz
  have hI0 : Vers W0.heap.size W0 (.slice a len cap) zs := by
    rcases hI.below hB0 with h | ⟨b, cp, e, hb, hc⟩
    · exact .inl h
    · exact .inr ⟨b, cp, e, by omega, hc⟩
  refine wpIn_rangeFunc_ownH hro h1 (gf := 237) (lb := #[.pointer (some ⟨w.heap.size + 1 + 1, 0, none⟩)]) rfl h40 (enters_of Tryz.func237 (by kernel_rfl) rfl)
    (back_stops F (n - 1) h40 hro (by omega) (w.heap.size + 1 + 1) W0.heap.size _ zs hreach W0 (by omega) (Nat.le_refl _) bS.cell hI0) belowK_t (belowK_b (Nat.le_refl _)) (Below.refl _ _) (fun _ => rfl)
    (fun pre W => (NoneYet t pre ∧ Boxed W w.heap.size 3 (.int .i64 t) ∧ Boxed W (w.heap.size + 1) 3 (.int .i64 0)) ∧ Below w.heap.size w W ∧ Below W0.heap.size W0 W)
    (fun c pre W => (c = .ret ∧ ∃ ini last, pre = ini ++ [last] ∧ NoneYet t ini ∧ last.2.1 ≤ t ∧ Boxed W (w.heap.size + 1) 3 (.int .i64 (last.1 : Int))) ∧ Below w.heap.size w W)
    (OwnFrom.and (OwnFrom.and (ownFrom_pure _ _) (OwnFrom.and (Own.from (boxed_own _ _ _) _) (Own.from (boxed_own _ _ _) _))) (OwnFrom.and (ownFrom_below (Nat.le_refl _) (by omega)) (ownFrom_below (Nat.le_refl _) (Nat.le_refl _))))
    (fun c => OwnFrom.and (fun s X Y row hs hg hr => by obtain ⟨hc, ini, last, e1, e2, e3, e4⟩ := hs; exact ⟨hc, ini, last, e1, e2, e3, boxed_own (w.heap.size + 1) 3 (fun (_ : Unit) => Value.int .i64 (last.1 : Int)) () X Y row e4 hg (fun r e => (hr r e).2)⟩) (ownFrom_below (Nat.le_refl _) (by omega)))
    ⟨⟨by simp [NoneYet], bT, bR⟩, hB0, Below.refl _ _⟩
    (fun x a' W => ∃ Bx, w.heap.size + 2 < Bx ∧ W.cell? ⟨Bx, 0, none⟩ = some (.int .i64 x.2.1) ∧ a' = { tmps := #[.slice a len cap, .int .i64 t, undef, .pointer (some ⟨w.heap.size, 0, none⟩), .pointer (some ⟨w.heap.size + 1, 0, none⟩), .int .i64 (x.1 : Int), .pointer (some ⟨Bx, 0, none⟩), .slice a len cap, .func (.func 237) #[] #[.pointer (some ⟨w.heap.size + 1 + 1, 0, none⟩)], .int .i64 (x.1 : Int), .agg #[.int .i64 x.2.1, .int .i64 x.2.2], undef, undef, undef, undef, undef], defers := [] })
    (fun x a' _ X Y row hs hg hr => by obtain ⟨Bx, h1, h2, h3⟩ := hs; exact ⟨Bx, h1, cell_kept h2 hg (fun r e => (hr r e).2), h3⟩)
    ?assign ?body ?done ?stop
  case assign =>
    rintro l pre ⟨i, x1, x2⟩ W K ⟨⟨hp, bT1, bR1⟩, hB1, hB2⟩ hK
    simp only [encV] at *
    gi_wp2
    have hs2 := hB2.size
    exact hK _ _ ((KeepsOthers.alloc _ _).from _) ((Below.refl _ W).alloc hs2 _) ⟨⟨hp, bT1.alloc _, bR1.alloc _⟩, hB1.alloc hB1.size _, hB2.alloc hs2 _⟩
      ⟨W.heap.size, by omega, (cell_of_row _ W.heap.size 0 _ 199 (0, 0) (World.alloc_heap_new W _)).trans rfl, rfl⟩
  case body =>
    rintro l pre ⟨i, x1, x2⟩ a' W hl ⟨r, hr⟩ ⟨⟨hp, bT1, bR1⟩, hB1, hB2⟩ ⟨Bx, hBx, cX, rfl⟩ hlt
    have cT := bT1.cell
    have cR := bR1.cell
    have fR := bR1.frozen
    simp only at cX
    by_cases hx : x1 ≤ t
    · gi_wp2
      exact ⟨(KeepsOthers.setCell _ _ _).from _, ⟨rfl, pre, (i, x1, x2), rfl, hp, hx, bR1.set _⟩, hB1.setCell (p := ⟨w.heap.size + 1, 0, none⟩) (by simp) _⟩
    · gi_wp2
      exact ⟨KeepsFrom.refl _ _, Below.refl _ _, ⟨hp.snoc hx, bT1, bR1⟩, hB1, hB2⟩
  case done =>
    rintro D ys W hD rfl ⟨⟨hne, bT1, bR1⟩, hB1, hB2⟩ hK
    have cR := bR1.cell
    have fR := bR1.frozen
    gi_wp2
    have hK' := (KeepsOthers.setCell W ⟨w.heap.size + 1, 0, none⟩ (.int .i64 (-1))).same D _ hK rfl
    refine ⟨by simp, .inl ⟨_, _, rfl, run_takeDeferred hK', ?_⟩⟩
    have hc5 := cell_kept (bR1.set (.int .i64 (-1))).cell (grownBy_putObj' _ D (.deferred none)) (fun r e => by cases e; exact ⟨_, hK', rfl⟩)
    refine ⟨.int .i64 (-1), ?_, ?_, (hB1.setCell (p := ⟨w.heap.size + 1, 0, none⟩) (by simp) _).trans (belowK_b (w := w) (Nat.le_refl _) _ D _ _ (by omega) hK' rfl rfl)⟩
    · simp [results, Tryz.f152, go_sem, hc5]
    · rw [lat_came zs t 0 (Nat.zero_le _) hne]; rfl
  case stop =>
    rintro D c pre W hD ⟨m, hm, rfl⟩ ⟨⟨rfl, ini, last, e1, e2, e3, bR1⟩, hB⟩ hK
    gi_wp2
    refine ⟨by simp, .inl ⟨_, _, rfl, run_takeDeferred hK, ?_⟩⟩
    have hc5 := cell_kept bR1.cell (grownBy_putObj' _ D (.deferred none)) (fun r e => by cases e; exact ⟨_, hK, rfl⟩)
    obtain ⟨⟨x, y⟩, hxy⟩ : ∃ p, zs[m]? = some p := ⟨zs[m], List.getElem?_eq_getElem hm⟩
    rw [came_step zs m x y hxy] at e1
    obtain ⟨rfl, e5⟩ := List.append_inj' e1 rfl
    obtain rfl : (m, (x, y)) = last := by simpa using e5
    refine ⟨.int .i64 (m : Int), ?_, ?_, hB.trans (belowK_b (w := w) (Nat.le_refl _) W D _ _ (by omega) hK rfl rfl)⟩
    · simp [results, Tryz.f152, go_sem, hc5]
    · rw [lat_came zs t (m + 1) hm e2, latN, if_pos (by rw [hxy]; exact e3)]
theorem latest_any (a : Option Addr) (len cap : Nat) (t : Int) (zs : List (Int × Int)) (hreach : zs.length ≤ 1000000) (w : World) (hI : Vers w.heap.size w (.slice a len cap) zs) :
    Calls Tryz.prog 152 #[.slice a len cap, .int .i64 t] w fun e W' => e = .returned (.int .i64 (lat zs t)) ∧ Below w.heap.size w W' :=
  (callsIn_wide (n := 3)).1 (latest_in Fence.wide 3 trivial trivial trivial rfl (Nat.le_refl _) a len cap t zs hreach w hI)
end Go.Proofs.YtjefgmeejhakbaaGreatDoor
