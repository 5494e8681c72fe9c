/- EnNote FsMem: put together for a claim. -/
import Derived.Test.YtjefgmeejhakbaaGreatDoorEnAow
import Derived.Deep.RegionHeld3
import Derived.Test.YtjefgmeejhakbaaGreatDoorMgAB
/- transaction.noteRead. -/
namespace Go.Proofs.YtjefgmeejhakbaaGreatDoor
open Go.RowKit
variable {w w' : World} {L : EnL} {E : Eng}
theorem info90 : (Tryz.prog.info? 90).map (fun i => (i.zero, i.size, i.bytes)) = some (some (.agg #[.int .i64 0, .int .i64 0, .bool false, .int .i64 0]), 4, 32) := by kernel_rfl
theorem txCells_setSeen (n : Int) (l : TxL) (t : Tx) {k : Nat} (hk : k < t.seen.length) (b : Bool) : (txCells n l t).setIfInBounds (10 + k) (.bool b) = txCells n l { t with seen := t.seen.set k b } := by
  unfold txCells
  rw [List.setIfInBounds_toArray, show 10 + k = k + 1 + 1 + 1 + 1 + 1 + 1 + 1 + 1 + 1 + 1 from by omega]
  simp only [List.set_cons_succ]
  rw [List.set_append_left _ _ (by simpa using hk), List.map_set]
theorem TxAt.noted {n : Int} {l : TxL} {t : Tx} (hA : TxAt w n l t) {w1 : World} {gg cap m k : Nat} {frm : Int} (hk : k < 10) (hm : t.reads.length = m)
    (hown : w1.ownsRow 0 90 4 (.slice (some ⟨gg, 0, none⟩) (m + 1) cap) (m + 1) (opsV (readOps n t.reads) ++ [.int .i64 n, .int .i64 (k : Int), .bool false, .int .i64 frm]))
    (hos : w1.os = w.os ∧ w1.tape = w.tape ∧ w1.output = w.output) (hsz : w.heap.size ≤ w1.heap.size) (hb : ∀ g, g < w.heap.size → l.rv.ownBlock ≠ some g → w1.heap[g]? = w.heap[g]?) (hat : l.rv.ownBlock = some gg ∨ w.heap.size ≤ gg) :
    TxAt ((w1.setCell ⟨l.b, 9, none⟩ (.slice (some ⟨gg, 0, none⟩) (m + 1) cap)).setCell ⟨l.b, 10 + k, none⟩ (.bool true)) n { l with rv := .slice (some ⟨gg, 0, none⟩) (m + 1) cap } (noteReadP t (k : Int) frm) ∧
      KeptO l.own ({ l with rv := .slice (some ⟨gg, 0, none⟩) (m + 1) cap } : TxL).own w ((w1.setCell ⟨l.b, 9, none⟩ (.slice (some ⟨gg, 0, none⟩) (m + 1) cap)).setCell ⟨l.b, 10 + k, none⟩ (.bool true)) := by
  have hbl := hA.lt
  have hfb : ∀ {g}, l.rv.ownBlock = some g → g ≠ l.b := fun hg => (hA.rd_ne hg).1
  have hne : l.rv.ownBlock ≠ some l.b := fun e => hfb e rfl
  have hgb : gg ≠ l.b := by
    rcases hat with h | h
    · exact hfb h
    · omega
  have h1 : w1.heap[l.b]? = some (.cells (txCells n l t) 183 (0, 0)) := (hb l.b hbl hne).trans hA.blk
  have h2 := setCell_at (o := 9) (v := .slice (some ⟨gg, 0, none⟩) (m + 1) cap) h1
  rw [txCells_reads _ _ _ _ (t.reads ++ [((k : Int), frm)])] at h2
  have h3 := setCell_at (o := 10 + k) (v := .bool true) h2
  rw [txCells_setSeen _ _ _ (by show k < t.seen.length; rw [hA.sl]; exact hk)] at h3
  have ho : ∀ g, g ≠ l.b → ((w1.setCell ⟨l.b, 9, none⟩ (.slice (some ⟨gg, 0, none⟩) (m + 1) cap)).setCell ⟨l.b, 10 + k, none⟩ (.bool true)).heap[g]? = w1.heap[g]? := fun g hg =>
    (heap_setCell_other _ ⟨l.b, 10 + k, none⟩ g _ hg).trans (heap_setCell_other _ ⟨l.b, 9, none⟩ g _ hg)
  have hmap : ∀ {g N : Nat} {f : Int → Option Value}, IMap w g N f → IMap ((w1.setCell ⟨l.b, 9, none⟩ (.slice (some ⟨gg, 0, none⟩) (m + 1) cap)).setCell ⟨l.b, 10 + k, none⟩ (.bool true)) g N f := fun hI =>
    hI.same ((ho _ (hI.ne hA.blk)).trans (hb _ hI.lt (fun e => by
      obtain ⟨cur, hc⟩ := owns_typ hA.rd e
      exact hI.ne hc rfl)))
  refine ⟨⟨?_, hmap hA.va, ?_, hmap hA.ah, hmap hA.be, hA.d1, hA.d2, hA.d3, ?_, hA.vk, hA.aN, hA.bN, hA.wkr⟩, ?_, ?_, ?_, ?_, fun g hg hn => ?_, fun g hg => ?_⟩
  · rw [h3]
    unfold noteReadP
    rw [Int.toNat_natCast]
  · have : (noteReadP t (k : Int) frm).reads = t.reads ++ [((k : Int), frm)] := rfl
    rw [this, List.length_append]
    simp only [List.length_singleton]
    rw [hm, show readOps n (t.reads ++ [((k : Int), frm)]) = readOps n t.reads ++ [(n, (k : Int), false, frm)] from by simp [readOps], opsV_append]
    exact owns_same hown (fun g hg => ho g (by
      have : gg = g := by simpa [Value.ownBlock] using hg
      rw [← this]; exact hgb))
  · show (t.seen.set _ _).length = 10
    rw [List.length_set]; exact hA.sl
  · exact hos.1
  · exact hos.2.1
  · exact hos.2.2
  · simpa using hsz
  · exact (ho g (fun e => hn (.inl e))).trans (hb g hg (fun e => hn (.inr (.inr (.inr (.inr e))))))
  · rcases hg with h | h | h | h | h
    · exact .inl (.inl h)
    · exact .inl (.inr (.inl h))
    · exact .inl (.inr (.inr (.inl h)))
    · exact .inl (.inr (.inr (.inr (.inl h))))
    · have : gg = g := by simpa [Value.ownBlock] using h
      subst this
      rcases hat with h | h
      · exact .inl (.inr (.inr (.inr (.inr h))))
      · exact .inr h
set_option maxRecDepth 100000 in
set_option maxHeartbeats 2000000 in
theorem noteRead_any {n : Int} {l : TxL} {t : Tx} (hA : TxAt w n l t) {k : Nat} (hk : k < 10) (frm : Int) (hr : t.reads.length ≤ 1000000000) :
    Calls Tryz.prog 113 #[.pointer (some ⟨l.b, 0, none⟩), .int .i64 (k : Int), .int .i64 frm] w fun e w' => e = .returned (.tuple #[]) ∧ ∃ rv, TxAt w' n { l with rv := rv } (noteReadP t (k : Int) frm) ∧ KeptO l.own ({ l with rv := rv } : TxL).own w w' := by
  obtain ⟨i0, hi0, hz0, hz1, hz2⟩ := info_parts info90
  have c0 := hA.c0
  have c9 := hA.c9
  have hblk := hA.blk
  have hbl := hA.lt
  have hsl := hA.sl
  have hrd := hA.rd
  have hbo : ∀ g, l.rv.ownBlock = some g → g ≠ l.b := fun g hg => (hA.rd_ne hg).1
  have hk0 : (0 : Int) ≤ (k : Int) := by omega
  have hk1 : (k : Int) < 10 := by omega
  obtain ⟨ad, cap, hrv⟩ := row_form hrd
  have f9 := hA.free 9
  have HA := hid hA
  have HRD := hid hrd
  have HBO := hid hbo
  have HRV := hid hrv
  rw [hrv] at c9 hrd
  obtain ⟨m, hm⟩ : ∃ m, t.reads.length = m := ⟨_, rfl⟩
  rw [hm] at c9 hrd hr
  have hrd2 := hrd.drew
  have HRD2 := hid hrd2
  have hfar : some l.b ≠ (Value.slice ad m cap).ownBlock := fun e => by
    have := hbo l.b (by rw [hrv, hm]; exact e.symm)
    exact this rfl
  have HFAR := hid hfar
  clear hA hrd hbo hrv hrd2 hfar
  go_enter Tryz.func113, Tryz.ntmps113
  go_wp2
  go_region_law
    (refine step_append_lies _ (by rfl) _ _ _ (by rfl) 0 90 i0 _ 4 32 Tryz.underlying22 hi0 hz0 hz1 hz2 rfl (by omega) (.slice ad m cap) m (opsV (readOps n t.reads)) (by rfl) (HRD2.out.alloc _)
        ⟨w.heap.size, 0, none⟩ 1 1 [.int .i64 n, .int .i64 (k : Int), .bool false, .int .i64 frm] (by rfl) (by rfl) (World.news_of_block (cs := #[.int .i64 n, .int .i64 (k : Int), .bool false, .int .i64 frm]) (t := 90) (fr := (0, 0)) (heap_alloc_new w.drew _)) (by simp [Value.oneCell'])
        (by omega) (by unfold maxLen; omega) (by omega) (by simp) (w.heap.size + 1) (by simp) ?_; intro gg cap' w1 hown1 hgrow hat hlt
     have hbk : w1.heap[l.b]? = w.heap[l.b]? := (hgrow.block l.b (by simp; omega) HFAR.out).trans (Below.heap_alloc w _ l.b hbl)
     have y0 : w1.cell? ⟨l.b, 0, none⟩ = some (.int .i64 n) := (World.cell?_of_block (a := ⟨l.b, 0, none⟩) hbk).trans c0
     have c2 : w1.cell? ⟨l.b, 9, none⟩ = some (.slice ad m cap) := (World.cell?_of_block (a := ⟨l.b, 9, none⟩) hbk).trans c9
     have f2 : w1.frozen? ⟨l.b, 9, none⟩ = false := (World.frozen?_of_block (a := ⟨l.b, 9, none⟩) hbk).trans f9)
  all_goals
    obtain ⟨sb, hsb⟩ : ∃ sb, t.seen[k]? = some sb := ⟨t.seen[k]'(by omega), List.getElem?_eq_getElem _⟩
    have hb1 := setCell_at (o := 9) (v := .slice (some ⟨gg, 0, none⟩) (m + 1) cap') (hbk.trans hblk)
    rw [txCells_reads _ _ _ _ (t.reads ++ [((k : Int), frm)])] at hb1
    have s1 : (w1.setCell ⟨l.b, 9, none⟩ (.slice (some ⟨gg, 0, none⟩) (m + 1) cap')).cell? ⟨l.b, 10 + k, none⟩ = some (.bool sb) := (cell_of_row _ l.b (10 + k) _ _ (0, 0) hb1).trans (txCells_seen _ _ _ hsb)
    have s2 : (w1.setCell ⟨l.b, 9, none⟩ (.slice (some ⟨gg, 0, none⟩) (m + 1) cap')).frozen? ⟨l.b, 10 + k, none⟩ = false := by simp [World.frozen?, hb1]
    have hown2 : l.rv.ownBlock = (Value.slice ad m cap).ownBlock := by rw [HRV.out, hm]
    have hN := HA.out.noted hk hm hown1 ⟨hgrow.os, hgrow.tape, hgrow.output⟩ (by have := hgrow.size; simp at this; omega)
      (fun g hg hne => (hgrow.block g (by simp; omega) (fun e => hne (by rw [hown2]; exact e.symm))).trans (Below.heap_alloc w _ g hg)) (by
        rcases hat with h | h
        · exact .inl (by rw [hown2]; exact h)
        · exact .inr (by omega))
    have HN := hid hN
    clear hN hsb hb1 hown2 hown1 hgrow hat hlt hbk y0 c2 f2
    go_wp2
    refine bodyPost_end (results_none rfl _ _ _) rfl ?_
    exact ⟨rfl, _, HN.out⟩
end Go.Proofs.YtjefgmeejhakbaaGreatDoor

/- How the document's store lies at the head of a greater block; its Read. -/
namespace Go.Proofs.YtjefgmeejhakbaaGreatDoor
open Go.RowKit
def krow : List (Int × Int × Int) → List Value
  | [] => []
  | (k, a, v) :: r => .int .i64 k :: .int .i64 a :: .int .i64 v :: krow r
theorem krow_length : ∀ l : List (Int × Int × Int), (krow l).length = l.length * 3
  | [] => rfl
  | (_, _, _) :: r => by simp [krow, krow_length r]; omega
theorem krow_append : ∀ l m : List (Int × Int × Int), krow (l ++ m) = krow l ++ krow m
  | [], _ => rfl
  | (_, _, _) :: r, m => by simp [krow, krow_append r m]
theorem krow_get : ∀ (l : List (Int × Int × Int)) (j : Nat) (k a v : Int), l[j]? = some (k, a, v) → (krow l)[j * 3]? = some (.int .i64 k) ∧ (krow l)[j * 3 + 1]? = some (.int .i64 a) ∧ (krow l)[j * 3 + 2]? = some (.int .i64 v)
  | [], j, k, a, v, h => by simp at h
  | (x, y, z) :: r, 0, k, a, v, h => by simp at h; obtain ⟨rfl, rfl, rfl⟩ := h; simp [krow]
  | (x, y, z) :: r, j + 1, k, a, v, h => by
    have := krow_get r j k a v (by simpa using h)
    rw [show (j + 1) * 3 = j * 3 + 1 + 1 + 1 from by omega]
    simpa [krow] using this
theorem krow_one : ∀ (l : List (Int × Int × Int)), ∀ u ∈ krow l, u.oneCell' = true
  | [], u, h => by simp [krow] at h
  | (x, y, z) :: r, u, h => by
    simp only [krow, List.mem_cons] at h
    rcases h with rfl | rfl | rfl | h
    · rfl
    · rfl
    · rfl
    · exact krow_one r u h
def fcells (P : Tail) (lv : Value) (last : Int) : Array Value := (lv :: .int .i64 last :: P.post).toArray
variable {P : Tail}
structure Ref (P : Tail) (w : World) (base R : Nat) (last : Int) (lv : Value) (L : List (Int × Int × Int)) : Prop where
  blk : w.heap[R]? = some (.cells (fcells P lv last) P.tt (0, 0))
  own : w.ownsRow base 235 3 lv L.length (krow L)
  nl : L = [] → lv = .slice none 0 0
  rb : R < base
section
variable {w w' : World} {base R : Nat} {last : Int} {lv : Value} {L : List (Int × Int × Int)}
theorem Ref.lt (h : Ref P w base R last lv L) : R < w.heap.size := (Array.getElem?_eq_some_iff.1 h.blk).1
theorem Ref.kept (h : Ref P w base R last lv L) (hs : w'.heap[R]? = w.heap[R]?) (hr : ∀ g, lv.ownBlock = some g → w'.heap[g]? = w.heap[g]?) : Ref P w' base R last lv L :=
  ⟨hs.trans h.blk, owns_same h.own hr, h.nl, h.rb⟩
theorem Ref.below (h : Ref P w base R last lv L) (hB : Below w.heap.size w w') : Ref P w' base R last lv L :=
  h.kept (hB.block R h.lt) (fun g hg => hB.block g (h.own.lt g hg).2)
theorem Ref.c0 (h : Ref P w base R last lv L) : w.cell? ⟨R, 0, none⟩ = some lv := (cell_of_row _ _ 0 _ P.tt (0, 0) h.blk).trans (by simp [fcells])
theorem Ref.c1 (h : Ref P w base R last lv L) : w.cell? ⟨R, 1, none⟩ = some (.int .i64 last) := (cell_of_row _ _ 1 _ P.tt (0, 0) h.blk).trans (by simp [fcells])
theorem Ref.slice (h : Ref P w base R last lv L) : (lv = .slice none 0 0 ∧ L = []) ∨ ∃ g cap, lv = .slice (some ⟨g, 0, none⟩) L.length cap ∧ g < w.heap.size ∧ base ≤ g ∧
    ∀ j k a v, L[j]? = some (k, a, v) → w.cell? ⟨g, j * 3, none⟩ = some (.int .i64 k) ∧ w.cell? ⟨g, j * 3 + 1, none⟩ = some (.int .i64 a) ∧ w.cell? ⟨g, j * 3 + 2, none⟩ = some (.int .i64 v) := by
  rcases h.own.2 with ⟨e, e0⟩ | ⟨g, cap, cur, e, hb, hg, _⟩
  · exact .inl ⟨e, List.eq_nil_of_length_eq_zero e0⟩
  · refine .inr ⟨g, cap, e, (Array.getElem?_eq_some_iff.1 hg).1, hb, fun j k a v hj => ?_⟩
    have hc := h.own.cells (g := g) (by rw [e]; rfl)
    obtain ⟨h1, h2, h3⟩ := krow_get L j k a v hj
    have c1 := hc _ _ h1
    have c2 := hc _ _ h2
    have c3 := hc _ _ h3
    rw [addr_add] at c1 c2 c3
    exact ⟨c1, c2, c3⟩
end
def bestS (k t : Int) (b : Option (Int × Int)) (x : Int × Int × Int) : Option (Int × Int) :=
  if x.1 = k ∧ x.2.1 ≤ t ∧ (b = none ∨ (b.getD (0, 0)).1 < x.2.1) then some (x.2.1, x.2.2) else b
def best (k t : Int) (L : List (Int × Int × Int)) : Option (Int × Int) := L.foldl (bestS k t) none
theorem best_snoc (k t : Int) (L : List (Int × Int × Int)) (x : Int × Int × Int) : best k t (L ++ [x]) = bestS k t (best k t L) x := by simp [best]
def errOf : Option (Int × Int) → Int
  | some _ => 0
  | none => 8
theorem two_set {W : World} {B : Nat} {x y : Value} {T : TypeId} (h : W.heap[B]? = some (.cells #[x, y] T (0, 0))) (a v : Int) : ((W.setCell ⟨B, 0, none⟩ (.int .i64 a)).setCell ⟨B, 1, none⟩ (.int .i64 v)).heap[B]? = some (.cells #[.int .i64 a, .int .i64 v] T (0, 0)) :=
  (heap_setCell_same _ B 1 _ T _ (heap_setCell_same W B 0 _ T _ h)).trans rfl
set_option maxRecDepth 100000 in
set_option maxHeartbeats 2000000 in
theorem refRead_walk (base R g cap : Nat) (k t last : Int) (L : List (Int × Int × Int)) (w : World) (hk : inB k 0 9 = true) (hlen : L.length ≤ 100000) (h : Ref P w base R last (.slice (some ⟨g, 0, none⟩) L.length cap) L) :
    Calls Tryz.prog 135 #[.pointer (some ⟨R, 0, none⟩), .int .i64 k, .int .i64 t] w fun e w' =>
      e = .returned (.tuple #[.agg #[.int .i64 ((best k t L).getD (0, 0)).1, .int .i64 ((best k t L).getD (0, 0)).2], .int .i64 (errOf (best k t L))]) ∧ Below w.heap.size w w' := by
  have hc := h.c0
  have hR := h.lt
  obtain ⟨hgl, hcells⟩ : g < w.heap.size ∧ ∀ j k a v, L[j]? = some (k, a, v) → w.cell? ⟨g, j * 3, none⟩ = some (.int .i64 k) ∧ w.cell? ⟨g, j * 3 + 1, none⟩ = some (.int .i64 a) ∧ w.cell? ⟨g, j * 3 + 2, none⟩ = some (.int .i64 v) := by
    rcases h.slice with ⟨e, _⟩ | ⟨g', cp, e, h1, h2, h3⟩
    · cases e
    · cases e; exact ⟨h1, h3⟩
  have HC := hid hcells
  clear hcells
  go_enter Tryz.func135, Tryz.ntmps135
  go_wp2_with (go_at_call 54; refine (in_any _ _ _ _).mono ?_; rintro e w' ⟨rfl, rfl⟩)
  go_loopw [9, 22] (fun sv i wr => ∃ (j : Nat) (b : Option (Int × Int)), j ≤ L.length ∧ i = .int .i64 j ∧ b = best k t (L.take j) ∧ sv = .bool b.isSome ∧ wr.heap[w.heap.size]? = some (.cells #[.int .i64 0, .int .i64 0] 199 (0, 0)) ∧ wr.heap[w.heap.size + 1]? = some (.cells #[.int .i64 (b.getD (0, 0)).1, .int .i64 (b.getD (0, 0)).2] 199 (0, 0)) ∧ Below w.heap.size w wr) (fun _ i _ => L.length - (intOf i).toNat)
  case atStart => exact ⟨0, none, Nat.zero_le _, rfl, by simp [best], rfl, (Below.heap_alloc _ _ _ (by simp)).trans (World.alloc_heap_new w _), by have := World.alloc_heap_new (w.alloc (.cells #[.int .i64 0, .int .i64 0] 199)) (.cells #[.int .i64 0, .int .i64 0] 199); simpa using this, ((Below.refl _ w).alloc (Nat.le_refl _) _).alloc (by simp) _⟩
  case round =>
    obtain ⟨j, b, hj, rfl, hb, rfl, hx, hy, hB⟩ := hrel
    have hszX := (Array.getElem?_eq_some_iff.1 hy).1
    have HB := hid hb
    clear hb
    by_cases hlt : j < L.length
    · obtain ⟨⟨k', a, v⟩, hav⟩ : ∃ p, L[j]? = some p := ⟨L[j], List.getElem?_eq_getElem hlt⟩
      obtain ⟨d1, d2, d3⟩ := HC.out j k' a v hav
      have e1 := (hB.cell (p := ⟨g, j * 3, none⟩) hgl).trans d1
      have e2 := (hB.cell (p := ⟨g, j * 3 + 1, none⟩) hgl).trans d2
      have e3 := (hB.cell (p := ⟨g, j * 3 + 2, none⟩) hgl).trans d3
      have hst : Hid (best k t (L.take (j + 1)) = bestS k t b (k', a, v)) := by
        show _ = _
        rw [List.take_add_one, hav, HB.out]
        exact best_snoc _ _ _ _
      have hj0 : (0 : Int) ≤ (j : Int) := by omega
      have hj1 : (j : Int) < (L.length : Int) := by omega
      obtain ⟨p1, p2, hp⟩ : ∃ p1 p2, b.getD (0, 0) = (p1, p2) := ⟨_, _, rfl⟩
      rw [hp] at hy
      simp only at hy
      have f1 : wr.cell? ⟨w.heap.size + 1, 0, none⟩ = some (.int .i64 p1) := (cell_of_row _ _ 0 _ 199 (0, 0) hy).trans rfl
      have f2 : wr.cell? ⟨w.heap.size + 1, 1, none⟩ = some (.int .i64 p2) := (cell_of_row _ _ 1 _ 199 (0, 0) hy).trans rfl
      have f3 := frozen_of_row wr (w.heap.size + 1) 0 _ 199 hy
      have f4 := frozen_of_row wr (w.heap.size + 1) 1 _ 199 hy
      have HP := hid hp
      have HX := hid hx
      have HY := hid hy
      clear hav d1 d2 d3 hx hy hp HC HB
      by_cases q1 : k' = k
      · have q1' : (k' == k) = true := by simpa using q1
        have Q1 := hid q1
        clear q1
        by_cases q2 : a ≤ t
        · cases b with
          | none =>
            have hs0 : (none : Option (Int × Int)).isSome = false := rfl
            go_wp2
            go_roundw
            case rel =>
              refine ⟨j + 1, some (a, v), by omega, by go_num, by rw [hst.out]; simp [bestS, Q1.out, q2], rfl, ?_, ?_, ?_⟩
              · rw [Below.heap_alloc _ _ _ (by simp; omega), heap_setCell_other _ _ _ _ (show w.heap.size ≠ w.heap.size + 1 by omega), heap_setCell_other _ _ _ _ (show w.heap.size ≠ w.heap.size + 1 by omega)]; exact HX.out
              · rw [Below.heap_alloc _ _ _ (by simp; omega)]; exact two_set HY.out a v
              · exact ((hB.setCell (p := ⟨w.heap.size + 1, 0, none⟩) (by simp) _).setCell (p := ⟨w.heap.size + 1, 1, none⟩) (by simp) _).alloc (by simp; omega) _
            case measure => simp [intOf]; omega
          | some bb =>
            have hs0 : (some bb).isSome = true := rfl
            have hbb := hid (show bb = (p1, p2) by simpa using HP.out)
            by_cases q3 : p1 < a
            · have q3' : Hid (bb.1 < a) := by show _ < _; rw [hbb.out]; exact q3
              go_wp2
              go_roundw
              case rel =>
                refine ⟨j + 1, some (a, v), by omega, by go_num, by rw [hst.out]; simp [bestS, Q1.out, q2, q3'.out], rfl, ?_, ?_, ?_⟩
                · rw [Below.heap_alloc _ _ _ (by simp; omega), heap_setCell_other _ _ _ _ (show w.heap.size ≠ w.heap.size + 1 by omega), heap_setCell_other _ _ _ _ (show w.heap.size ≠ w.heap.size + 1 by omega)]; exact HX.out
                · rw [Below.heap_alloc _ _ _ (by simp; omega)]; exact two_set HY.out a v
                · exact ((hB.setCell (p := ⟨w.heap.size + 1, 0, none⟩) (by simp) _).setCell (p := ⟨w.heap.size + 1, 1, none⟩) (by simp) _).alloc (by simp; omega) _
              case measure => simp [intOf]; omega
            · have q3' : Hid (¬ bb.1 < a) := by show ¬ _ < _; rw [hbb.out]; exact q3
              go_wp2
              go_roundw
              case rel =>
                refine ⟨j + 1, some bb, by omega, by go_num, by rw [hst.out]; simp [bestS, q3'.out], rfl, ?_, ?_, hB.alloc (by omega) _⟩
                · rw [Below.heap_alloc _ _ _ (by omega)]; exact HX.out
                · rw [Below.heap_alloc _ _ _ (by omega)]; rw [Option.getD_some, hbb.out]; exact HY.out
              case measure => simp [intOf]; omega
        · have q2' := hid q2
          go_wp2
          go_roundw
          case rel =>
            refine ⟨j + 1, b, by omega, by go_num, by rw [hst.out]; simp [bestS, q2'.out], rfl, ?_, ?_, hB.alloc (by omega) _⟩
            · rw [Below.heap_alloc _ _ _ (by omega)]; exact HX.out
            · rw [Below.heap_alloc _ _ _ (by omega)]; rw [HP.out]; exact HY.out
          case measure => simp [intOf]; omega
      · have q1' : (k' == k) = false := by simpa using q1
        have Q1 := hid q1
        clear q1
        go_wp2
        go_roundw
        case rel =>
          refine ⟨j + 1, b, by omega, by go_num, by rw [hst.out]; simp [bestS, Q1.out], rfl, ?_, ?_, hB.alloc (by omega) _⟩
          · rw [Below.heap_alloc _ _ _ (by omega)]; exact HX.out
          · rw [Below.heap_alloc _ _ _ (by omega)]; rw [HP.out]; exact HY.out
        case measure => simp [intOf]; omega
    · have e : L.take j = L := List.take_of_length_le (by omega)
      rw [e] at HB
      have g0 : wr.cell? ⟨w.heap.size, 0, none⟩ = some (.int .i64 0) := (cell_of_row _ _ 0 _ 199 (0, 0) hx).trans rfl
      have g1 : wr.cell? ⟨w.heap.size, 1, none⟩ = some (.int .i64 0) := (cell_of_row _ _ 1 _ 199 (0, 0) hx).trans rfl
      have f0 := frozen_of_row wr w.heap.size 0 _ 199 hx
      have f1 := frozen_of_row wr w.heap.size 1 _ 199 hx
      cases b with
      | none =>
        have hs0 : (none : Option (Int × Int)).isSome = false := rfl
        clear e HC hx hy
        go_wp2
        refine bodyPost_ret (v := .tuple #[.agg #[.int .i64 0, .int .i64 0], .int .i64 8]) (by simp [results, Tryz.results135, go_sem, g0, g1]) rfl ⟨by rw [← HB.out]; rfl, ?_⟩
        exact (hB.setCell (p := ⟨w.heap.size, 0, none⟩) (by simp) _).setCell (p := ⟨w.heap.size, 1, none⟩) (by simp) _
      | some bb =>
        obtain ⟨p1, p2⟩ := bb
        have hs0 : (some (p1, p2)).isSome = true := rfl
        simp only [Option.getD_some] at hy
        have k0 : wr.cell? ⟨w.heap.size + 1, 0, none⟩ = some (.int .i64 p1) := (cell_of_row _ _ 0 _ 199 (0, 0) hy).trans rfl
        have k1 : wr.cell? ⟨w.heap.size + 1, 1, none⟩ = some (.int .i64 p2) := (cell_of_row _ _ 1 _ 199 (0, 0) hy).trans rfl
        clear e HC hx hy
        go_wp2
        refine bodyPost_ret (v := .tuple #[.agg #[.int .i64 p1, .int .i64 p2], .int .i64 0]) (by simp [results, Tryz.results135, go_sem, g0, g1]) rfl ⟨by rw [← HB.out]; rfl, ?_⟩
        exact (hB.setCell (p := ⟨w.heap.size, 0, none⟩) (by simp) _).setCell (p := ⟨w.heap.size, 1, none⟩) (by simp) _
end Go.Proofs.YtjefgmeejhakbaaGreatDoor
