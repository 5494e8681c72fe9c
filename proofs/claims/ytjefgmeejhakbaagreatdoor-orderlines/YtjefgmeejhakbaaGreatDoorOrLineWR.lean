/- order.Line. -/
import Derived.Test.YtjefgmeejhakbaaGreatDoorOrEdgesWR
import Derived.Test.YtjefgmeejhakbaaGreatDoorOrBinR
import Derived.Test.YtjefgmeejhakbaaGreatDoorOrLeastR
namespace Go.Proofs.YtjefgmeejhakbaaGreatDoor
open Go.RowKit
theorem cnt_all {E : List (Int × Int)} {left : List Int} (h : ∀ a b, (a, b) ∈ E → a ∈ left) (y : Int) : cntP E left y = E.countP (fun e => e.2 == y) := by
  unfold cntP
  refine List.countP_congr (fun e he => ?_)
  have := h e.1 e.2 he
  simp [this]
theorem KS.start {l : List Opp} {E : List (Int × Int)} (hE : IsEdges l E) {q : List Int} (hq : q.Nodup) (hm : ∀ y, y ∈ q ↔ y ∈ txsP l ∧ E.countP (fun e => e.2 == y) = 0) :
    KS E (txsP l) (fun y => if y ∈ txsP l then some ((E.countP (fun e => e.2 == y) : Nat) : Int) else none) q := by
  have hc := cnt_all (E := E) (left := txsP l) (fun a b hab => (edges_tx hE hab).1)
  exact ⟨fun y => by rw [hc], fun y => by rw [hm y, ← cnt_free, hc], hq, nodup_txs l, fun a b hab _ => (edges_tx hE hab).2⟩
theorem aMap_txs (l : List Opp) (E : List (Int × Int)) : aMap (l.map (fun o => o.1)) E = fun y => (if y ∈ txsP l then some ((E.countP (fun e => e.2 == y) : Nat) : Int) else none).map (Value.int .i64) := by
  funext y
  unfold aMap
  have : y ∈ txsP l ↔ y ∈ l.map (fun o => o.1) := by unfold txsP; exact mem_once _
  by_cases h : y ∈ l.map (fun o => o.1)
  · rw [if_pos h, if_pos (this.2 h)]; rfl
  · rw [if_neg h, if_neg (fun h2 => h (this.1 h2))]; rfl
theorem nodup_le_of_subset {q s : List Int} (hq : q.Nodup) (h : ∀ y ∈ q, y ∈ s) : q.length ≤ s.length := by
  induction q generalizing s with
  | nil => simp
  | cons a r ih =>
    obtain ⟨h1, h2⟩ := List.nodup_cons.1 hq
    have ha := h a (by simp)
    have := ih (s := s.erase a) h2 (fun y hy => by
      have hya : y ≠ a := fun e => h1 (e ▸ hy)
      exact (List.mem_erase_of_ne hya).2 (h y (List.mem_cons_of_mem _ hy)))
    rw [List.length_erase_of_mem ha] at this
    have hp := List.length_pos_of_mem ha
    simp only [List.length_cons]
    omega
theorem imap_len {w : World} {b n : Nat} {f : Int → Option Value} (h : IMap w b n f) (ty : TypeId) : ∃ k : Nat, (Builtin.len_ #[69] ty #[.map (some b)]).run Tryz.prog w = .ok (.int .i64 k) w ∧ (k = 0 ↔ ∀ y, I64 y → f y = none) := by
  obtain ⟨D, hD, hf⟩ := h
  refine ⟨Maps.size D, hD.len Tryz.underlying69 ty, ?_⟩
  obtain ⟨w', _, r1, _, _⟩ := hD.range lawI Tryz.underlying69
  rcases r1.next lawI ty with ⟨h0, hl, _⟩ | ⟨key, v, kl, y, w2, cnt2, hkey, hlk, _, _, _, _, hlt, _⟩
  · constructor
    · intro _ y _
      have h1 := (hf y).1
      rw [hl] at h1
      cases hh : f y with
      | none => rfl
      | some u => rw [hh] at h1; cases h1
    · intro _; exact h0
  · obtain ⟨x, _, rfl, hwf⟩ := Maps.keyOf_int_inv Tryz.underlying3 hkey
    have h1 := (hf x).1
    rw [hlk] at h1
    constructor
    · intro h2; omega
    · intro h2
      have hx : I64 x := by
        simp [Lit.wf, IntKind.min, IntKind.max, IntKind.signed, IntKind.bits] at hwf
        unfold I64
        omega
      rw [h2 x hx] at h1
      cases h1
structure LSt (w wr : World) (tv : Value) (E : List (Int × Int)) (b nb : Nat) (f : Int → Option Value) (Q : Nat) (qv : Value) (d : Array Int) (ov : Value) (out : List Int) : Prop where
  t : wr.ownsRow w.heap.size 78 2 tv E.length (vrow E)
  m : IMap wr b nb f
  q : QAt wr Q qv d
  o : wr.ownsRow w.heap.size 3 1 ov out.length (intsV out)
  hd : ∀ g, qv.ownBlock = some g → ov.ownBlock ≠ some g
  bel : Below w.heap.size w wr
  bb : w.heap.size ≤ b
  bq : ∀ g, qOwn Q qv g → w.heap.size ≤ g
theorem row_block {w : World} {N : Nat} {e : TypeId} {size : Nat} {v : Value} {n : Nat} {xs : List Value} (h : w.ownsRow N e size v n xs) {g : Nat} (hg : v.ownBlock = some g) : ∃ cur, w.heap[g]? = some (.cells cur e (0, 0)) := by
  rcases h.2 with ⟨e1, _⟩ | ⟨g', cap, cur, e1, _, hc, _⟩
  · rw [e1] at hg; cases hg
  · rw [e1] at hg; cases hg; exact ⟨cur, hc⟩
section
variable {w wr w' : World} {tv : Value} {E : List (Int × Int)} {b nb : Nat} {f : Int → Option Value} {Q : Nat} {qv : Value} {d : Array Int} {ov : Value} {out : List Int}
theorem LSt.tq (h : LSt w wr tv E b nb f Q qv d ov out) {g : Nat} (hg : tv.ownBlock = some g) : ¬ qOwn Q qv g := fun hq => by
  obtain ⟨c1, h1⟩ := row_block h.t hg
  rcases hq with rfl | e
  · rw [h.q.blk] at h1; simp at h1
  · obtain ⟨c2, h2⟩ := row_block h.q.row e
    rw [h1] at h2; simp at h2
theorem LSt.to (h : LSt w wr tv E b nb f Q qv d ov out) {g : Nat} (hg : tv.ownBlock = some g) : ov.ownBlock ≠ some g := fun e => by
  obtain ⟨c1, h1⟩ := row_block h.t hg
  obtain ⟨c2, h2⟩ := row_block h.o e
  rw [h1] at h2; simp at h2
theorem LSt.oq (h : LSt w wr tv E b nb f Q qv d ov out) {g : Nat} (hg : ov.ownBlock = some g) : ¬ qOwn Q qv g := fun hq => by
  obtain ⟨c1, h1⟩ := row_block h.o hg
  rcases hq with rfl | e
  · rw [h.q.blk] at h1; simp at h1
  · exact h.hd g e hg
theorem LSt.bn (h : LSt w wr tv E b nb f Q qv d ov out) : ¬ qOwn Q qv b ∧ tv.ownBlock ≠ some b ∧ ov.ownBlock ≠ some b := by
  refine ⟨fun hq => ?_, fun e => ?_, fun e => ?_⟩
  · rcases hq with e | e
    · exact h.m.ne h.q.blk e
    · obtain ⟨c, hc⟩ := row_block h.q.row e
      exact h.m.ne hc rfl
  · obtain ⟨c, hc⟩ := row_block h.t e
    exact h.m.ne hc rfl
  · obtain ⟨c, hc⟩ := row_block h.o e
    exact h.m.ne hc rfl
theorem LSt.below (h : LSt w wr tv E b nb f Q qv d ov out) (hB : Below wr.heap.size wr w') : LSt w w' tv E b nb f Q qv d ov out :=
  ⟨owns_same h.t (fun g e => hB.block g (h.t.lt g e).2), h.m.same (hB.block b h.m.lt), h.q.below hB, owns_same h.o (fun g e => hB.block g (h.o.lt g e).2), h.hd, h.bel.trans (hB.mono h.bel.size), h.bb, h.bq⟩
theorem LSt.queue (h : LSt w wr tv E b nb f Q qv d ov out) {qv' : Value} {d' : Array Int} (hk : KeptO (qOwn Q qv) (qOwn Q qv') wr w') (hq : QAt w' Q qv' d') : LSt w w' tv E b nb f Q qv' d' ov out :=
  ⟨owns_same h.t (fun g e => hk.block g (h.t.lt g e).2 (h.tq e)), h.m.same (hk.block b h.m.lt h.bn.1), hq, owns_same h.o (fun g e => hk.block g (h.o.lt g e).2 (h.oq e)),
    fun g e e2 => (hk.sub g (.inr e)).elim (h.oq e2) (fun h3 => by have := (h.o.lt g e2).2; omega),
    h.bel.trans (hk.below h.bel.size h.bq), h.bb, fun g hg => (hk.sub g hg).elim (h.bq g) (fun h3 => Nat.le_trans h.bel.size h3)⟩
theorem LSt.map (h : LSt w wr tv E b nb f Q qv d ov out) {nb' : Nat} {f' : Int → Option Value} (hg : wr.grownBy w' (some b)) (hm : IMap w' b nb' f') : LSt w w' tv E b nb' f' Q qv d ov out := by
  have hk : ∀ g, g < wr.heap.size → g ≠ b → w'.heap[g]? = wr.heap[g]? := fun g hl hne => hg.block g hl (fun e => hne (by cases e; rfl))
  exact ⟨owns_same h.t (fun g e => hk g (h.t.lt g e).2 (fun e2 => h.bn.2.1 (e2 ▸ e))), hm, h.q.same (fun g e => hk g (h.q.own_lt e) (fun e2 => h.bn.1 (e2 ▸ e))), owns_same h.o (fun g e => hk g (h.o.lt g e).2 (fun e2 => h.bn.2.2 (e2 ▸ e))), h.hd, h.bel.grown hg h.bel.size (fun k e => by cases e; exact h.bb), h.bb, h.bq⟩
theorem LSt.outs (h : LSt w wr tv E b nb f Q qv d ov out) {ov' : Value} {out' : List Int} (hg : wr.grownBy w' ov.ownBlock) (ho : w'.ownsRow w.heap.size 3 1 ov' out'.length (intsV out')) (hs : ∀ g, ov'.ownBlock = some g → ov.ownBlock = some g ∨ wr.heap.size ≤ g) : LSt w w' tv E b nb f Q qv d ov' out' :=
  ⟨owns_same h.t (fun g e => hg.block g (h.t.lt g e).2 (fun e2 => h.to e e2.symm)), h.m.same (hg.block b h.m.lt (fun e => h.bn.2.2 e.symm)), h.q.same (fun g e => hg.block g (h.q.own_lt e) (fun e2 => h.oq e2.symm e)), ho,
    fun g e e2 => (hs g e2).elim (h.hd g e) (fun h3 => by have := (h.q.row.lt g e).2; omega),
    h.bel.grown hg h.bel.size (fun k e => (h.o.lt k e).1), h.bb, h.bq⟩
end
theorem upd_del (M : Int → Option Int) (x : Int) : updT (fun y => (M y).map (Value.int .i64)) x none = fun y => ((fun y => if y = x then none else M y) y).map (Value.int .i64) := by
  funext y
  by_cases e : y = x
  · subst e; rw [updT_same]; simp
  · rw [updT_other _ _ e]; simp [e]
theorem upd_put (M : Int → Option Int) (x m : Int) : updT (fun y => (M y).map (Value.int .i64)) x (some (.int .i64 m)) = fun y => ((fun y => if y = x then some m else M y) y).map (Value.int .i64) := by
  funext y
  by_cases e : y = x
  · subst e; rw [updT_same]; simp
  · rw [updT_other _ _ e]; simp [e]
end Go.Proofs.YtjefgmeejhakbaaGreatDoor
