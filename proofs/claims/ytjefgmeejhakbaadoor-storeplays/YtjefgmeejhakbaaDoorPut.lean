/- (*Store).put over a store as it lies in memory. -/
import Derived.Test.YtjefgmeejhakbaaDoorPutWalks
namespace Go.Proofs.YtjefgmeejhakbaaDoor
open Go.RowKit

/-- A key's versions when it has x at t, t not below its last one's time. -/
def putP (t x : Int) (l : List (Int × Int)) : List (Int × Int) := if l.getLast?.map Prod.fst = some t then l.dropLast ++ [(t, x)] else l ++ [(t, x)]
theorem putP_nil (t x : Int) : putP t x [] = [(t, x)] := by simp [putP]
theorem putP_same (t x y : Int) (l : List (Int × Int)) : putP t x (l ++ [(t, y)]) = l ++ [(t, x)] := by simp [putP]
theorem putP_later (t x u y : Int) (l : List (Int × Int)) (h : u ≠ t) : putP t x (l ++ [(u, y)]) = l ++ [(u, y)] ++ [(t, x)] := by simp [putP, h]

section
variable {w w' : World} {base s : Nat} {last : Int} {vs : List Value} {ks : List (List (Int × Int))}

/-- One key's row is turned. -/
theorem Sto.turn (h : Sto w base s last vs ks) {k : Nat} {v v' : Value} (hv : vs[k]? = some v) (l' : List (Int × Int))
    (hs : w'.heap[s]? = some (.cells (Value.int .i64 last :: vs.set k v').toArray 26 (0, 0))) (ho : w'.ownsRow base 44 2 v' l'.length (vrow l'))
    (hr : ∀ g, InRows vs g → v.ownBlock ≠ some g → w'.heap[g]? = w.heap[g]?) (hat : v'.ownBlock = v.ownBlock ∨ ∀ g, v'.ownBlock = some g → w.heap.size ≤ g) :
    Sto w' base s last (vs.set k v') (ks.set k l') := by
  have hk : k < vs.length := (List.getElem?_eq_some_iff.1 hv).1
  refine ⟨hs, by simp [h.lv], by simp [h.lk], ?_, ?_, h.sb⟩
  · intro j u l hu hl
    by_cases e : j = k
    · subst e
      rw [List.getElem?_set_self hk] at hu
      rw [List.getElem?_set_self (by have := h.lv; have := h.lk; omega)] at hl
      cases hu; cases hl
      exact ho
    · rw [List.getElem?_set_ne (by omega)] at hu hl
      have ho' := h.own j u l hu hl
      refine ⟨ho'.1, ?_⟩
      rcases ho'.2 with hn | ⟨g, cap, cur, hg, hb, hgg, r⟩
      · exact .inl hn
      · refine .inr ⟨g, cap, cur, hg, hb, (hr g ⟨u, List.mem_of_getElem? hu, by rw [hg]; rfl⟩ (fun hx => e ?_)).trans hgg, r⟩
        exact (h.apart k j v u g hv hu hx (by rw [hg]; rfl)).symm
  · have old : ∀ j u g, j ≠ k → vs[j]? = some u → u.ownBlock = some g → v'.ownBlock = some g → False := by
      intro j u g hj hu hg hg'
      rcases hat with e | e
      · rw [e] at hg'
        exact hj (h.apart j k u v g hu hv hg hg')
      · have h1 := e g hg'
        have h2 := (h.row ⟨u, List.mem_of_getElem? hu, hg⟩).2
        omega
    intro i j a b g ha hb hga hgb
    by_cases ei : i = k
    · by_cases ej : j = k
      · omega
      · subst ei
        rw [List.getElem?_set_self hk] at ha
        rw [List.getElem?_set_ne (by omega)] at hb
        cases ha
        exact (old j b g ej hb hgb hga).elim
    · by_cases ej : j = k
      · subst ej
        rw [List.getElem?_set_self hk] at hb
        rw [List.getElem?_set_ne (by omega)] at ha
        cases hb
        exact (old i a g ei ha hga hgb).elim
      · rw [List.getElem?_set_ne (by omega)] at ha hb
        exact h.apart i j a b g ha hb hga hgb

/-- .. and what is left of the rest. -/
theorem Kept.turn (_h : Sto w base s last vs ks) {k : Nat} {v v' : Value} (hv : vs[k]? = some v) (hos : w'.os = w.os) (htp : w'.tape = w.tape) (hout : w'.output = w.output) (hsz : w.heap.size ≤ w'.heap.size)
    (hb : ∀ b, b < w.heap.size → b ≠ s → v.ownBlock ≠ some b → w'.heap[b]? = w.heap[b]?) (hat : v'.ownBlock = v.ownBlock ∨ ∀ g, v'.ownBlock = some g → w.heap.size ≤ g) :
    Kept s vs (vs.set k v') w w' := by
  refine ⟨hos, htp, hout, hsz, fun b h1 h2 h3 => hb b h1 h2 (fun e => h3 ⟨v, List.mem_of_getElem? hv, e⟩), ?_⟩
  rintro g ⟨u, hu, hg⟩
  obtain ⟨j, hj, e⟩ := List.mem_iff_getElem.1 hu
  by_cases ej : j = k
  · subst ej
    rw [List.getElem_set_self] at e
    subst e
    rcases hat with e | e
    · exact .inl ⟨v, List.mem_of_getElem? hv, by rw [← e]; exact hg⟩
    · exact .inr (e g hg)
  · rw [List.getElem_set_ne (by omega)] at e
    exact .inl ⟨u, by rw [← e]; exact List.getElem_mem _, hg⟩

theorem set_cells (last : Int) (vs : List Value) (k : Nat) (v : Value) : ((Value.int .i64 last :: vs).toArray).setIfInBounds (1 + k) v = (Value.int .i64 last :: vs.set k v).toArray := by
  rw [Nat.add_comm]; simp

theorem ownBlock_eq (g n cap : Nat) : (Value.slice (some ⟨g, 0, none⟩) n cap).ownBlock = some g := rfl

/-- A row that has grown at its end, and lies in the store's cell. -/
theorem put_grown (h : Sto w base s last vs ks) {k : Nat} {v : Value} (hv : vs[k]? = some v) (l' : List (Int × Int)) (gg cap n : Nat) (w1 : World) (hn : n = l'.length)
    (ho : w1.ownsRow base 44 2 (.slice (some ⟨gg, 0, none⟩) n cap) n (vrow l')) (hg : w.grownBy w1 v.ownBlock) (hat : v.ownBlock = some gg ∨ w.heap.size ≤ gg) :
    Sto (w1.setCell ⟨s, 1 + k, none⟩ (.slice (some ⟨gg, 0, none⟩) n cap)) base s last (vs.set k (.slice (some ⟨gg, 0, none⟩) n cap)) (ks.set k l') ∧
      Kept s vs (vs.set k (.slice (some ⟨gg, 0, none⟩) n cap)) w (w1.setCell ⟨s, 1 + k, none⟩ (.slice (some ⟨gg, 0, none⟩) n cap)) := by
  subst hn
  have hsr : some s ≠ v.ownBlock := fun e => by
    have := (h.row ⟨v, List.mem_of_getElem? hv, e.symm⟩).1
    have := h.sb
    omega
  have hs1 : w1.heap[s]? = some (.cells (Value.int .i64 last :: vs).toArray 26 (0, 0)) := (hg.block s h.lt hsr).trans h.blk
  have hat' : (Value.slice (some ⟨gg, 0, none⟩) l'.length cap).ownBlock = v.ownBlock ∨ ∀ g, (Value.slice (some ⟨gg, 0, none⟩) l'.length cap).ownBlock = some g → w.heap.size ≤ g := by
    rcases hat with e | e
    · exact .inl e.symm
    · exact .inr (fun g hg => by rw [ownBlock_eq] at hg; cases hg; exact e)
  have hbb := (ho.lt gg rfl).1
  have hsb := h.sb
  refine ⟨h.turn hv l' ?_ ?_ ?_ hat', Kept.turn h hv hg.os hg.tape hg.output (by have := hg.size; simpa using this) ?_ hat'⟩
  · rw [heap_setCell_same w1 s (1 + k) _ 26 _ hs1, set_cells]
  · refine ⟨ho.1, ?_⟩
    rcases ho.2 with hn | ⟨g, cp, cur, e, hb, hgg, r⟩
    · exact .inl hn
    · refine .inr ⟨g, cp, cur, e, hb, ?_, r⟩
      rw [heap_setCell_other _ _ _ _ (show g ≠ s by omega)]
      exact hgg
  · intro g hr hne
    have := h.row hr
    rw [heap_setCell_other _ _ _ _ (show g ≠ s by omega)]
    exact hg.block g this.2 (fun e => hne e.symm)
  · intro b hb hbs hne
    rw [heap_setCell_other _ _ _ _ hbs]
    exact hg.block b hb (fun e => hne e.symm)
end

set_option maxHeartbeats 1000000 in
theorem put_any (base s : Nat) (last : Int) (vs : List Value) (ks : List (List (Int × Int))) (k : Nat) (l : List (Int × Int)) (t x : Int) (w : World) (h : Sto w base s last vs ks) (hbase : base ≤ w.heap.size)
    (hl : ks[k]? = some l) (hlen : l.length < 1000000) :
    Calls Tryd.prog 46 #[.pointer (some ⟨s, 0, none⟩), .int .i64 t, .agg #[.int .i64 (k : Int), .int .i64 x]] w fun e w' => e = .returned (.tuple #[]) ∧
      ∃ vs', Sto w' base s last vs' (ks.set k (putP t x l)) ∧ Kept s vs vs' w w' := by
  have hk : k < 10 := by have := (List.getElem?_eq_some_iff.1 hl).1; have := h.lk; omega
  obtain ⟨v, hv⟩ : ∃ v, vs[k]? = some v := ⟨vs[k]'(by have := h.lv; omega), List.getElem?_eq_getElem _⟩
  have ho := h.own k v l hv hl
  have hsr : some s ≠ v.ownBlock := fun e => by
    have := (h.row ⟨v, List.mem_of_getElem? hv, e.symm⟩).1
    have := h.sb
    omega
  rcases List.eq_nil_or_concat l with rfl | ⟨l0, ⟨u, y⟩, rfl⟩
  · obtain ⟨ad, cap, rfl⟩ : ∃ ad cap, v = .slice ad 0 cap := by
      rcases ho.2 with ⟨e, _⟩ | ⟨g, cap, cur, e, _⟩
      · exact ⟨none, 0, e⟩
      · exact ⟨_, _, e⟩
    refine (put_first s k cap base ad t x (vrow []) w hk (h.cell hv) (h.free _) hsr (fun e => ?_) ho hbase).mono ?_
    · have := (h.row ⟨_, List.mem_of_getElem? hv, e.symm⟩).2
      omega
    · rintro e w' ⟨rfl, gg, cap', w1, rfl, hown, hg, hat, _⟩
      rw [putP_nil]
      exact ⟨rfl, _, put_grown h hv [(t, x)] gg cap' 1 w1 rfl hown hg hat⟩
  · simp only [List.concat_eq_append] at *
    obtain ⟨g, cap, cur, rfl, hgb, hgg, hcap, hml, hsz, htake⟩ : ∃ g cap cur, v = .slice (some ⟨g, 0, none⟩) (l0.length + 1) cap ∧ base ≤ g ∧ w.heap[g]? = some (.cells cur 44 (0, 0)) ∧ l0.length + 1 ≤ cap ∧ cap ≤ maxLen ∧ cur.size = cap * 2 ∧
        cur.toList.take ((l0.length + 1) * 2) = vrow (l0 ++ [(u, y)]) := by
      rcases ho.2 with ⟨_, e⟩ | ⟨g, cap, cur, e, h1, h2, h3, h4, h5, h6⟩
      · simp at e
      · simp only [List.length_append, List.length_cons, List.length_nil, Nat.zero_add] at e h3 h6
        exact ⟨g, cap, cur, e, h1, h2, h3, h4, h5, h6⟩
    have hcs := ho.cells (g := g) rfl
    have hget := vrow_get (l0 ++ [(u, y)]) l0.length u y (by simp)
    have c1 := hcs _ _ hget.1
    have c2 := hcs _ _ hget.2
    rw [addr_add] at c1 c2
    have hm : l0.length < 1000000 := by simp at hlen; omega
    by_cases hut : u = t
    · subst hut
      rw [putP_same]
      refine (put_same s k g l0.length cap u x y w hk hm (h.cell hv) c1 c2 (frozen_of_row w g _ cur 44 hgg)).mono ?_
      rintro e w' ⟨rfl, n, rfl⟩
      have hsg : s ≠ g := by have := h.sb; omega
      have hW : ((w.alloc (.cells #[.int .i64 (k : Int), .int .i64 x] 64)).drewN n).heap[g]? = some (.cells cur 44 (0, 0)) := (Below.heap_alloc w _ g (Array.getElem?_eq_some_iff.1 hgg).1).trans hgg
      refine ⟨rfl, vs, ?_⟩
      have e1 : vs.set k (.slice (some ⟨g, 0, none⟩) (l0.length + 1) cap) = vs := by
        apply List.ext_getElem?
        intro j
        by_cases ej : j = k
        · subst ej; rw [List.getElem?_set_self (List.getElem?_eq_some_iff.1 hv).1, hv]
        · rw [List.getElem?_set_ne (by omega)]
      have hold : ∀ b, b < w.heap.size → b ≠ g → (((w.alloc (.cells #[.int .i64 (k : Int), .int .i64 x] 64)).drewN n).setCell ⟨g, l0.length * 2 + 1, none⟩ (.int .i64 x)).heap[b]? = w.heap[b]? := fun b hb hne =>
        (heap_setCell_other _ _ _ _ hne).trans (Below.heap_alloc w _ b hb)
      have r1 := h.turn (w' := ((w.alloc (.cells #[.int .i64 (k : Int), .int .i64 x] 64)).drewN n).setCell ⟨g, l0.length * 2 + 1, none⟩ (.int .i64 x)) hv (l0 ++ [(u, x)]) (v' := .slice (some ⟨g, 0, none⟩) (l0.length + 1) cap)
        (by rw [e1]; exact (hold s h.lt hsg).trans h.blk)
        ⟨by rw [vrow_length], .inr ⟨g, cap, _, by simp, hgb, heap_setCell_same _ g _ cur 44 _ hW, by simpa using hcap, hml, by simpa using hsz, by
          have e2 : vrow (l0 ++ [(u, x)]) = (vrow (l0 ++ [(u, y)])).set (l0.length * 2 + 1) (.int .i64 x) := by
            rw [vrow_append, vrow_append, ← vrow_length l0, List.set_append_right _ _ (by omega)]
            simp [vrow]
          rw [e2, ← htake]
          simp [List.take_set]⟩⟩
        (fun b hb hne => hold b (h.row hb).2 (fun e => hne (by rw [e]; rfl))) (.inl rfl)
      rw [e1] at r1
      refine ⟨r1, ?_⟩
      have r2 := Kept.turn (w' := ((w.alloc (.cells #[.int .i64 (k : Int), .int .i64 x] 64)).drewN n).setCell ⟨g, l0.length * 2 + 1, none⟩ (.int .i64 x)) (v' := .slice (some ⟨g, 0, none⟩) (l0.length + 1) cap) h hv rfl rfl rfl (by simp)
        (fun b hb hbs hne => hold b hb (fun e => hne (by rw [e]; rfl))) (.inl rfl)
      rw [e1] at r2
      exact r2
    · rw [putP_later _ _ _ _ _ hut]
      refine (put_later s k g l0.length cap base t x u (vrow (l0 ++ [(u, y)])) w hk hm (h.cell hv) c1 (by simpa using hut) (h.free _) (by have := h.sb; omega) (by simpa using ho) hbase).mono ?_
      rintro e w' ⟨rfl, gg, cap', w1, rfl, hown, hg, hat, _⟩
      refine ⟨rfl, _, put_grown h hv (l0 ++ [(u, y)] ++ [(t, x)]) gg cap' (l0.length + 2) w1 (by simp) (by rw [vrow_append]; exact hown) hg (hat.elim (fun e => .inl (by rw [e]; rfl)) .inr)⟩

end Go.Proofs.YtjefgmeejhakbaaDoor
