/- EsPut EkAsk EkDropP: put together for a claim. -/
import Derived.Test.YtjefgmeejhakbaaGreatDoorEsPutWalksQ
import Derived.Test.YtjefgmeejhakbaaGreatDoorMgAEQ
/- (*Store).put over a store as it lies in memory. -/
namespace Go.Proofs.YtjefgmeejhakbaaGreatDoor
open Go.RowKit
variable {P : Tail}
def putP (t x : Int) (l : List (Int × Int)) : List (Int × Int) := if l.getLast?.map Prod.fst = some t then l.dropLast ++ [(t, x)] else l ++ [(t, x)]
theorem putP_nil (t x : Int) : putP t x [] = [(t, x)] := by simp [putP]
theorem putP_same (t x y : Int) (l : List (Int × Int)) : putP t x (l ++ [(t, y)]) = l ++ [(t, x)] := by simp [putP]
theorem putP_later (t x u y : Int) (l : List (Int × Int)) (h : u ≠ t) : putP t x (l ++ [(u, y)]) = l ++ [(u, y)] ++ [(t, x)] := by simp [putP, h]
section
variable {w w' : World} {base s : Nat} {last : Int} {vs : List Value} {ks : List (List (Int × Int))}
theorem Sto.turn (h : Sto P w base s last vs ks) {k : Nat} {v v' : Value} (hv : vs[k]? = some v) (l' : List (Int × Int))
    (hs : w'.heap[s]? = some (.cells (P.cells last (vs.set k v')) P.tt (0, 0))) (ho : w'.ownsRow base 199 2 v' l'.length (vrow l'))
    (hr : ∀ g, InRows vs g → v.ownBlock ≠ some g → w'.heap[g]? = w.heap[g]?) (hat : v'.ownBlock = v.ownBlock ∨ ∀ g, v'.ownBlock = some g → w.heap.size ≤ g) :
    Sto P w' base s last (vs.set k v') (ks.set k l') := by
  have hk : k < vs.length := (List.getElem?_eq_some_iff.1 hv).1
  refine ⟨hs, by simp [h.lv], by simp [h.lk], ?_, ?_, h.sb⟩
  · intro j u l hu hl
    by_cases e : j = k
    · subst e
      rw [List.getElem?_set_self hk] at hu
      rw [List.getElem?_set_self (by have := h.lv; have := h.lk; omega)] at hl
      cases hu; cases hl
      exact ho
    · rw [List.getElem?_set_ne (by omega)] at hu hl
      have ho' := h.own j u l hu hl
      refine ⟨ho'.1, ?_⟩
      rcases ho'.2 with hn | ⟨g, cap, cur, hg, hb, hgg, r⟩
      · exact .inl hn
      · refine .inr ⟨g, cap, cur, hg, hb, (hr g ⟨u, List.mem_of_getElem? hu, by rw [hg]; rfl⟩ (fun hx => e ?_)).trans hgg, r⟩
        exact (h.apart k j v u g hv hu hx (by rw [hg]; rfl)).symm
  · have old : ∀ j u g, j ≠ k → vs[j]? = some u → u.ownBlock = some g → v'.ownBlock = some g → False := by
      intro j u g hj hu hg hg'
      rcases hat with e | e
      · rw [e] at hg'
        exact hj (h.apart j k u v g hu hv hg hg')
      · have h1 := e g hg'
        have h2 := (h.row ⟨u, List.mem_of_getElem? hu, hg⟩).2
        omega
    intro i j a b g ha hb hga hgb
    by_cases ei : i = k
    · by_cases ej : j = k
      · omega
      · subst ei
        rw [List.getElem?_set_self hk] at ha
        rw [List.getElem?_set_ne (by omega)] at hb
        cases ha
        exact (old j b g ej hb hgb hga).elim
    · by_cases ej : j = k
      · subst ej
        rw [List.getElem?_set_self hk] at hb
        rw [List.getElem?_set_ne (by omega)] at ha
        cases hb
        exact (old i a g ei ha hga hgb).elim
      · rw [List.getElem?_set_ne (by omega)] at ha hb
        exact h.apart i j a b g ha hb hga hgb
theorem Kept.turn (_h : Sto P w base s last vs ks) {k : Nat} {v v' : Value} (hv : vs[k]? = some v) (hos : w'.os = w.os) (htp : w'.tape = w.tape) (hout : w'.output = w.output) (hsz : w.heap.size ≤ w'.heap.size)
    (hb : ∀ b, b < w.heap.size → b ≠ s → v.ownBlock ≠ some b → w'.heap[b]? = w.heap[b]?) (hat : v'.ownBlock = v.ownBlock ∨ ∀ g, v'.ownBlock = some g → w.heap.size ≤ g) :
    Kept s vs (vs.set k v') w w' := by
  refine ⟨hos, htp, hout, hsz, fun b h1 h2 h3 => hb b h1 h2 (fun e => h3 ⟨v, List.mem_of_getElem? hv, e⟩), ?_⟩
  rintro g ⟨u, hu, hg⟩
  obtain ⟨j, hj, e⟩ := List.mem_iff_getElem.1 hu
  by_cases ej : j = k
  · subst ej
    rw [List.getElem_set_self] at e
    subst e
    rcases hat with e | e
    · exact .inl ⟨v, List.mem_of_getElem? hv, by rw [← e]; exact hg⟩
    · exact .inr (e g hg)
  · rw [List.getElem_set_ne (by omega)] at e
    exact .inl ⟨u, by rw [← e]; exact List.getElem_mem _, hg⟩
theorem ownBlock_eq (g n cap : Nat) : (Value.slice (some ⟨g, 0, none⟩) n cap).ownBlock = some g := rfl
theorem put_grown (h : Sto P w base s last vs ks) {k : Nat} {v : Value} (hv : vs[k]? = some v) (l' : List (Int × Int)) (gg cap n : Nat) (w1 : World) (hn : n = l'.length)
    (ho : w1.ownsRow base 199 2 (.slice (some ⟨gg, 0, none⟩) n cap) n (vrow l')) (hg : w.grownBy w1 v.ownBlock) (hat : v.ownBlock = some gg ∨ w.heap.size ≤ gg) :
    Sto P (w1.setCell ⟨s, 1 + k, none⟩ (.slice (some ⟨gg, 0, none⟩) n cap)) base s last (vs.set k (.slice (some ⟨gg, 0, none⟩) n cap)) (ks.set k l') ∧
      Kept s vs (vs.set k (.slice (some ⟨gg, 0, none⟩) n cap)) w (w1.setCell ⟨s, 1 + k, none⟩ (.slice (some ⟨gg, 0, none⟩) n cap)) := by
  subst hn
  have hsr : some s ≠ v.ownBlock := fun e => by
    have := (h.row ⟨v, List.mem_of_getElem? hv, e.symm⟩).1
    have := h.sb
    omega
  have hs1 : w1.heap[s]? = some (.cells (P.cells last vs) P.tt (0, 0)) := (hg.block s h.lt hsr).trans h.blk
  have hat' : (Value.slice (some ⟨gg, 0, none⟩) l'.length cap).ownBlock = v.ownBlock ∨ ∀ g, (Value.slice (some ⟨gg, 0, none⟩) l'.length cap).ownBlock = some g → w.heap.size ≤ g := by
    rcases hat with e | e
    · exact .inl e.symm
    · exact .inr (fun g hg => by rw [ownBlock_eq] at hg; cases hg; exact e)
  have hbb := (ho.lt gg rfl).1
  have hsb := h.sb
  refine ⟨h.turn hv l' ?_ ?_ ?_ hat', Kept.turn h hv hg.os hg.tape hg.output (by have := hg.size; simpa using this) ?_ hat'⟩
  · rw [heap_setCell_same w1 s (1 + k) _ P.tt _ hs1, P.setk last (List.getElem?_eq_some_iff.1 hv).1]
  · refine ⟨ho.1, ?_⟩
    rcases ho.2 with hn | ⟨g, cp, cur, e, hb, hgg, r⟩
    · exact .inl hn
    · refine .inr ⟨g, cp, cur, e, hb, ?_, r⟩
      rw [heap_setCell_other _ _ _ _ (show g ≠ s by omega)]
      exact hgg
  · intro g hr hne
    have := h.row hr
    rw [heap_setCell_other _ _ _ _ (show g ≠ s by omega)]
    exact hg.block g this.2 (fun e => hne e.symm)
  · intro b hb hbs hne
    rw [heap_setCell_other _ _ _ _ hbs]
    exact hg.block b hb (fun e => hne e.symm)
end
set_option maxHeartbeats 1000000 in
theorem put_any (base s : Nat) (last : Int) (vs : List Value) (ks : List (List (Int × Int))) (k : Nat) (l : List (Int × Int)) (t x : Int) (w : World) (h : Sto P w base s last vs ks) (hbase : base ≤ w.heap.size)
    (hl : ks[k]? = some l) (hlen : l.length < 1000000) :
    Calls Tryz.prog 132 #[.pointer (some ⟨s, 0, none⟩), .int .i64 t, .agg #[.int .i64 (k : Int), .int .i64 x]] w fun e w' => e = .returned (.tuple #[]) ∧
      ∃ vs', Sto P w' base s last vs' (ks.set k (putP t x l)) ∧ Kept s vs vs' w w' := by
  have hk : k < 10 := by have := (List.getElem?_eq_some_iff.1 hl).1; have := h.lk; omega
  obtain ⟨v, hv⟩ : ∃ v, vs[k]? = some v := ⟨vs[k]'(by have := h.lv; omega), List.getElem?_eq_getElem _⟩
  have ho := h.own k v l hv hl
  have hsr : some s ≠ v.ownBlock := fun e => by
    have := (h.row ⟨v, List.mem_of_getElem? hv, e.symm⟩).1
    have := h.sb
    omega
  rcases List.eq_nil_or_concat l with rfl | ⟨l0, ⟨u, y⟩, rfl⟩
  · obtain ⟨ad, cap, rfl⟩ : ∃ ad cap, v = .slice ad 0 cap := by
      rcases ho.2 with ⟨e, _⟩ | ⟨g, cap, cur, e, _⟩
      · exact ⟨none, 0, e⟩
      · exact ⟨_, _, e⟩
    refine (put_first s k cap base ad t x (vrow []) w hk (h.cell hv) (h.free _) hsr (fun e => ?_) ho hbase).mono ?_
    · have := (h.row ⟨_, List.mem_of_getElem? hv, e.symm⟩).2
      omega
    · rintro e w' ⟨rfl, gg, cap', w1, rfl, hown, hg, hat, _⟩
      rw [putP_nil]
      exact ⟨rfl, _, put_grown h hv [(t, x)] gg cap' 1 w1 rfl hown hg hat⟩
  · simp only [List.concat_eq_append] at *
    obtain ⟨g, cap, cur, rfl, hgb, hgg, hcap, hml, hsz, htake⟩ : ∃ g cap cur, v = .slice (some ⟨g, 0, none⟩) (l0.length + 1) cap ∧ base ≤ g ∧ w.heap[g]? = some (.cells cur 199 (0, 0)) ∧ l0.length + 1 ≤ cap ∧ cap ≤ maxLen ∧ cur.size = cap * 2 ∧
        cur.toList.take ((l0.length + 1) * 2) = vrow (l0 ++ [(u, y)]) := by
      rcases ho.2 with ⟨_, e⟩ | ⟨g, cap, cur, e, h1, h2, h3, h4, h5, h6⟩
      · simp at e
      · simp only [List.length_append, List.length_cons, List.length_nil, Nat.zero_add] at e h3 h6
        exact ⟨g, cap, cur, e, h1, h2, h3, h4, h5, h6⟩
    have hcs := ho.cells (g := g) rfl
    have hget := vrow_get (l0 ++ [(u, y)]) l0.length u y (by simp)
    have c1 := hcs _ _ hget.1
    have c2 := hcs _ _ hget.2
    rw [addr_add] at c1 c2
    have hm : l0.length < 1000000 := by simp at hlen; omega
    by_cases hut : u = t
    · subst hut
      rw [putP_same]
      refine (put_same s k g l0.length cap u x y w hk hm (h.cell hv) c1 c2 (frozen_of_row w g _ cur 199 hgg)).mono ?_
      rintro e w' ⟨rfl, n, rfl⟩
      have hsg : s ≠ g := by have := h.sb; omega
      have hW : ((w.alloc (.cells #[.int .i64 (k : Int), .int .i64 x] 78)).drewN n).heap[g]? = some (.cells cur 199 (0, 0)) := (Below.heap_alloc w _ g (Array.getElem?_eq_some_iff.1 hgg).1).trans hgg
      refine ⟨rfl, vs, ?_⟩
      have e1 : vs.set k (.slice (some ⟨g, 0, none⟩) (l0.length + 1) cap) = vs := by
        apply List.ext_getElem?
        intro j
        by_cases ej : j = k
        · subst ej; rw [List.getElem?_set_self (List.getElem?_eq_some_iff.1 hv).1, hv]
        · rw [List.getElem?_set_ne (by omega)]
      have hold : ∀ b, b < w.heap.size → b ≠ g → (((w.alloc (.cells #[.int .i64 (k : Int), .int .i64 x] 78)).drewN n).setCell ⟨g, l0.length * 2 + 1, none⟩ (.int .i64 x)).heap[b]? = w.heap[b]? := fun b hb hne =>
        (heap_setCell_other _ _ _ _ hne).trans (Below.heap_alloc w _ b hb)
      have r1 := h.turn (w' := ((w.alloc (.cells #[.int .i64 (k : Int), .int .i64 x] 78)).drewN n).setCell ⟨g, l0.length * 2 + 1, none⟩ (.int .i64 x)) hv (l0 ++ [(u, x)]) (v' := .slice (some ⟨g, 0, none⟩) (l0.length + 1) cap)
        (by rw [e1]; exact (hold s h.lt hsg).trans h.blk)
        ⟨by rw [vrow_length], .inr ⟨g, cap, _, by simp, hgb, heap_setCell_same _ g _ cur 199 _ hW, by simpa using hcap, hml, by simpa using hsz, by
          have e2 : vrow (l0 ++ [(u, x)]) = (vrow (l0 ++ [(u, y)])).set (l0.length * 2 + 1) (.int .i64 x) := by
            rw [vrow_append, vrow_append, ← vrow_length l0, List.set_append_right _ _ (by omega)]
            simp [vrow]
          rw [e2, ← htake]
          simp [List.take_set]⟩⟩
        (fun b hb hne => hold b (h.row hb).2 (fun e => hne (by rw [e]; rfl))) (.inl rfl)
      rw [e1] at r1
      refine ⟨r1, ?_⟩
      have r2 := Kept.turn (w' := ((w.alloc (.cells #[.int .i64 (k : Int), .int .i64 x] 78)).drewN n).setCell ⟨g, l0.length * 2 + 1, none⟩ (.int .i64 x)) (v' := .slice (some ⟨g, 0, none⟩) (l0.length + 1) cap) h hv rfl rfl rfl (by simp)
        (fun b hb hbs hne => hold b hb (fun e => hne (by rw [e]; rfl))) (.inl rfl)
      rw [e1] at r2
      exact r2
    · rw [putP_later _ _ _ _ _ hut]
      refine (put_later s k g l0.length cap base t x u (vrow (l0 ++ [(u, y)])) w hk hm (h.cell hv) c1 (by simpa using hut) (h.free _) (by have := h.sb; omega) (by simpa using ho) hbase).mono ?_
      rintro e w' ⟨rfl, gg, cap', w1, rfl, hown, hg, hat, _⟩
      refine ⟨rfl, _, put_grown h hv (l0 ++ [(u, y)] ++ [(t, x)]) gg cap' (l0.length + 2) w1 (by simp) (by rw [vrow_append]; exact hown) hg (hat.elim (fun e => .inl (by rw [e]; rfl)) .inr)⟩
end Go.Proofs.YtjefgmeejhakbaaGreatDoor

/- (*Table).Ask. -/
namespace Go.Proofs.YtjefgmeejhakbaaGreatDoor
open Go.RowKit
variable {C : Emb}
theorem waits_mem {T T' : Tab} {x : Int} (h : ∀ k, x ∈ (T k).tail ↔ x ∈ (T' k).tail) : waitsP T x = waitsP T' x := by
  unfold waitsP
  have : (fun k => decide (x ∈ (T k).tail)) = fun k => decide (x ∈ (T' k).tail) := by funext k; exact decide_eq_decide.2 (h k)
  rw [this]
def TabAt (C : Emb) (w : World) (s N : Nat) (M : LkM) (T : Tab) : Prop := ∃ h wa ln, Raw C w s N M h wa ln ∧ Rep T h wa ln
theorem TabAt.same {w w' : World} {s N : Nat} {M : LkM} {T : Tab} (h : TabAt C w s N M T) (hs : ∀ b, M.own s b → w'.heap[b]? = w.heap[b]?) : TabAt C w' s N M T := by
  obtain ⟨a, b, c, r, R⟩ := h
  exact ⟨a, b, c, r.same hs, R⟩
theorem TabAt.mono {w : World} {s N N' : Nat} {M : LkM} {T : Tab} (h : TabAt C w s N M T) (hN : N ≤ N') : TabAt C w s N' M T := by
  obtain ⟨a, b, c, r, R⟩ := h
  exact ⟨a, b, c, r.mono hN, R⟩
section
variable {T : Tab} {h wa : Int → Option Int} {ln : Int → List Int}
theorem Rep.hold (R : Rep T h wa ln) {k tx : Int} (hk : T k = []) : Rep (updT T k [tx]) (updT h k (some tx)) wa ln := by
  have ht : ∀ j, (updT T k [tx] j).tail = (T j).tail := by
    intro j
    by_cases e : j = k
    · subst e; rw [updT_same, hk]; rfl
    · rw [updT_other _ _ e]
  refine ⟨fun j => ?_, fun x => ?_, fun j => ?_⟩
  · by_cases e : j = k
    · subst e; rw [updT_same, updT_same]; rfl
    · rw [updT_other _ _ e, updT_other _ _ e]; exact R.h j
  · rw [waits_mem (T := updT T k [tx]) (T' := T) (fun j => by rw [ht j])]; exact R.wa x
  · rw [ht j]; exact R.ln j
theorem Rep.wait (R : Rep T h wa ln) {k tx : Int} (hk : T k ≠ []) (hk0 : 0 ≤ k) (hg : Tidy0 (updT T k (T k ++ [tx]))) : Rep (updT T k (T k ++ [tx])) h (updT wa tx (some k)) (updT ln k (ln k ++ [tx])) := by
  obtain ⟨a, l, hal⟩ : ∃ a l, T k = a :: l := by
    cases hT : T k with
    | nil => exact (hk hT).elim
    | cons a l => exact ⟨a, l, rfl⟩
  have ht : (T k ++ [tx]).tail = (T k).tail ++ [tx] := by rw [hal]; rfl
  refine ⟨fun j => ?_, fun x => ?_, fun j => ?_⟩
  · by_cases e : j = k
    · subst e; rw [updT_same, R.h j, hal]; rfl
    · rw [updT_other _ _ e]; exact R.h j
  · by_cases e : x = tx
    · subst e
      have : waitsP (updT T k (T k ++ [x])) x = k := waits_of_mem hg (by rw [updT_same, ht]; simp)
      rw [this, updT_same]
      refine ⟨rfl, ?_⟩
      constructor
      · intro h; cases h
      · intro h; omega
    · rw [updT_other _ _ e, waits_mem (T := updT T k (T k ++ [tx])) (T' := T) (fun j => ?_)]
      · exact R.wa x
      · by_cases ej : j = k
        · subst ej; rw [updT_same, ht]; simp [e]
        · rw [updT_other _ _ ej]
  · by_cases e : j = k
    · subst e; rw [updT_same, updT_same, ht, R.ln j]
    · rw [updT_other _ _ e, updT_other _ _ e]; exact R.ln j
end
def errV (c : Int) : Value := if c = 0 then .nilIface else .iface 24 (.int .i64 c)
def AskPost (C : Emb) (s N : Nat) (M : LkM) (p : Bool × Int × Tab) (w : World) (e : Ending) (w' : World) : Prop :=
  e = .returned (.tuple #[.bool p.1, errV p.2.1]) ∧ ∃ M', TabAt C w' s (N + 2) M' p.2.2 ∧ KeptO (M.own s) (M'.own s) w w'
section
variable {w : World} {s N : Nat} {M : LkM} {T : Tab}
theorem askPost_same {c : Int} {b : Bool} {ev : Value} (h : TabAt C w s N M T) (he : ev = errV c) : AskPost C s N M (b, c, T) w (.returned (.tuple #[.bool b, ev])) w :=
  ⟨by rw [he], M, h.mono (by omega), KeptO.refl _ _⟩
end
set_option maxRecDepth 100000 in
set_option maxHeartbeats 4000000 in
theorem ask_range (s : Nat) (tx key : Int) (w : World) (hb : ¬ (0 ≤ key ∧ key < 10 ∧ 1 ≤ tx)) :
    Calls Tryz.prog 115 #[.pointer (some ⟨s, C.o, none⟩), .int .i64 tx, .int .i64 key] w fun e w' => e = .returned (.tuple #[.bool false, .iface 24 (.int .i64 2)]) ∧ w' = w := by
  by_cases h1 : key < 0
  · clear hb
    go_enter Tryz.func115, Tryz.ntmps115
    go_wp2
    go_ret2
    exact ⟨rfl, rfl⟩
  · by_cases h2 : 10 ≤ key
    · clear hb
      go_enter Tryz.func115, Tryz.ntmps115
      go_wp2
      go_ret2
      exact ⟨rfl, rfl⟩
    · have h3 : tx < 1 := by omega
      clear hb
      go_enter Tryz.func115, Tryz.ntmps115
      go_wp2
      go_ret2
      exact ⟨rfl, rfl⟩
set_option maxRecDepth 100000 in
set_option maxHeartbeats 4000000 in
theorem ask_any (s N : Nat) (M : LkM) (T : Tab) (q : Int → Nat) (tx key : Int) (w : World) (hT : TabAt C w s N M T) (hG : Good T) (hq : Ranked T q) (hx : I64 tx) (hky : I64 key) (hN : N ≤ 100000) :
    Calls Tryz.prog 115 #[.pointer (some ⟨s, C.o, none⟩), .int .i64 tx, .int .i64 key] w (AskPost C s N M (askP T q tx key) w) := by
  have hG2 := hG.ask hq tx key (by unfold I64 at hx; omega)
  unfold askP at hG2 ⊢
  by_cases hb : 0 ≤ key ∧ key < 10 ∧ 1 ≤ tx
  · rw [if_neg (by simpa using hb)] at hG2 ⊢
    obtain ⟨h1, h2, h3⟩ := hb
    have g1 : ¬ key < 0 := by omega
    have g2 : ¬ 10 ≤ key := by omega
    have g3 : ¬ tx < 1 := by omega
    have HT := hid hT
    obtain ⟨h, wa, ln, r, R⟩ := hT
    have HR := hid r
    have HP := hid R
    have HG := hid hG
    have HQ := hid hq
    clear r R hG hq
    have hwc := waits_cases T tx
    have hw64 := waits_i64 T tx
    have hh64 := holds_i64 HG.out.tidy key
    obtain ⟨k0, hk0⟩ : ∃ k0, waitsP T tx = k0 := ⟨_, rfl⟩
    obtain ⟨y, hy⟩ : ∃ y, holdsP T key = y := ⟨_, rfl⟩
    rw [hk0] at hwc hG2 ⊢
    rw [hy] at hG2 hh64 ⊢
    have HK0 := hid hk0
    have HY := hid hy
    clear hk0 hy hw64
    by_cases hw : 0 ≤ k0
    · rw [if_pos hw] at hG2 ⊢
      have e1 : (k0 != -1) = true := by simp; omega
      clear hwc
      go_enter Tryz.func115, Tryz.ntmps115
      go_wp2_with (go_at_call 99; refine (waitsR s N M HP.out tx _ HR.out hx).mono ?_; rw [HK0.out]; rintro e w' ⟨rfl, rfl⟩)
      go_ret2
      exact askPost_same HT.out rfl
    · rw [if_neg hw] at hG2 ⊢
      have hk1 : k0 = -1 := by omega
      subst hk1
      by_cases hyx : y = tx
      · rw [if_pos hyx] at hG2 ⊢
        subst hyx
        have e2 : (y == 0) = false := by simp; omega
        clear hwc hw
        go_enter Tryz.func115, Tryz.ntmps115
        go_wp2_with (first
          | (go_at_call 99; refine (waitsR s N M HP.out y _ HR.out hx).mono ?_; rw [HK0.out]; rintro e w' ⟨rfl, rfl⟩)
          | (go_at_call 98; refine (holdsR s N M HP.out key _ HR.out hky).mono ?_; rw [HY.out]; rintro e w' ⟨rfl, rfl⟩))
        go_ret2
        exact askPost_same HT.out rfl
      · rw [if_neg hyx] at hG2 ⊢
        by_cases hn : T key = []
        · rw [if_pos hn] at hG2 ⊢
          have hy0 : y = 0 := by rw [← HY.out]; exact (holds_zero HG.out.tidy).2 hn
          subst hy0
          have HRH := hid (HP.out.hold (tx := tx) hn)
          have HGG := hid hG2
          clear hwc hw hyx hn hG2
          go_enter Tryz.func115, Tryz.ntmps115
          go_wp2_with (first
            | (go_at_call 99; refine (waitsR s N M HP.out tx _ HR.out hx).mono ?_; rw [HK0.out]; rintro e w' ⟨rfl, rfl⟩)
            | (go_at_call 98; refine (holdsR s N M HP.out key _ HR.out hky).mono ?_; rw [HY.out]; rintro e w' ⟨rfl, rfl⟩)
            | (go_at_call 163; refine (hold_any s N M h wa ln tx key _ HR.out hky (by omega)).mono ?_; rintro e w' ⟨rfl, hM⟩))
          go_ret2
          obtain ⟨M', hM1, hM2⟩ := hM
          exact ⟨rfl, M', ⟨_, _, _, hM1.mono (Nat.le_succ _), HRH.out⟩, hM2⟩
        · rw [if_neg hn] at hG2 ⊢
          have hyp : 1 ≤ y := by rw [← HY.out]; exact holds_pos HG.out.tidy hn
          have e2 : (y == 0) = false := by simp; omega
          have e3 : (y == tx) = false := by simpa using hyx
          by_cases hc : reachP T tx (q y + 1) y = true
          · rw [if_pos hc] at hG2 ⊢
            have HC := hid hc
            clear hwc hw hn hG2 hc
            go_enter Tryz.func115, Tryz.ntmps115
            go_wp2_with (first
              | (go_at_call 99; refine (waitsR s N M HP.out tx _ HR.out hx).mono ?_; rw [HK0.out]; rintro e w' ⟨rfl, rfl⟩)
              | (go_at_call 98; refine (holdsR s N M HP.out key _ HR.out hky).mono ?_; rw [HY.out]; rintro e w' ⟨rfl, rfl⟩)
              | (go_at_call 164; refine (waitsFor_any s N M h wa ln T q y tx _ HR.out HP.out HG.out.tidy HQ.out hh64 hyx).mono ?_; rw [HC.out]; rintro e w' ⟨rfl, rfl⟩))
            go_ret2
            exact askPost_same HT.out rfl
          · rw [if_neg hc] at hG2 ⊢
            have HC := hid (show reachP T tx (q y + 1) y = false by simpa using hc)
            have HRH := hid (HP.out.wait (tx := tx) hn h1 hG2.tidy)
            clear hwc hw hn hG2 hc
            go_enter Tryz.func115, Tryz.ntmps115
            go_wp2_with (first
              | (go_at_call 99; refine (waitsR s N M HP.out tx _ HR.out hx).mono ?_; rw [HK0.out]; rintro e w' ⟨rfl, rfl⟩)
              | (go_at_call 98; refine (holdsR s N M HP.out key _ HR.out hky).mono ?_; rw [HY.out]; rintro e w' ⟨rfl, rfl⟩)
              | (go_at_call 164; refine (waitsFor_any s N M h wa ln T q y tx _ HR.out HP.out HG.out.tidy HQ.out hh64 hyx).mono ?_; rw [HC.out]; rintro e w' ⟨rfl, rfl⟩)
              | (go_at_call 165; refine (wait_any s N M h wa ln tx key _ HR.out hky hx hN).mono ?_; rintro e w' ⟨rfl, hM⟩))
            go_ret2
            obtain ⟨M', hM1, hM2⟩ := hM
            exact ⟨rfl, M', ⟨_, _, _, hM1, HRH.out⟩, hM2⟩
  · rw [if_pos (by simpa using hb)]
    refine (ask_range s tx key w hb).mono ?_
    rintro e w' ⟨rfl, rfl⟩
    exact askPost_same hT rfl
end Go.Proofs.YtjefgmeejhakbaaGreatDoor

/- Plain: how Drop goes on from key to key. -/
namespace Go.Proofs.YtjefgmeejhakbaaGreatDoor
open Go.RowKit
def midT (T : Tab) (tx : Int) (j : Int) : Tab := fun k => if k < j ∨ holdsP T k ≠ tx then (T k).filter (fun x => x != tx) else T k
theorem midT_sub (T : Tab) (tx j : Int) (k : Int) : (midT T tx j k).Sublist (T k) := by
  unfold midT
  split
  · exact List.filter_sublist
  · exact List.Sublist.refl _
theorem Good.mid {T : Tab} (h : Good T) (tx j : Int) : Good (midT T tx j) := h.sub (midT_sub T tx j)
theorem midT_end {T : Tab} (h : Tidy0 T) (tx : Int) : midT T tx 10 = dropP T tx := by
  funext k
  unfold midT dropP
  by_cases hk : k < 10 ∨ holdsP T k ≠ tx
  · rw [if_pos hk]
  · rw [if_neg hk]
    by_cases e : T k = []
    · rw [e]; rfl
    · have := h.rng k e; omega
theorem filter_none {l : List Int} {tx : Int} (h : tx ∉ l) : l.filter (fun x => x != tx) = l := by
  refine List.filter_eq_self.2 (fun x hx => ?_)
  simp only [bne_iff_ne, ne_eq]
  rintro rfl
  exact h hx
theorem head_or {T : Tab} {k x : Int} (h : x ∈ T k) : holdsP T k = x ∨ x ∈ (T k).tail := by
  unfold holdsP
  cases hT : T k with
  | nil => rw [hT] at h; simp at h
  | cons a l =>
    rw [hT] at h
    rcases List.mem_cons.1 h with e | e
    · exact .inl e.symm
    · exact .inr e
theorem mid_none {T : Tab} (hT : Tidy0 T) {tx : Int} (hw : waitsP T tx = -1) : midT T tx 0 = T := by
  funext k
  unfold midT
  by_cases hh : k < 0 ∨ holdsP T k ≠ tx
  · rw [if_pos hh]
    refine filter_none (fun hm => ?_)
    rcases hh with hh | hh
    · have := hT.rng k (fun e => by rw [e] at hm; simp at hm); omega
    · rcases head_or hm with e | e
      · exact hh e
      · exact waits_none hT (by omega) k e
  · rw [if_neg hh]
theorem mid_tail {T : Tab} (hT : Tidy0 T) (tx k x : Int) : x ∈ (midT T tx 0 k).tail ↔ x ∈ (T k).tail ∧ x ≠ tx := by
  have hnod := hT.nod k
  unfold midT
  by_cases hh : k < 0 ∨ holdsP T k ≠ tx
  · rw [if_pos hh]
    cases hTk : T k with
    | nil => simp
    | cons a l =>
      have ha : a ≠ tx := by
        rcases hh with hh | hh
        · have := hT.rng k (by rw [hTk]; simp); omega
        · simpa [holdsP, hTk] using hh
      simp [ha]
  · rw [if_neg hh]
    have hh2 : holdsP T k = tx := Classical.not_not.1 (fun h => hh (.inr h))
    constructor
    · intro hx
      refine ⟨hx, ?_⟩
      rintro rfl
      rcases head_not_tail hnod with h | h
      · exact h (by have := hh2; unfold holdsP at this; rw [this]; exact hx)
      · rw [h] at hx; simp at hx
    · exact fun h => h.1
theorem Rep.leave {T : Tab} {h wa : Int → Option Int} {ln : Int → List Int} (R : Rep T h wa ln) (hT : Tidy0 T) {tx k : Int} (hw : waitsP T tx = k) (hk : 0 ≤ k) : Rep (midT T tx 0) h (updT wa tx none) (updT ln k ((ln k).filter (fun x => x != tx))) := by
  have hmem : tx ∈ (T k).tail := by rw [← hw]; exact mem_of_waits (by omega)
  have hhead : ∀ j, (midT T tx 0 j).head? = (T j).head? := by
    intro j
    unfold midT
    split
    · rename_i hh
      cases hTj : T j with
      | nil => rfl
      | cons a l =>
        have ha : a ≠ tx := by
          rcases hh with hh | hh
          · have := hT.rng j (by rw [hTj]; simp); omega
          · simpa [holdsP, hTj] using hh
        simp [ha]
    · rfl
  refine ⟨fun j => (R.h j).trans (hhead j).symm, fun x => ?_, fun j => ?_⟩
  · by_cases e : x = tx
    · subst e
      have : waitsP (midT T x 0) x = -1 := by
        unfold waitsP
        rw [List.find?_eq_none.2]
        · rfl
        · intro j _
          simp [mid_tail hT]
      rw [this, updT_same]
      exact ⟨rfl, by simp⟩
    · rw [updT_other _ _ e, waits_mem (T := midT T tx 0) (T' := T) (fun j => by rw [mid_tail hT]; simp [e])]
      exact R.wa x
  · by_cases e : j = k
    · subst e
      rw [updT_same, R.ln j]
      cases hTj : T j with
      | nil => rw [hTj] at hmem; simp at hmem
      | cons a l =>
        have hn := hT.nod j
        rw [hTj] at hn hmem
        have ha : a ≠ tx := by rintro rfl; exact (List.nodup_cons.1 hn).1 hmem
        unfold midT
        rw [if_pos (.inr (by simpa [holdsP, hTj] using ha)), hTj]
        simp [ha]
    · rw [updT_other _ _ e, R.ln j]
      unfold midT
      split
      · rename_i hh
        rw [filter_none]
        intro hm
        rcases head_or hm with e2 | e2
        · rcases hh with hh | hh
          · have := hT.rng j (fun e => by rw [e] at hm; simp at hm); omega
          · exact hh e2
        · exact e ((waits_of_mem hT e2).symm.trans hw)
      · rfl
theorem mid_skip {T : Tab} {tx j : Int} (hh : holdsP T j ≠ tx ∨ T j = []) : midT T tx (j + 1) = midT T tx j := by
  funext k
  unfold midT
  by_cases e : k = j
  · subst e
    rw [if_pos (.inl (by omega))]
    rcases hh with hh | hh
    · rw [if_pos (.inr hh)]
    · rw [hh]; simp
  · by_cases h1 : k < j
    · rw [if_pos (.inl (by omega)), if_pos (.inl h1)]
    · by_cases h2 : holdsP T k ≠ tx
      · rw [if_pos (.inr h2), if_pos (.inr h2)]
      · rw [if_neg (by omega), if_neg (by omega)]
theorem mid_hit {T : Tab} (hT : Tidy0 T) {tx j : Int} {l : List Int} (hh : T j = tx :: l) : midT T tx j j = tx :: l ∧ midT T tx (j + 1) = updT (midT T tx j) j l := by
  have hl : tx ∉ l := by have := hT.nod j; rw [hh] at this; exact (List.nodup_cons.1 this).1
  have e1 : midT T tx j j = tx :: l := by
    unfold midT
    rw [if_neg, hh]
    simp [holdsP, hh]
  refine ⟨e1, ?_⟩
  funext k
  by_cases e : k = j
  · subst e
    rw [updT_same]
    unfold midT
    rw [if_pos (.inl (by omega)), hh]
    simp [filter_none hl]
  · rw [updT_other _ _ e]
    unfold midT
    by_cases h1 : k < j
    · rw [if_pos (.inl (by omega)), if_pos (.inl h1)]
    · by_cases h2 : holdsP T k ≠ tx
      · rw [if_pos (.inr h2), if_pos (.inr h2)]
      · rw [if_neg (by omega), if_neg (by omega)]
section
variable {T : Tab} {h wa : Int → Option Int} {ln : Int → List Int}
theorem Rep.empty (R : Rep T h wa ln) {j x : Int} (hj : T j = [x]) : Rep (updT T j []) (updT h j none) wa ln := by
  have ht : ∀ k, (updT T j [] k).tail = (T k).tail := by
    intro k
    by_cases e : k = j
    · subst e; rw [updT_same, hj]; rfl
    · rw [updT_other _ _ e]
  refine ⟨fun k => ?_, fun y => ?_, fun k => ?_⟩
  · by_cases e : k = j
    · subst e; rw [updT_same, updT_same]; rfl
    · rw [updT_other _ _ e, updT_other _ _ e]; exact R.h k
  · rw [waits_mem (T := updT T j []) (T' := T) (fun k => by rw [ht k])]; exact R.wa y
  · rw [ht k]; exact R.ln k
theorem Rep.next (R : Rep T h wa ln) (hT : Tidy0 T) {j x f : Int} {l : List Int} (hj : T j = x :: f :: l) : Rep (updT T j (f :: l)) (updT (updT h j none) j (some f)) (updT wa f none) (updT ln j ((ln j).filter (fun y => y != f))) := by
  have hn := hT.nod j
  rw [hj] at hn
  have hfl : f ∉ l := (List.nodup_cons.1 (List.nodup_cons.1 hn).2).1
  have hff : ∀ k, f ∈ (T k).tail → k = j := fun k hk => hT.one k j f hk (by rw [hj]; simp)
  refine ⟨fun k => ?_, fun y => ?_, fun k => ?_⟩
  · by_cases e : k = j
    · subst e; rw [updT_same, updT_same]; rfl
    · rw [updT_other _ _ e, updT_other _ _ e, updT_other _ _ e]; exact R.h k
  · by_cases e : y = f
    · subst e
      have : waitsP (updT T j (y :: l)) y = -1 := by
        unfold waitsP
        rw [List.find?_eq_none.2]
        · rfl
        · intro k _
          by_cases ek : k = j
          · subst ek; rw [updT_same]; simp [hfl]
          · rw [updT_other _ _ ek]; simpa using fun hk => ek (hff k hk)
      rw [this, updT_same]
      exact ⟨rfl, by simp⟩
    · rw [updT_other _ _ e, waits_mem (T := updT T j (f :: l)) (T' := T) (fun k => ?_)]
      · exact R.wa y
      · by_cases ek : k = j
        · subst ek; rw [updT_same, hj]; simp [e]
        · rw [updT_other _ _ ek]
  · by_cases e : k = j
    · subst e
      rw [updT_same, updT_same, R.ln k, hj]
      simp [filter_none hfl]
    · rw [updT_other _ _ e, updT_other _ _ e]; exact R.ln k
end
def outTo (T : Tab) (tx : Int) (j : Nat) : List (Int × Int) := (keysP.take j).flatMap (outOf T tx)
theorem keysP_get {j : Nat} (h : j < 10) : keysP[j]? = some (j : Int) := by
  match j, h with
  | 0, _ => rfl | 1, _ => rfl | 2, _ => rfl | 3, _ => rfl | 4, _ => rfl | 5, _ => rfl | 6, _ => rfl | 7, _ => rfl | 8, _ => rfl | 9, _ => rfl
theorem outTo_step (T : Tab) (tx : Int) {j : Nat} (h : j < 10) : outTo T tx (j + 1) = outTo T tx j ++ outOf T tx j := by
  unfold outTo
  rw [List.take_add_one, keysP_get h]
  simp
theorem outTo_end (T : Tab) (tx : Int) : outTo T tx 10 = outP T tx := rfl
theorem outTo_length (T : Tab) (tx : Int) : ∀ j, j ≤ 10 → (outTo T tx j).length ≤ j
  | 0, _ => by simp [outTo]
  | j + 1, h => by
    have := outTo_length T tx j (by omega)
    rw [outTo_step T tx (by omega), List.length_append]
    have : (outOf T tx j).length ≤ 1 := by unfold outOf; split <;> simp
    omega
theorem outOf_skip {T : Tab} {tx j : Int} (hh : holdsP T j ≠ tx ∨ T j = []) : outOf T tx j = [] := by
  unfold outOf
  rw [if_neg]
  rintro ⟨h1, h2⟩
  rcases hh with hh | hh
  · exact hh h1
  · exact h2 (by simp [dropP, hh])
theorem outOf_none {T : Tab} {tx j : Int} (hh : T j = [tx]) : outOf T tx j = [] := by
  unfold outOf
  rw [if_neg]
  rintro ⟨_, h2⟩
  exact h2 (by simp [dropP, hh])
theorem outOf_next {T : Tab} (hT : Tidy0 T) {tx j f : Int} {l : List Int} (hh : T j = tx :: f :: l) : outOf T tx j = [(j, f)] := by
  have hn := hT.nod j
  rw [hh] at hn
  have e : dropP T tx j = f :: l := by
    unfold dropP
    rw [hh, List.filter_cons, if_neg (by simp)]
    exact filter_none (List.nodup_cons.1 hn).1
  unfold outOf
  rw [if_pos ⟨by simp [holdsP, hh], by rw [e]; simp⟩]
  simp [holdsP, e]
end Go.Proofs.YtjefgmeejhakbaaGreatDoor
