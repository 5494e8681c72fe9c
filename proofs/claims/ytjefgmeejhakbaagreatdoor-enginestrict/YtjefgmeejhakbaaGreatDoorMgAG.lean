/- EsPut EsInstall: put together for a claim. -/
import Derived.Test.YtjefgmeejhakbaaGreatDoorEsPutWalks
/- (*Store).put over a store as it lies in memory. -/
namespace Go.Proofs.YtjefgmeejhakbaaGreatDoor
open Go.RowKit

variable {P : Tail}

def putP (t x : Int) (l : List (Int × Int)) : List (Int × Int) := if l.getLast?.map Prod.fst = some t then l.dropLast ++ [(t, x)] else l ++ [(t, x)]
theorem putP_nil (t x : Int) : putP t x [] = [(t, x)] := by simp [putP]
theorem putP_same (t x y : Int) (l : List (Int × Int)) : putP t x (l ++ [(t, y)]) = l ++ [(t, x)] := by simp [putP]
theorem putP_later (t x u y : Int) (l : List (Int × Int)) (h : u ≠ t) : putP t x (l ++ [(u, y)]) = l ++ [(u, y)] ++ [(t, x)] := by simp [putP, h]

section
variable {w w' : World} {base s : Nat} {last : Int} {vs : List Value} {ks : List (List (Int × Int))}

theorem Sto.turn (h : Sto P w base s last vs ks) {k : Nat} {v v' : Value} (hv : vs[k]? = some v) (l' : List (Int × Int))
    (hs : w'.heap[s]? = some (.cells (P.cells last (vs.set k v')) P.tt (0, 0))) (ho : w'.ownsRow base 199 2 v' l'.length (vrow l'))
    (hr : ∀ g, InRows vs g → v.ownBlock ≠ some g → w'.heap[g]? = w.heap[g]?) (hat : v'.ownBlock = v.ownBlock ∨ ∀ g, v'.ownBlock = some g → w.heap.size ≤ g) :
    Sto P w' base s last (vs.set k v') (ks.set k l') := by
  have hk : k < vs.length := (List.getElem?_eq_some_iff.1 hv).1
  refine ⟨hs, by simp [h.lv], by simp [h.lk], ?_, ?_, h.sb⟩
  · intro j u l hu hl
    by_cases e : j = k
    · subst e
      rw [List.getElem?_set_self hk] at hu
      rw [List.getElem?_set_self (by have := h.lv; have := h.lk; omega)] at hl
      cases hu; cases hl
      exact ho
    · rw [List.getElem?_set_ne (by omega)] at hu hl
      have ho' := h.own j u l hu hl
      refine ⟨ho'.1, ?_⟩
      rcases ho'.2 with hn | ⟨g, cap, cur, hg, hb, hgg, r⟩
      · exact .inl hn
      · refine .inr ⟨g, cap, cur, hg, hb, (hr g ⟨u, List.mem_of_getElem? hu, by rw [hg]; rfl⟩ (fun hx => e ?_)).trans hgg, r⟩
        exact (h.apart k j v u g hv hu hx (by rw [hg]; rfl)).symm
  · have old : ∀ j u g, j ≠ k → vs[j]? = some u → u.ownBlock = some g → v'.ownBlock = some g → False := by
      intro j u g hj hu hg hg'
      rcases hat with e | e
      · rw [e] at hg'
        exact hj (h.apart j k u v g hu hv hg hg')
      · have h1 := e g hg'
        have h2 := (h.row ⟨u, List.mem_of_getElem? hu, hg⟩).2
        omega
    intro i j a b g ha hb hga hgb
    by_cases ei : i = k
    · by_cases ej : j = k
      · omega
      · subst ei
        rw [List.getElem?_set_self hk] at ha
        rw [List.getElem?_set_ne (by omega)] at hb
        cases ha
        exact (old j b g ej hb hgb hga).elim
    · by_cases ej : j = k
      · subst ej
        rw [List.getElem?_set_self hk] at hb
        rw [List.getElem?_set_ne (by omega)] at ha
        cases hb
        exact (old i a g ei ha hga hgb).elim
      · rw [List.getElem?_set_ne (by omega)] at ha hb
        exact h.apart i j a b g ha hb hga hgb

theorem Kept.turn (_h : Sto P w base s last vs ks) {k : Nat} {v v' : Value} (hv : vs[k]? = some v) (hos : w'.os = w.os) (htp : w'.tape = w.tape) (hout : w'.output = w.output) (hsz : w.heap.size ≤ w'.heap.size)
    (hb : ∀ b, b < w.heap.size → b ≠ s → v.ownBlock ≠ some b → w'.heap[b]? = w.heap[b]?) (hat : v'.ownBlock = v.ownBlock ∨ ∀ g, v'.ownBlock = some g → w.heap.size ≤ g) :
    Kept s vs (vs.set k v') w w' := by
  refine ⟨hos, htp, hout, hsz, fun b h1 h2 h3 => hb b h1 h2 (fun e => h3 ⟨v, List.mem_of_getElem? hv, e⟩), ?_⟩
  rintro g ⟨u, hu, hg⟩
  obtain ⟨j, hj, e⟩ := List.mem_iff_getElem.1 hu
  by_cases ej : j = k
  · subst ej
    rw [List.getElem_set_self] at e
    subst e
    rcases hat with e | e
    · exact .inl ⟨v, List.mem_of_getElem? hv, by rw [← e]; exact hg⟩
    · exact .inr (e g hg)
  · rw [List.getElem_set_ne (by omega)] at e
    exact .inl ⟨u, by rw [← e]; exact List.getElem_mem _, hg⟩

theorem ownBlock_eq (g n cap : Nat) : (Value.slice (some ⟨g, 0, none⟩) n cap).ownBlock = some g := rfl

theorem put_grown (h : Sto P w base s last vs ks) {k : Nat} {v : Value} (hv : vs[k]? = some v) (l' : List (Int × Int)) (gg cap n : Nat) (w1 : World) (hn : n = l'.length)
    (ho : w1.ownsRow base 199 2 (.slice (some ⟨gg, 0, none⟩) n cap) n (vrow l')) (hg : w.grownBy w1 v.ownBlock) (hat : v.ownBlock = some gg ∨ w.heap.size ≤ gg) :
    Sto P (w1.setCell ⟨s, 1 + k, none⟩ (.slice (some ⟨gg, 0, none⟩) n cap)) base s last (vs.set k (.slice (some ⟨gg, 0, none⟩) n cap)) (ks.set k l') ∧
      Kept s vs (vs.set k (.slice (some ⟨gg, 0, none⟩) n cap)) w (w1.setCell ⟨s, 1 + k, none⟩ (.slice (some ⟨gg, 0, none⟩) n cap)) := by
  subst hn
  have hsr : some s ≠ v.ownBlock := fun e => by
    have := (h.row ⟨v, List.mem_of_getElem? hv, e.symm⟩).1
    have := h.sb
    omega
  have hs1 : w1.heap[s]? = some (.cells (P.cells last vs) P.tt (0, 0)) := (hg.block s h.lt hsr).trans h.blk
  have hat' : (Value.slice (some ⟨gg, 0, none⟩) l'.length cap).ownBlock = v.ownBlock ∨ ∀ g, (Value.slice (some ⟨gg, 0, none⟩) l'.length cap).ownBlock = some g → w.heap.size ≤ g := by
    rcases hat with e | e
    · exact .inl e.symm
    · exact .inr (fun g hg => by rw [ownBlock_eq] at hg; cases hg; exact e)
  have hbb := (ho.lt gg rfl).1
  have hsb := h.sb
  refine ⟨h.turn hv l' ?_ ?_ ?_ hat', Kept.turn h hv hg.os hg.tape hg.output (by have := hg.size; simpa using this) ?_ hat'⟩
  · rw [heap_setCell_same w1 s (1 + k) _ P.tt _ hs1, P.setk last (List.getElem?_eq_some_iff.1 hv).1]
  · refine ⟨ho.1, ?_⟩
    rcases ho.2 with hn | ⟨g, cp, cur, e, hb, hgg, r⟩
    · exact .inl hn
    · refine .inr ⟨g, cp, cur, e, hb, ?_, r⟩
      rw [heap_setCell_other _ _ _ _ (show g ≠ s by omega)]
      exact hgg
  · intro g hr hne
    have := h.row hr
    rw [heap_setCell_other _ _ _ _ (show g ≠ s by omega)]
    exact hg.block g this.2 (fun e => hne e.symm)
  · intro b hb hbs hne
    rw [heap_setCell_other _ _ _ _ hbs]
    exact hg.block b hb (fun e => hne e.symm)
end

set_option maxHeartbeats 1000000 in
theorem put_any (base s : Nat) (last : Int) (vs : List Value) (ks : List (List (Int × Int))) (k : Nat) (l : List (Int × Int)) (t x : Int) (w : World) (h : Sto P w base s last vs ks) (hbase : base ≤ w.heap.size)
    (hl : ks[k]? = some l) (hlen : l.length < 1000000) :
    Calls Tryz.prog 132 #[.pointer (some ⟨s, 0, none⟩), .int .i64 t, .agg #[.int .i64 (k : Int), .int .i64 x]] w fun e w' => e = .returned (.tuple #[]) ∧
      ∃ vs', Sto P w' base s last vs' (ks.set k (putP t x l)) ∧ Kept s vs vs' w w' := by
  have hk : k < 10 := by have := (List.getElem?_eq_some_iff.1 hl).1; have := h.lk; omega
  obtain ⟨v, hv⟩ : ∃ v, vs[k]? = some v := ⟨vs[k]'(by have := h.lv; omega), List.getElem?_eq_getElem _⟩
  have ho := h.own k v l hv hl
  have hsr : some s ≠ v.ownBlock := fun e => by
    have := (h.row ⟨v, List.mem_of_getElem? hv, e.symm⟩).1
    have := h.sb
    omega
  rcases List.eq_nil_or_concat l with rfl | ⟨l0, ⟨u, y⟩, rfl⟩
  · obtain ⟨ad, cap, rfl⟩ : ∃ ad cap, v = .slice ad 0 cap := by
      rcases ho.2 with ⟨e, _⟩ | ⟨g, cap, cur, e, _⟩
      · exact ⟨none, 0, e⟩
      · exact ⟨_, _, e⟩
    refine (put_first s k cap base ad t x (vrow []) w hk (h.cell hv) (h.free _) hsr (fun e => ?_) ho hbase).mono ?_
    · have := (h.row ⟨_, List.mem_of_getElem? hv, e.symm⟩).2
      omega
    · rintro e w' ⟨rfl, gg, cap', w1, rfl, hown, hg, hat, _⟩
      rw [putP_nil]
      exact ⟨rfl, _, put_grown h hv [(t, x)] gg cap' 1 w1 rfl hown hg hat⟩
  · simp only [List.concat_eq_append] at *
    obtain ⟨g, cap, cur, rfl, hgb, hgg, hcap, hml, hsz, htake⟩ : ∃ g cap cur, v = .slice (some ⟨g, 0, none⟩) (l0.length + 1) cap ∧ base ≤ g ∧ w.heap[g]? = some (.cells cur 199 (0, 0)) ∧ l0.length + 1 ≤ cap ∧ cap ≤ maxLen ∧ cur.size = cap * 2 ∧
        cur.toList.take ((l0.length + 1) * 2) = vrow (l0 ++ [(u, y)]) := by
      rcases ho.2 with ⟨_, e⟩ | ⟨g, cap, cur, e, h1, h2, h3, h4, h5, h6⟩
      · simp at e
      · simp only [List.length_append, List.length_cons, List.length_nil, Nat.zero_add] at e h3 h6
        exact ⟨g, cap, cur, e, h1, h2, h3, h4, h5, h6⟩
    have hcs := ho.cells (g := g) rfl
    have hget := vrow_get (l0 ++ [(u, y)]) l0.length u y (by simp)
    have c1 := hcs _ _ hget.1
    have c2 := hcs _ _ hget.2
    rw [addr_add] at c1 c2
    have hm : l0.length < 1000000 := by simp at hlen; omega
    by_cases hut : u = t
    · subst hut
      rw [putP_same]
      refine (put_same s k g l0.length cap u x y w hk hm (h.cell hv) c1 c2 (frozen_of_row w g _ cur 199 hgg)).mono ?_
      rintro e w' ⟨rfl, n, rfl⟩
      have hsg : s ≠ g := by have := h.sb; omega
      have hW : ((w.alloc (.cells #[.int .i64 (k : Int), .int .i64 x] 78)).drewN n).heap[g]? = some (.cells cur 199 (0, 0)) := (Below.heap_alloc w _ g (Array.getElem?_eq_some_iff.1 hgg).1).trans hgg
      refine ⟨rfl, vs, ?_⟩
      have e1 : vs.set k (.slice (some ⟨g, 0, none⟩) (l0.length + 1) cap) = vs := by
        apply List.ext_getElem?
        intro j
        by_cases ej : j = k
        · subst ej; rw [List.getElem?_set_self (List.getElem?_eq_some_iff.1 hv).1, hv]
        · rw [List.getElem?_set_ne (by omega)]
      have hold : ∀ b, b < w.heap.size → b ≠ g → (((w.alloc (.cells #[.int .i64 (k : Int), .int .i64 x] 78)).drewN n).setCell ⟨g, l0.length * 2 + 1, none⟩ (.int .i64 x)).heap[b]? = w.heap[b]? := fun b hb hne =>
        (heap_setCell_other _ _ _ _ hne).trans (Below.heap_alloc w _ b hb)
      have r1 := h.turn (w' := ((w.alloc (.cells #[.int .i64 (k : Int), .int .i64 x] 78)).drewN n).setCell ⟨g, l0.length * 2 + 1, none⟩ (.int .i64 x)) hv (l0 ++ [(u, x)]) (v' := .slice (some ⟨g, 0, none⟩) (l0.length + 1) cap)
        (by rw [e1]; exact (hold s h.lt hsg).trans h.blk)
        ⟨by rw [vrow_length], .inr ⟨g, cap, _, by simp, hgb, heap_setCell_same _ g _ cur 199 _ hW, by simpa using hcap, hml, by simpa using hsz, by
          have e2 : vrow (l0 ++ [(u, x)]) = (vrow (l0 ++ [(u, y)])).set (l0.length * 2 + 1) (.int .i64 x) := by
            rw [vrow_append, vrow_append, ← vrow_length l0, List.set_append_right _ _ (by omega)]
            simp [vrow]
          rw [e2, ← htake]
          simp [List.take_set]⟩⟩
        (fun b hb hne => hold b (h.row hb).2 (fun e => hne (by rw [e]; rfl))) (.inl rfl)
      rw [e1] at r1
      refine ⟨r1, ?_⟩
      have r2 := Kept.turn (w' := ((w.alloc (.cells #[.int .i64 (k : Int), .int .i64 x] 78)).drewN n).setCell ⟨g, l0.length * 2 + 1, none⟩ (.int .i64 x)) (v' := .slice (some ⟨g, 0, none⟩) (l0.length + 1) cap) h hv rfl rfl rfl (by simp)
        (fun b hb hbs hne => hold b hb (fun e => hne (by rw [e]; rfl))) (.inl rfl)
      rw [e1] at r2
      exact r2
    · rw [putP_later _ _ _ _ _ hut]
      refine (put_later s k g l0.length cap base t x u (vrow (l0 ++ [(u, y)])) w hk hm (h.cell hv) c1 (by simpa using hut) (h.free _) (by have := h.sb; omega) (by simpa using ho) hbase).mono ?_
      rintro e w' ⟨rfl, gg, cap', w1, rfl, hown, hg, hat, _⟩
      refine ⟨rfl, _, put_grown h hv (l0 ++ [(u, y)] ++ [(t, x)]) gg cap' (l0.length + 2) w1 (by simp) (by rw [vrow_append]; exact hown) hg (hat.elim (fun e => .inl (by rw [e]; rfl)) .inr)⟩

end Go.Proofs.YtjefgmeejhakbaaGreatDoor

/- (*Store).Install where nothing is wrong. -/
namespace Go.Proofs.YtjefgmeejhakbaaGreatDoor
open Go.RowKit

variable {P : Tail}

def WRow (W : World) (b off : Nat) (ws : List (Int × Int)) : Prop :=
  ∀ j a v, ws[j]? = some (a, v) → W.cell? ⟨b, off + j * 2, none⟩ = some (.int .i64 a) ∧ W.cell? ⟨b, off + j * 2 + 1, none⟩ = some (.int .i64 v)
theorem WRow.same {A B : World} {b off : Nat} {ws : List (Int × Int)} (h : WRow A b off ws) (hb : B.heap[b]? = A.heap[b]?) : WRow B b off ws :=
  fun j a v e => ⟨(World.cell?_of_block (a := ⟨b, off + j * 2, none⟩) hb).trans (h j a v e).1, (World.cell?_of_block (a := ⟨b, off + j * 2 + 1, none⟩) hb).trans (h j a v e).2⟩

def instP (t : Int) (ws : List (Int × Int)) (ks : List (List (Int × Int))) : List (List (Int × Int)) :=
  ws.foldl (fun ks p => ks.set p.1.toNat (putP t p.2 (ks[p.1.toNat]?.getD []))) ks
theorem instP_snoc (t : Int) (ws : List (Int × Int)) (ks : List (List (Int × Int))) (a v : Int) : instP t (ws ++ [(a, v)]) ks = (instP t ws ks).set a.toNat (putP t v ((instP t ws ks)[a.toNat]?.getD [])) := by
  simp [instP]
theorem putP_length (t x : Int) (l : List (Int × Int)) : (putP t x l).length ≤ l.length + 1 := by
  unfold putP
  split
  · simp
  · simp
theorem instP_bound (t : Int) : ∀ (ws : List (Int × Int)) (ks : List (List (Int × Int))) (N : Nat), (∀ l ∈ ks, l.length ≤ N) → ∀ l ∈ instP t ws ks, l.length ≤ N + ws.length
  | [], ks, N, h, l, hl => by simpa using h l (by simpa [instP] using hl)
  | (a, v) :: r, ks, N, h, l, hl => by
    have := instP_bound t r (ks.set a.toNat (putP t v (ks[a.toNat]?.getD []))) (N + 1) (fun m hm => by
      rcases List.mem_or_eq_of_mem_set hm with hm | rfl
      · have := h m hm; omega
      · have h1 := putP_length t v (ks[a.toNat]?.getD [])
        have h2 : (ks[a.toNat]?.getD []).length ≤ N := by
          cases e : ks[a.toNat]? with
          | none => simp
          | some m => simpa using h m (List.mem_of_getElem? e)
        omega) l (by simpa [instP] using hl)
    simp
    omega

def Fine (p : Int × Int) : Prop := keyB p.1 = true ∧ -1099511627776 ≤ p.2 ∧ p.2 ≤ 1099511627776

theorem keyB_nat {k : Int} (h : keyB k = true) : ∃ n : Nat, k = n ∧ n < 10 := by
  simp [keyB] at h
  exact ⟨k.toNat, by omega, by omega⟩

section
variable {w w' : World} {base s : Nat} {last : Int} {vs : List Value} {ks : List (List (Int × Int))}
theorem Sto.setLast (h : Sto P w base s last vs ks) (t : Int) : Sto P (w.setCell ⟨s, 0, none⟩ (.int .i64 t)) base s t vs ks ∧ Kept s vs vs w (w.setCell ⟨s, 0, none⟩ (.int .i64 t)) := by
  refine ⟨⟨?_, h.lv, h.lk, ?_, h.apart, h.sb⟩, ⟨rfl, rfl, rfl, by simp, fun b _ hs _ => heap_setCell_other _ _ _ _ hs, fun _ hg => .inl hg⟩⟩
  · rw [heap_setCell_same w s 0 _ P.tt _ h.blk, P.set0]
  · intro k v l hv hl
    have ho := h.own k v l hv hl
    refine ⟨ho.1, ?_⟩
    rcases ho.2 with hn | ⟨g, cap, cur, e, hb, hgg, r⟩
    · exact .inl hn
    · refine .inr ⟨g, cap, cur, e, hb, ?_, r⟩
      rw [heap_setCell_other _ _ _ _ (show g ≠ s by have := h.sb; omega)]
      exact hgg
end

set_option maxRecDepth 100000 in
set_option maxHeartbeats 2000000 in
theorem install_good (base s b off cap : Nat) (last t : Int) (vs : List Value) (ks : List (List (Int × Int))) (ws : List (Int × Int)) (w : World) (h : Sto P w base s last vs ks) (hbase : base ≤ w.heap.size)
    (hws : WRow w b off ws) (hbr : ¬ InRows vs b) (hbs : b ≠ s) (hbl : b < w.heap.size) (hfine : ∀ p ∈ ws, Fine p) (h1 : last < t) (h2 : t ≤ 1099511627776) (hn : ws.length ≤ 1000) (hks : ∀ l ∈ ks, l.length ≤ 100000) :
    Calls Tryz.prog 76 #[.pointer (some ⟨s, 0, none⟩), .int .i64 t, .slice (some ⟨b, off, none⟩) ws.length cap] w fun e w' => e = .returned .nilIface ∧
      ∃ vs', Sto P w' base s t vs' (instP t ws ks) ∧ Kept s vs vs' w w' := by
  have hc0 := h.cellLast
  have d1 : decide (t ≤ last) = false := by simp; omega
  have d2 : decide (1099511627776 < t) = false := by simp; omega
  go_enter Tryz.func76, Tryz.ntmps76
  go_wp2
  go_loopw [25] (fun i wr => ∃ k : Nat, k ≤ ws.length ∧ i = .int .i64 k ∧ Below w.heap.size w wr) (fun i _ => ws.length - (intOf i).toNat)
  case atStart => exact ⟨0, Nat.zero_le _, rfl, Below.refl _ _⟩
  case round =>
    obtain ⟨k, hk, rfl, hB⟩ := hrel
    by_cases hlt : k < ws.length
    · obtain ⟨⟨a, v⟩, hav⟩ : ∃ p, ws[k]? = some p := ⟨ws[k], List.getElem?_eq_getElem hlt⟩
      obtain ⟨hf1, hf2, hf3⟩ := hfine (a, v) (List.mem_of_getElem? hav)
      obtain ⟨ca, cv⟩ := (hws.same (hB.block b hbl)) k a v hav
      have hk0 : (0 : Int) ≤ (k : Int) := by omega
      have hk1 : (k : Int) < (ws.length : Int) := by omega
      simp only at hf1 hf2 hf3
      clear hav
      go_wp2_with (go_at_call 131; refine (wrong_good _ _ _ hf1 hf2 hf3).mono ?_; rintro e w' ⟨rfl, hb1⟩)
      go_roundw
      case rel => exact ⟨k + 1, by omega, by go_num, hB.trans (((Below.refl _ _).alloc hB.size _).trans (hb1.mono (by simp; have := hB.size; omega)))⟩
      case measure => simp [intOf]; omega
    · have hS := h.below hB
      have hwr := hws.same (hB.block b hbl)
      have hK1 : Kept s vs vs w wr := Kept.of_below hB
      clear hc0
      go_wp2
      go_loopw [42] (fun i wz => ∃ (j : Nat) (us : List Value), j ≤ ws.length ∧ i = .int .i64 j ∧ Sto P wz base s last us (instP t (ws.take j) ks) ∧ Kept s vs us w wz) (fun i _ => ws.length - (intOf i).toNat)
      case atStart => exact ⟨0, vs, Nat.zero_le _, rfl, by simpa [instP] using hS, hK1⟩
      case round =>
        clear hS hwr hK1 hB hk hlt
        obtain ⟨j, us, hj, rfl, hSz, hKz⟩ := hrel
        by_cases hlt : j < ws.length
        · obtain ⟨⟨a, v⟩, hav⟩ : ∃ p, ws[j]? = some p := ⟨ws[j], List.getElem?_eq_getElem hlt⟩
          obtain ⟨hf1, -, -⟩ := hfine (a, v) (List.mem_of_getElem? hav)
          obtain ⟨a, rfl, ha⟩ := keyB_nat hf1
          obtain ⟨ca, cv⟩ := (hws.same (hKz.block b hbl hbs hbr)) j a v hav
          have hk0 : (0 : Int) ≤ (j : Int) := by omega
          have hk1 : (j : Int) < (ws.length : Int) := by omega
          have hst : Hid (instP t (ws.take (j + 1)) ks = (instP t (ws.take j) ks).set a (putP t v ((instP t (ws.take j) ks)[a]?.getD []))) := by
            have e : ws.take (j + 1) = ws.take j ++ [((a : Int), v)] := by
              rw [List.take_add_one, hav]; rfl
            show _ = _
            rw [e, instP_snoc]
            simp
          obtain ⟨l, hl⟩ : ∃ l, (instP t (ws.take j) ks)[a]? = some l := ⟨(instP t (ws.take j) ks)[a]'(by rw [hSz.lk]; exact ha), List.getElem?_eq_getElem _⟩
          have hll : l.length < 1000000 - 1 := by
            have h1 := instP_bound t (ws.take j) ks 100000 hks l (List.mem_of_getElem? hl)
            have h2 : (ws.take j).length ≤ 1000 := by simp; omega
            omega
          have hsz := hKz.size
          have hbz : base ≤ wr.heap.size + 1 := by omega
          clear hav hf1
          go_wp2_with fail
          have hal : Below wr.heap.size wr (wr.alloc (.cells #[.int .i64 (a : Int), .int .i64 v] 78)) := (Below.refl _ _).alloc (Nat.le_refl _) _
          refine (put_any base s last us (instP t (ws.take j) ks) a l t v _ (hSz.below hal) (by simp; omega) hl (by omega)).mono ?_
          rintro e w' ⟨rfl, us', hS', hK'⟩
          go_wp2
          go_roundw
          case rel => exact ⟨j + 1, us', by omega, by go_num, by rw [hst.out, hl]; exact hS', hKz.trans ((Kept.of_below hal).trans hK')⟩
          case measure => simp [intOf]; omega
        · have e : ws.take j = ws := List.take_of_length_le (by omega)
          rw [e] at hSz
          have cz := hSz.cellLast
          have fz := hSz.free 0
          clear e
          go_wp2
          go_ret
          exact ⟨rfl, us, (hSz.setLast t).1, hKz.trans (hSz.setLast t).2⟩

set_option maxRecDepth 100000 in
set_option maxHeartbeats 2000000 in
theorem install_nil (base s : Nat) (last t : Int) (vs : List Value) (ks : List (List (Int × Int))) (w : World) (h : Sto P w base s last vs ks) (h1 : last < t) (h2 : t ≤ 1099511627776) :
    Calls Tryz.prog 76 #[.pointer (some ⟨s, 0, none⟩), .int .i64 t, .slice none 0 0] w fun e w' => e = .returned .nilIface ∧
      ∃ vs', Sto P w' base s t vs' ks ∧ Kept s vs vs' w w' := by
  have hc0 := h.cellLast
  have hf0 := h.free 0
  have d1 : decide (t ≤ last) = false := by simp; omega
  have d2 : decide (1099511627776 < t) = false := by simp; omega
  go_enter Tryz.func76, Tryz.ntmps76
  go_wp2
  go_loop [25] (fun i => i = .int .i64 0) (fun _ => 0)
  case atStart => rfl
  case round =>
    subst hrel
    go_wp2
    go_loop [42] (fun i => i = .int .i64 0) (fun _ => 0)
    case atStart => rfl
    case round =>
      subst hrel
      go_wp2
      go_ret
      exact ⟨rfl, vs, (h.setLast t).1, (h.setLast t).2⟩

end Go.Proofs.YtjefgmeejhakbaaGreatDoor
