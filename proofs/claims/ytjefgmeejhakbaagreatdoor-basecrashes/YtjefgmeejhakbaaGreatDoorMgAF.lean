/- EsPut BsRec: put together for a claim. -/
import Derived.Test.YtjefgmeejhakbaaGreatDoorEsPutWalks
import Derived.Test.YtjefgmeejhakbaaGreatDoorBsSum
/- (*Store).put over a store as it lies in memory. -/
namespace Go.Proofs.YtjefgmeejhakbaaGreatDoor
open Go.RowKit

variable {P : Tail}

/-- A key's versions when it has x at t, t not below its last one's time. -/
def putP (t x : Int) (l : List (Int × Int)) : List (Int × Int) := if l.getLast?.map Prod.fst = some t then l.dropLast ++ [(t, x)] else l ++ [(t, x)]
theorem putP_nil (t x : Int) : putP t x [] = [(t, x)] := by simp [putP]
theorem putP_same (t x y : Int) (l : List (Int × Int)) : putP t x (l ++ [(t, y)]) = l ++ [(t, x)] := by simp [putP]
theorem putP_later (t x u y : Int) (l : List (Int × Int)) (h : u ≠ t) : putP t x (l ++ [(u, y)]) = l ++ [(u, y)] ++ [(t, x)] := by simp [putP, h]

section
variable {w w' : World} {base s : Nat} {last : Int} {vs : List Value} {ks : List (List (Int × Int))}

/-- One key's row is turned. -/
theorem Sto.turn (h : Sto P w base s last vs ks) {k : Nat} {v v' : Value} (hv : vs[k]? = some v) (l' : List (Int × Int))
    (hs : w'.heap[s]? = some (.cells (P.cells last (vs.set k v')) P.tt (0, 0))) (ho : w'.ownsRow base 199 2 v' l'.length (vrow l'))
    (hr : ∀ g, InRows vs g → v.ownBlock ≠ some g → w'.heap[g]? = w.heap[g]?) (hat : v'.ownBlock = v.ownBlock ∨ ∀ g, v'.ownBlock = some g → w.heap.size ≤ g) :
    Sto P w' base s last (vs.set k v') (ks.set k l') := by
  have hk : k < vs.length := (List.getElem?_eq_some_iff.1 hv).1
  refine ⟨hs, by simp [h.lv], by simp [h.lk], ?_, ?_, h.sb⟩
  · intro j u l hu hl
    by_cases e : j = k
    · subst e
      rw [List.getElem?_set_self hk] at hu
      rw [List.getElem?_set_self (by have := h.lv; have := h.lk; omega)] at hl
      cases hu; cases hl
      exact ho
    · rw [List.getElem?_set_ne (by omega)] at hu hl
      have ho' := h.own j u l hu hl
      refine ⟨ho'.1, ?_⟩
      rcases ho'.2 with hn | ⟨g, cap, cur, hg, hb, hgg, r⟩
      · exact .inl hn
      · refine .inr ⟨g, cap, cur, hg, hb, (hr g ⟨u, List.mem_of_getElem? hu, by rw [hg]; rfl⟩ (fun hx => e ?_)).trans hgg, r⟩
        exact (h.apart k j v u g hv hu hx (by rw [hg]; rfl)).symm
  · have old : ∀ j u g, j ≠ k → vs[j]? = some u → u.ownBlock = some g → v'.ownBlock = some g → False := by
      intro j u g hj hu hg hg'
      rcases hat with e | e
      · rw [e] at hg'
        exact hj (h.apart j k u v g hu hv hg hg')
      · have h1 := e g hg'
        have h2 := (h.row ⟨u, List.mem_of_getElem? hu, hg⟩).2
        omega
    intro i j a b g ha hb hga hgb
    by_cases ei : i = k
    · by_cases ej : j = k
      · omega
      · subst ei
        rw [List.getElem?_set_self hk] at ha
        rw [List.getElem?_set_ne (by omega)] at hb
        cases ha
        exact (old j b g ej hb hgb hga).elim
    · by_cases ej : j = k
      · subst ej
        rw [List.getElem?_set_self hk] at hb
        rw [List.getElem?_set_ne (by omega)] at ha
        cases hb
        exact (old i a g ei ha hga hgb).elim
      · rw [List.getElem?_set_ne (by omega)] at ha hb
        exact h.apart i j a b g ha hb hga hgb

/-- .. and what is left of the rest. -/
theorem Kept.turn (_h : Sto P w base s last vs ks) {k : Nat} {v v' : Value} (hv : vs[k]? = some v) (hos : w'.os = w.os) (htp : w'.tape = w.tape) (hout : w'.output = w.output) (hsz : w.heap.size ≤ w'.heap.size)
    (hb : ∀ b, b < w.heap.size → b ≠ s → v.ownBlock ≠ some b → w'.heap[b]? = w.heap[b]?) (hat : v'.ownBlock = v.ownBlock ∨ ∀ g, v'.ownBlock = some g → w.heap.size ≤ g) :
    Kept s vs (vs.set k v') w w' := by
  refine ⟨hos, htp, hout, hsz, fun b h1 h2 h3 => hb b h1 h2 (fun e => h3 ⟨v, List.mem_of_getElem? hv, e⟩), ?_⟩
  rintro g ⟨u, hu, hg⟩
  obtain ⟨j, hj, e⟩ := List.mem_iff_getElem.1 hu
  by_cases ej : j = k
  · subst ej
    rw [List.getElem_set_self] at e
    subst e
    rcases hat with e | e
    · exact .inl ⟨v, List.mem_of_getElem? hv, by rw [← e]; exact hg⟩
    · exact .inr (e g hg)
  · rw [List.getElem_set_ne (by omega)] at e
    exact .inl ⟨u, by rw [← e]; exact List.getElem_mem _, hg⟩

theorem ownBlock_eq (g n cap : Nat) : (Value.slice (some ⟨g, 0, none⟩) n cap).ownBlock = some g := rfl

/-- A row that has grown at its end, and lies in the store's cell. -/
theorem put_grown (h : Sto P w base s last vs ks) {k : Nat} {v : Value} (hv : vs[k]? = some v) (l' : List (Int × Int)) (gg cap n : Nat) (w1 : World) (hn : n = l'.length)
    (ho : w1.ownsRow base 199 2 (.slice (some ⟨gg, 0, none⟩) n cap) n (vrow l')) (hg : w.grownBy w1 v.ownBlock) (hat : v.ownBlock = some gg ∨ w.heap.size ≤ gg) :
    Sto P (w1.setCell ⟨s, 1 + k, none⟩ (.slice (some ⟨gg, 0, none⟩) n cap)) base s last (vs.set k (.slice (some ⟨gg, 0, none⟩) n cap)) (ks.set k l') ∧
      Kept s vs (vs.set k (.slice (some ⟨gg, 0, none⟩) n cap)) w (w1.setCell ⟨s, 1 + k, none⟩ (.slice (some ⟨gg, 0, none⟩) n cap)) := by
  subst hn
  have hsr : some s ≠ v.ownBlock := fun e => by
    have := (h.row ⟨v, List.mem_of_getElem? hv, e.symm⟩).1
    have := h.sb
    omega
  have hs1 : w1.heap[s]? = some (.cells (P.cells last vs) P.tt (0, 0)) := (hg.block s h.lt hsr).trans h.blk
  have hat' : (Value.slice (some ⟨gg, 0, none⟩) l'.length cap).ownBlock = v.ownBlock ∨ ∀ g, (Value.slice (some ⟨gg, 0, none⟩) l'.length cap).ownBlock = some g → w.heap.size ≤ g := by
    rcases hat with e | e
    · exact .inl e.symm
    · exact .inr (fun g hg => by rw [ownBlock_eq] at hg; cases hg; exact e)
  have hbb := (ho.lt gg rfl).1
  have hsb := h.sb
  refine ⟨h.turn hv l' ?_ ?_ ?_ hat', Kept.turn h hv hg.os hg.tape hg.output (by have := hg.size; simpa using this) ?_ hat'⟩
  · rw [heap_setCell_same w1 s (1 + k) _ P.tt _ hs1, P.setk last (List.getElem?_eq_some_iff.1 hv).1]
  · refine ⟨ho.1, ?_⟩
    rcases ho.2 with hn | ⟨g, cp, cur, e, hb, hgg, r⟩
    · exact .inl hn
    · refine .inr ⟨g, cp, cur, e, hb, ?_, r⟩
      rw [heap_setCell_other _ _ _ _ (show g ≠ s by omega)]
      exact hgg
  · intro g hr hne
    have := h.row hr
    rw [heap_setCell_other _ _ _ _ (show g ≠ s by omega)]
    exact hg.block g this.2 (fun e => hne e.symm)
  · intro b hb hbs hne
    rw [heap_setCell_other _ _ _ _ hbs]
    exact hg.block b hb (fun e => hne e.symm)
end

set_option maxHeartbeats 1000000 in
theorem put_any (base s : Nat) (last : Int) (vs : List Value) (ks : List (List (Int × Int))) (k : Nat) (l : List (Int × Int)) (t x : Int) (w : World) (h : Sto P w base s last vs ks) (hbase : base ≤ w.heap.size)
    (hl : ks[k]? = some l) (hlen : l.length < 1000000) :
    Calls Tryz.prog 132 #[.pointer (some ⟨s, 0, none⟩), .int .i64 t, .agg #[.int .i64 (k : Int), .int .i64 x]] w fun e w' => e = .returned (.tuple #[]) ∧
      ∃ vs', Sto P w' base s last vs' (ks.set k (putP t x l)) ∧ Kept s vs vs' w w' := by
  have hk : k < 10 := by have := (List.getElem?_eq_some_iff.1 hl).1; have := h.lk; omega
  obtain ⟨v, hv⟩ : ∃ v, vs[k]? = some v := ⟨vs[k]'(by have := h.lv; omega), List.getElem?_eq_getElem _⟩
  have ho := h.own k v l hv hl
  have hsr : some s ≠ v.ownBlock := fun e => by
    have := (h.row ⟨v, List.mem_of_getElem? hv, e.symm⟩).1
    have := h.sb
    omega
  rcases List.eq_nil_or_concat l with rfl | ⟨l0, ⟨u, y⟩, rfl⟩
  · obtain ⟨ad, cap, rfl⟩ : ∃ ad cap, v = .slice ad 0 cap := by
      rcases ho.2 with ⟨e, _⟩ | ⟨g, cap, cur, e, _⟩
      · exact ⟨none, 0, e⟩
      · exact ⟨_, _, e⟩
    refine (put_first s k cap base ad t x (vrow []) w hk (h.cell hv) (h.free _) hsr (fun e => ?_) ho hbase).mono ?_
    · have := (h.row ⟨_, List.mem_of_getElem? hv, e.symm⟩).2
      omega
    · rintro e w' ⟨rfl, gg, cap', w1, rfl, hown, hg, hat, _⟩
      rw [putP_nil]
      exact ⟨rfl, _, put_grown h hv [(t, x)] gg cap' 1 w1 rfl hown hg hat⟩
  · simp only [List.concat_eq_append] at *
    obtain ⟨g, cap, cur, rfl, hgb, hgg, hcap, hml, hsz, htake⟩ : ∃ g cap cur, v = .slice (some ⟨g, 0, none⟩) (l0.length + 1) cap ∧ base ≤ g ∧ w.heap[g]? = some (.cells cur 199 (0, 0)) ∧ l0.length + 1 ≤ cap ∧ cap ≤ maxLen ∧ cur.size = cap * 2 ∧
        cur.toList.take ((l0.length + 1) * 2) = vrow (l0 ++ [(u, y)]) := by
      rcases ho.2 with ⟨_, e⟩ | ⟨g, cap, cur, e, h1, h2, h3, h4, h5, h6⟩
      · simp at e
      · simp only [List.length_append, List.length_cons, List.length_nil, Nat.zero_add] at e h3 h6
        exact ⟨g, cap, cur, e, h1, h2, h3, h4, h5, h6⟩
    have hcs := ho.cells (g := g) rfl
    have hget := vrow_get (l0 ++ [(u, y)]) l0.length u y (by simp)
    have c1 := hcs _ _ hget.1
    have c2 := hcs _ _ hget.2
    rw [addr_add] at c1 c2
    have hm : l0.length < 1000000 := by simp at hlen; omega
    by_cases hut : u = t
    · subst hut
      rw [putP_same]
      refine (put_same s k g l0.length cap u x y w hk hm (h.cell hv) c1 c2 (frozen_of_row w g _ cur 199 hgg)).mono ?_
      rintro e w' ⟨rfl, n, rfl⟩
      have hsg : s ≠ g := by have := h.sb; omega
      have hW : ((w.alloc (.cells #[.int .i64 (k : Int), .int .i64 x] 78)).drewN n).heap[g]? = some (.cells cur 199 (0, 0)) := (Below.heap_alloc w _ g (Array.getElem?_eq_some_iff.1 hgg).1).trans hgg
      refine ⟨rfl, vs, ?_⟩
      have e1 : vs.set k (.slice (some ⟨g, 0, none⟩) (l0.length + 1) cap) = vs := by
        apply List.ext_getElem?
        intro j
        by_cases ej : j = k
        · subst ej; rw [List.getElem?_set_self (List.getElem?_eq_some_iff.1 hv).1, hv]
        · rw [List.getElem?_set_ne (by omega)]
      have hold : ∀ b, b < w.heap.size → b ≠ g → (((w.alloc (.cells #[.int .i64 (k : Int), .int .i64 x] 78)).drewN n).setCell ⟨g, l0.length * 2 + 1, none⟩ (.int .i64 x)).heap[b]? = w.heap[b]? := fun b hb hne =>
        (heap_setCell_other _ _ _ _ hne).trans (Below.heap_alloc w _ b hb)
      have r1 := h.turn (w' := ((w.alloc (.cells #[.int .i64 (k : Int), .int .i64 x] 78)).drewN n).setCell ⟨g, l0.length * 2 + 1, none⟩ (.int .i64 x)) hv (l0 ++ [(u, x)]) (v' := .slice (some ⟨g, 0, none⟩) (l0.length + 1) cap)
        (by rw [e1]; exact (hold s h.lt hsg).trans h.blk)
        ⟨by rw [vrow_length], .inr ⟨g, cap, _, by simp, hgb, heap_setCell_same _ g _ cur 199 _ hW, by simpa using hcap, hml, by simpa using hsz, by
          have e2 : vrow (l0 ++ [(u, x)]) = (vrow (l0 ++ [(u, y)])).set (l0.length * 2 + 1) (.int .i64 x) := by
            rw [vrow_append, vrow_append, ← vrow_length l0, List.set_append_right _ _ (by omega)]
            simp [vrow]
          rw [e2, ← htake]
          simp [List.take_set]⟩⟩
        (fun b hb hne => hold b (h.row hb).2 (fun e => hne (by rw [e]; rfl))) (.inl rfl)
      rw [e1] at r1
      refine ⟨r1, ?_⟩
      have r2 := Kept.turn (w' := ((w.alloc (.cells #[.int .i64 (k : Int), .int .i64 x] 78)).drewN n).setCell ⟨g, l0.length * 2 + 1, none⟩ (.int .i64 x)) (v' := .slice (some ⟨g, 0, none⟩) (l0.length + 1) cap) h hv rfl rfl rfl (by simp)
        (fun b hb hbs hne => hold b hb (fun e => hne (by rw [e]; rfl))) (.inl rfl)
      rw [e1] at r2
      exact r2
    · rw [putP_later _ _ _ _ _ hut]
      refine (put_later s k g l0.length cap base t x u (vrow (l0 ++ [(u, y)])) w hk hm (h.cell hv) c1 (by simpa using hut) (h.free _) (by have := h.sb; omega) (by simpa using ho) hbase).mono ?_
      rintro e w' ⟨rfl, gg, cap', w1, rfl, hown, hg, hat, _⟩
      refine ⟨rfl, _, put_grown h hv (l0 ++ [(u, y)] ++ [(t, x)]) gg cap' (l0.length + 2) w1 (by simp) (by rw [vrow_append]; exact hown) hg (hat.elim (fun e => .inl (by rw [e]; rfl)) .inr)⟩

end Go.Proofs.YtjefgmeejhakbaaGreatDoor

/- base's record: a commit's bytes. -/
namespace Go.Proofs.YtjefgmeejhakbaaGreatDoor
open Go.RowKit

def valN (v : Int) : Nat := (v % 18446744073709551616).toNat
theorem valN_lt (v : Int) : valN v < 2 ^ 64 := by
  unfold valN
  have h1 := Int.emod_nonneg v (show (18446744073709551616 : Int) ≠ 0 by decide)
  have h2 := Int.emod_lt_of_pos v (show (0 : Int) < 18446744073709551616 by decide)
  omega
def wrB (p : Int × Int) : List Int := p.1 :: bytesN (valN p.2) 8
def headP (ws : List (Int × Int)) : List Int := (ws.length : Int) :: ws.flatMap wrB
def sumN (l : List Int) : Nat := (sumP l).toNat
/-- A commit's bytes. -/
def recP (ws : List (Int × Int)) : List Int := headP ws ++ bytesN (sumN (headP ws)) 8
theorem wrB_len (p : Int × Int) : (wrB p).length = 9 := by unfold wrB; rw [List.length_cons, bytesN_len]
theorem flat_len9 : ∀ ws : List (Int × Int), (ws.flatMap wrB).length = 9 * ws.length
  | [] => rfl
  | p :: r => by
    rw [List.flatMap_cons, List.length_append, wrB_len, flat_len9 r, List.length_cons]
    omega
theorem headP_len (ws : List (Int × Int)) : (headP ws).length = 1 + 9 * ws.length := by
  unfold headP
  rw [List.length_cons, flat_len9]
  omega
theorem recP_len (ws : List (Int × Int)) : (recP ws).length = 9 + 9 * ws.length := by
  unfold recP
  rw [List.length_append, headP_len, bytesN_len]
  omega
theorem u64_mod (n : Int) : IntKind.u64.wrap n = n % 18446744073709551616 := by
  simp [IntKind.wrap, IntKind.bits, IntKind.signed]
theorem u64_bounds (n : Int) : 0 ≤ IntKind.u64.wrap n ∧ IntKind.u64.wrap n < 18446744073709551616 := by
  rw [u64_mod]
  exact ⟨Int.emod_nonneg n (by decide), Int.emod_lt_of_pos n (by decide)⟩
theorem sumP_in (l : List Int) : 0 ≤ sumP l ∧ sumP l < 18446744073709551616 := by
  have key : ∀ (l : List Int) (s : Int), (0 ≤ s ∧ s < 18446744073709551616) → 0 ≤ l.foldl sumStep s ∧ l.foldl sumStep s < 18446744073709551616 := by
    intro l
    induction l with
    | nil => intro s h; exact h
    | cons x r ih =>
      intro s _
      refine ih _ ?_
      unfold sumStep
      exact u64_bounds _
  exact key l 0 (by decide)

theorem headP_in (ws : List (Int × Int)) (hn : ws.length ≤ 10) (hk : ∀ p ∈ ws, 0 ≤ p.1 ∧ p.1 < 10) : ∀ x ∈ headP ws, 0 ≤ x ∧ x < 256 := fun x hx => by
  rcases List.mem_cons.1 hx with rfl | hx
  · omega
  · obtain ⟨p, hp, hx⟩ := List.mem_flatMap.1 hx
    rcases List.mem_cons.1 hx with rfl | hx
    · have := hk p hp; omega
    · exact bytesN_in _ _ x hx
set_option maxRecDepth 100000 in
set_option maxHeartbeats 1000000 in
theorem record_any (wad : Option Addr) (wcap : Nat) (ws : List (Int × Int)) (w : World) (hn : ws.length ≤ 10) (hk : ∀ p ∈ ws, 0 ≤ p.1 ∧ p.1 < 10) (hA : ∀ (j : Nat) (a x : Int), ws[j]? = some (a, x) → ∃ g off, wad = some ⟨g, off, none⟩ ∧ g < w.heap.size ∧ w.cell? ⟨g, off + j * 2, none⟩ = some (.int .i64 a) ∧ w.cell? ⟨g, off + j * 2 + 1, none⟩ = some (.int .i64 x)) :
    Calls Tryz.prog 108 #[.slice wad ws.length wcap] w fun e w' => ∃ v', e = .returned v' ∧ w'.ownsRow w.heap.size 5 1 v' (recP ws).length (u8V (recP ws)) ∧ Below w.heap.size w w' := by
  obtain ⟨i0, hi0, hz0, hz1, hz2⟩ := info_parts info5
  have HA := hid hA
  have HK := hid hk
  clear hA hk
  go_enter Tryz.func108, Tryz.ntmps108
  go_wp2
  go_loopw [3, 12] (fun tv jv wr => ∃ j : Nat, jv = .int .i64 j ∧ j ≤ ws.length ∧ Hid (wr.ownsRow w.heap.size 5 1 tv (1 + 9 * j) (u8V ((ws.length : Int) :: (ws.take j).flatMap wrB)) ∧ Below w.heap.size w wr)) (fun _ jv _ => ws.length - (intOf jv).toNat)
  case atStart => exact ⟨0, rfl, Nat.zero_le _, ⟨by simp [u8V], .inr ⟨w.heap.size, 1, #[.int .u8 (ws.length : Int)], rfl, Nat.le_refl _, heap_alloc_new w _, by omega, by simp [maxLen], by simp, by simp [u8V]⟩⟩, (Below.refl _ w).alloc (Nat.le_refl _) _⟩
  case round =>
    obtain ⟨j, rfl, hj, HX⟩ := hrel
    by_cases hlt : j < ws.length
    · obtain ⟨⟨a, x⟩, hax⟩ : ∃ p, ws[j]? = some p := ⟨_, List.getElem?_eq_getElem hlt⟩
      obtain ⟨g, off, rfl, hg, c0, c1⟩ := HA.out j a x hax
      have hka := HK.out (a, x) (List.mem_of_getElem? hax)
      simp only at hka
      have s0 := (HX.out.2.cell (p := ⟨g, off + j * 2, none⟩) hg).trans c0
      have s1 := (HX.out.2.cell (p := ⟨g, off + j * 2 + 1, none⟩) hg).trans c1
      have gj0 : (0 : Int) ≤ (j : Int) := by omega
      have gj1 : (j : Int) < (ws.length : Int) := by omega
      have gka : IntKind.u8.wrap a = a := IntWalk.u8_in a (by omega)
      have HO := hid HX.out.1
      have hbs := HX.out.2.size
      have hst : Hid (u8V ((ws.length : Int) :: (ws.take (j + 1)).flatMap wrB) = u8V ((ws.length : Int) :: (ws.take j).flatMap wrB) ++ ([.int .u8 a] ++ u8V (bytesN (valN x) 8))) := by
        show _ = _
        rw [List.take_add_one, hax]
        simp [u8V, wrB]
      have hnew : ((wr.alloc (.cells #[.int .i64 a, .int .i64 x] 78)).alloc (.cells #[.int .u8 a] 5)).heap[wr.heap.size + 1]? = some (.cells #[.int .u8 a] 5 (0, 0)) := by
        rw [show wr.heap.size + 1 = (wr.alloc (.cells #[.int .i64 a, .int .i64 x] 78)).heap.size by simp]
        exact heap_alloc_new _ _
      have hbox : ∀ w2, ((wr.alloc (.cells #[.int .i64 a, .int .i64 x] 78)).alloc (.cells #[.int .u8 a] 5)).grownBy w2 u3.ownBlock → w2.cell? ⟨wr.heap.size, 1, none⟩ = some (.int .i64 x) ∧ Below w.heap.size w w2 := fun w2 hgr => by
        have hs2 : ((wr.alloc (.cells #[.int .i64 a, .int .i64 x] 78)).alloc (.cells #[.int .u8 a] 5)).heap.size = wr.heap.size + 2 := by simp
        refine ⟨?_, ?_⟩
        · rw [World.cell?_of_block (a := ⟨wr.heap.size, 1, none⟩) (hgr.block wr.heap.size (by omega) (fun e => by have := (HO.out.lt _ e.symm).2; omega)), World.cell?_of_block (a := ⟨wr.heap.size, 1, none⟩) (w := wr.alloc (.cells #[.int .i64 a, .int .i64 x] 78)) (Below.heap_alloc _ _ _ (by simp))]
          exact (cell_of_row _ wr.heap.size 1 _ _ (0, 0) (heap_alloc_new wr _)).trans rfl
        · exact (((HX.out.2.alloc hbs _).alloc (by simp; omega) _)).grown hgr (by omega) (fun k e => (HO.out.lt k e).1)
      have HBOX := hid hbox
      have HLN := hid (show (((ws.length : Int) :: (ws.take j).flatMap wrB) ++ [a]).length = 1 + 9 * j + 1 by rw [List.length_append, List.length_cons, flat_len9, List.length_take]; simp; omega)
      have hval : IntKind.u64.wrap x = ((valN x : Nat) : Int) := by rw [u64_mod]; unfold valN; have := Int.emod_nonneg x (show (18446744073709551616 : Int) ≠ 0 by decide); omega
      clear c0 c1 hax hbox
      go_wp2_with (at_builtin; refine wpList_append_lies _ rfl _ _ _ rfl w.heap.size 5 i0 _ 1 1 Tryz.underlying93 hi0 hz0 hz1 hz2 rfl (by omega) u3 _ _ rfl ((HO.out.alloc _).alloc _) ⟨wr.heap.size + 1, 0, none⟩ 1 1 [.int .u8 a] rfl rfl (World.news_of_block (cs := #[.int .u8 a]) (t := 5) (fr := (0, 0)) hnew) (by simp [Value.oneCell']) (by omega) (by unfold maxLen; omega) (by omega) (by simp; omega) (wr.heap.size + 2) (by simp) ?_; intro g' cap' w2 ho hgrow hat hlt2; have d1 := (HBOX.out w2 hgrow).1)
      have HO2 := hid (show w2.ownsRow w.heap.size 5 1 (.slice (some ⟨g', 0, none⟩) (1 + 9 * j + 1) cap') (((ws.length : Int) :: (ws.take j).flatMap wrB) ++ [a]).length (u8V (((ws.length : Int) :: (ws.take j).flatMap wrB) ++ [a])) by
        rw [u8V_append, HLN.out]
        exact ho)
      have HB2 := hid (HBOX.out w2 hgrow).2
      clear ho hgrow hat hlt2 d1 hnew
      refine (appendNumber_any _ (((ws.length : Int) :: (ws.take j).flatMap wrB) ++ [a]) (valN x) w.heap.size w2 (by rw [HLN.out]; omega) HB2.out.size HO2.out).mono ?_
      rintro e w3 ⟨v3, rfl, ho3, hB3⟩
      have HO3 := hid (show w3.ownsRow w.heap.size 5 1 v3 (1 + 9 * (j + 1)) (u8V ((ws.length : Int) :: (ws.take (j + 1)).flatMap wrB)) by
        have e1 : ((((ws.length : Int) :: (ws.take j).flatMap wrB) ++ [a]) ++ bytesN (valN x) 8).length = 1 + 9 * (j + 1) := by
          rw [List.length_append, HLN.out, bytesN_len]; omega
        rw [e1, u8V_append, u8V_append, List.append_assoc] at ho3
        rw [hst.out]
        exact ho3)
      have HB3 := hid (HB2.out.trans hB3)
      clear ho3 hB3
      go_wp2
      go_roundw
      case rel => exact ⟨j + 1, by go_num, by omega, HO3.out, HB3.out⟩
      case measure => simp [intOf]; omega
    · obtain rfl : j = ws.length := by omega
      have gj1 : ¬ (ws.length : Int) < (ws.length : Int) := by omega
      rw [List.take_length] at HX
      have hln : (headP ws).length = 1 + 9 * ws.length := headP_len ws
      have HO := hid (show wr.ownsRow w.heap.size 5 1 u3 (headP ws).length (u8V (headP ws)) by rw [hln]; exact HX.out.1)
      have HB := hid HX.out.2
      have hin := headP_in ws hn HK.out
      have hrec : recP ws = headP ws ++ bytesN (sumN (headP ws)) 8 := rfl
      have hsn : sumP (headP ws) = ((sumN (headP ws) : Nat) : Int) := by
        unfold sumN
        have := sumP_in (headP ws)
        omega
      obtain ⟨sn, hsn2⟩ : ∃ sn, sumN (headP ws) = sn := ⟨_, rfl⟩
      rw [hsn2] at hrec hsn
      obtain ⟨hd, hhd⟩ : ∃ hd, headP ws = hd := ⟨_, rfl⟩
      rw [hhd] at HO hln hin hrec hsn
      obtain ⟨rad, rcap, hrf⟩ := row_form HO.out
      subst hrf
      have HSM := hid (bsum_any rad rcap hd wr (by omega) (fun i y hy => by
        refine ⟨hin y (List.mem_of_getElem? hy), ?_⟩
        rcases row_slice HO.out with ⟨_, e0⟩ | ⟨g, c, e, hg, hc⟩
        · have := (List.getElem?_eq_some_iff.1 hy).1; omega
        · injection e with e1 e2 e3
          exact ⟨g, 0, e1, by rw [Nat.zero_add]; exact hc _ _ (u8V_get hy)⟩))
      rw [hsn] at HSM
      have HREC := hid hrec
      have HLH := hid hln
      clear hsn HX hrec hsn2 hhd hln hin
      go_wp2_with fail
      refine HSM.out.mono ?_
      rintro e w2 ⟨rfl, hw2⟩
      rw [hw2]
      clear hw2 w2 HSM
      go_wp2_with fail
      refine (appendNumber_any _ hd sn w.heap.size wr (by have := HLH.out; omega) HB.out.size HO.out).mono ?_
      rintro e w3 ⟨v3, rfl, ho3, hB3⟩
      have HF := hid (And.intro ho3 (HB.out.trans hB3))
      clear ho3 hB3
      go_wp2
      go_ret
      exact ⟨v3, rfl, by rw [HREC.out]; exact HF.out⟩

end Go.Proofs.YtjefgmeejhakbaaGreatDoor
