/- EnHead EnEnd: put together for a claim. -/
import Derived.Test.YtjefgmeejhakbaaGreatDoorEnLoseQ
/- The engine's lock table, or its store, is turned. -/
namespace Go.Proofs.YtjefgmeejhakbaaGreatDoor
open Go.RowKit
variable {w w' : World} {L : EnL} {E : Eng}
theorem TabAt.tight {C : Emb} {s N : Nat} {M : LkM} {T : Tab} (h : TabAt C w s N M T) (hg : Good T) (hm : ∀ k x, x ∈ T k → 1 ≤ x ∧ x ≤ 200) : TabAt C w s 201 M T := by
  obtain ⟨hh, wa, ln, r, R⟩ := h
  have hne : ∀ k, T k ≠ [] → 0 ≤ k ∧ k < (201 : Nat) := fun k hk => by have := hg.tidy.rng k hk; omega
  refine ⟨hh, wa, ln, ⟨r.blk, r.mh.upTo 201 (fun k hk => hne k (fun e => hk (by rw [R.h k, e]; rfl))), r.mw.upTo 201 (fun x hx => ?_), r.ml.upTo 201 (fun k hk => hne k (fun e => hk (r.ln0 k (by rw [R.ln k, e]; rfl)))), r.ln0, r.ln1, r.ap, r.d1, r.d2, r.both, fun k => ?_⟩, R⟩
  · have h1 : waitsP T x ≠ -1 := fun e => hx (by rw [(R.wa x).2.2 e]; rfl)
    rcases waits_cases T x with e | ⟨e, _⟩
    · exact (h1 e).elim
    · have := hm _ _ (List.mem_of_mem_tail (mem_of_waits e))
      omega
  · rw [R.ln k]
    have := nodup_le (T k) (upTo 201) (hg.tidy.nod k) (fun x hx => mem_upTo (by have := hm k x hx; omega) (by have := hm k x hx; omega))
    rw [upTo_length] at this
    simp only [List.length_tail]
    omega
theorem Sto.reblk {P P' : Tail} {base s : Nat} {last last' : Int} {vs : List Value} {ks : List (List (Int × Int))} (h : Sto P w base s last vs ks) (hb : w'.heap[s]? = some (.cells (P'.cells last' vs) P'.tt (0, 0))) (hr : ∀ g, InRows vs g → w'.heap[g]? = w.heap[g]?) : Sto P' w' base s last' vs ks :=
  ⟨hb, h.lv, h.lk, fun k v l hv hl => owns_same (h.own k v l hv hl) (fun g hg => hr g ⟨v, List.mem_of_getElem? hv, hg⟩), h.apart, h.sb⟩
theorem TabAt.reblk {C C' : Emb} {s N : Nat} {M : LkM} {T : Tab} (h : TabAt C w s N M T) (hb : w'.heap[s]? = some (.cells (C'.cells (.map M.mh) (.map M.mw) (.map M.ml)) C'.tt (0, 0))) (hr : ∀ g, M.own s g → g ≠ s → w'.heap[g]? = w.heap[g]?) : TabAt C' w' s N M T := by
  obtain ⟨hh, wa, ln, r, R⟩ := h
  refine ⟨hh, wa, ln, ⟨hb, r.mh.same (fun b e => hr b (.inr (.inl e)) (fun e2 => r.map_ne.1 (e2 ▸ e))), r.mw.same (fun b e => hr b (.inr (.inr (.inl e))) (fun e2 => r.map_ne.2.1 (e2 ▸ e))), r.ml.same (fun b e => hr b (.inr (.inr (.inr (.inl e)))) (fun e2 => r.map_ne.2.2 (e2 ▸ e))), r.ln0, fun k hk => ?_, r.ap, r.d1, r.d2, r.both, r.len⟩, R⟩
  obtain ⟨v, hv, ho⟩ := r.ln1 k hk
  exact ⟨v, hv, owns_same ho (fun g hg => hr g (.inr (.inr (.inr (.inr ⟨k, v, hv, hg⟩)))) (r.row_ne hv hg).1)⟩
theorem TabAt.blk {C : Emb} {s N : Nat} {M : LkM} {T : Tab} (h : TabAt C w s N M T) : w.heap[s]? = some (.cells (C.cells (.map M.mh) (.map M.mw) (.map M.ml)) C.tt (0, 0)) := by
  obtain ⟨_, _, _, r, _⟩ := h
  exact r.blk
theorem EnAt.setLock (h : EnAt w L E) {M' : LkM} {N : Nat} {T' : Tab} (hT : TabAt (L.C E.last) w' L.s N M' T') (hK : KeptO (L.M.own L.s) (M'.own L.s) w w') (hg : Good T') (hm : ∀ k x, x ∈ T' k → 1 ≤ x ∧ x ≤ E.txs.length) :
    EnAt w' { L with M := M' } { E with T := T' } ∧ KeptO L.own ({ L with M := M' } : EnL).own w w' := by
  obtain ⟨ρ, T⟩ := h.tag
  have hle := h.le
  have hk : ∀ g, L.own g → ρ g ≠ .eng → ρ g ≠ .lock → w'.heap[g]? = w.heap[g]? := fun g hg h1 h2 => hK.block g (h.own_lt hg) (fun ho => by
    by_cases e : g = L.s
    · exact h1 (by rw [e]; exact T.eng)
    · exact h2 (T.lock g ho e))
  have hblk := hT.blk
  rw [show (L.C E.last) = (({ L with M := M' } : EnL).C E.last) from rfl] at hblk
  refine ⟨⟨h.sto.reblk ?_ (fun g hg => hk g (.inr (.inl hg)) (by rw [T.srow g hg]; exact nofun) (by rw [T.srow g hg]; exact nofun)), hT.tight hg (fun k x hx => by have := hm k x hx; omega), hg, hm,
    owns_same h.all (fun g hg => hk g (.inr (.inr (.inr (.inl hg)))) (by rw [T.all g hg]; exact nofun) (by rw [T.all g hg]; exact nofun)), h.len, h.le,
    h.wr.same (hk _ (.inr (.inr (.inr (.inr (.inl rfl))))) (by rw [T.wr]; exact nofun) (by rw [T.wr]; exact nofun)), owns_same h.com (fun g hg => hk g (.inr (.inr (.inr (.inr (.inr (.inl hg)))))) (by rw [T.com g hg]; exact nofun) (by rw [T.com g hg]; exact nofun)), h.coml,
    fun i l t hl ht => (h.txs i l t hl ht).same (fun g hg => hk g (TxL.own_in (L := L) hl hg) (by rw [T.tx i l g hl hg]; exact nofun) (by rw [T.tx i l g hl hg]; exact nofun)), fun g => if g < w.heap.size then ρ g else .lock, ?_⟩, ?_⟩
  · exact hblk.trans (by rw [← EnL.cells_eq]; rfl)
  · have hlt : ∀ g, L.own g → (if g < w.heap.size then ρ g else Tag.lock) = ρ g := fun g hg => if_pos (h.own_lt hg)
    refine ⟨(hlt _ (.inl rfl)).trans T.eng, fun g hg => (hlt g (.inr (.inl hg))).trans (T.srow g hg), fun g hg hn => ?_, fun g hg => (hlt g (.inr (.inr (.inr (.inl hg))))).trans (T.all g hg), (hlt _ (.inr (.inr (.inr (.inr (.inl rfl)))))).trans T.wr,
      fun g hg => (hlt g (.inr (.inr (.inr (.inr (.inr (.inl hg))))))).trans (T.com g hg), fun j m g hm hg => (hlt g (TxL.own_in (L := L) hm hg)).trans (T.tx j m g hm hg)⟩
    rcases hK.sub g hg with ho | ho
    · exact (hlt g (.inr (.inr (.inl ho)))).trans (T.lock g ho hn)
    · simp only [if_neg (Nat.not_lt.2 ho)]
  · refine ⟨hK.os, hK.tape, hK.output, hK.size, fun g hg hn => hK.block g hg (fun ho => hn (.inr (.inr (.inl ho)))), fun g hg => ?_⟩
    rcases hg with h1 | h1 | h1 | h1 | h1 | h1 | h1
    · exact .inl (.inl h1)
    · exact .inl (.inr (.inl h1))
    · rcases hK.sub g h1 with h2 | h2
      · exact .inl (.inr (.inr (.inl h2)))
      · exact .inr h2
    · exact .inl (.inr (.inr (.inr (.inl h1))))
    · exact .inl (.inr (.inr (.inr (.inr (.inl h1)))))
    · exact .inl (.inr (.inr (.inr (.inr (.inr (.inl h1))))))
    · exact .inl (.inr (.inr (.inr (.inr (.inr (.inr h1))))))
theorem EnAt.setSto (h : EnAt w L E) {last' : Int} {vs' : List Value} {ks' : List (List (Int × Int))} (hS : Sto L.P w' (L.s + 1) L.s last' vs' ks') (hK : Kept L.s L.vs vs' w w') :
    EnAt w' { L with vs := vs' } { E with last := last', ks := ks' } ∧ KeptO L.own ({ L with vs := vs' } : EnL).own w w' := by
  obtain ⟨ρ, T⟩ := h.tag
  have hk : ∀ g, L.own g → ρ g ≠ .eng → ρ g ≠ .srow → w'.heap[g]? = w.heap[g]? := fun g hg h1 h2 => hK.block g (h.own_lt hg) (fun e => h1 (by rw [e]; exact T.eng)) (fun ho => h2 (T.srow g ho))
  have hlv := hS.lv
  refine ⟨⟨hS, h.loc.reblk (C' := ({ L with vs := vs' } : EnL).C last') ?_ (fun g hg hne => hk g (.inr (.inr (.inl hg))) (by rw [T.lock g hg hne]; exact nofun) (by rw [T.lock g hg hne]; exact nofun)), h.good, h.mem,
    owns_same h.all (fun g hg => hk g (.inr (.inr (.inr (.inl hg)))) (by rw [T.all g hg]; exact nofun) (by rw [T.all g hg]; exact nofun)), h.len, h.le,
    h.wr.same (hk _ (.inr (.inr (.inr (.inr (.inl rfl))))) (by rw [T.wr]; exact nofun) (by rw [T.wr]; exact nofun)), owns_same h.com (fun g hg => hk g (.inr (.inr (.inr (.inr (.inr (.inl hg)))))) (by rw [T.com g hg]; exact nofun) (by rw [T.com g hg]; exact nofun)), h.coml,
    fun i l t hl ht => (h.txs i l t hl ht).same (fun g hg => hk g (TxL.own_in (L := L) hl hg) (by rw [T.tx i l g hl hg]; exact nofun) (by rw [T.tx i l g hl hg]; exact nofun)), fun g => if g < w.heap.size then ρ g else .srow, ?_⟩, ?_⟩
  · exact hS.blk.trans (by rw [← EnL.cells_eq]; rfl)
  · have hlt : ∀ g, L.own g → (if g < w.heap.size then ρ g else Tag.srow) = ρ g := fun g hg => if_pos (h.own_lt hg)
    refine ⟨(hlt _ (.inl rfl)).trans T.eng, fun g hg => ?_, fun g hg hn => (hlt g (.inr (.inr (.inl hg)))).trans (T.lock g hg hn), fun g hg => (hlt g (.inr (.inr (.inr (.inl hg))))).trans (T.all g hg), (hlt _ (.inr (.inr (.inr (.inr (.inl rfl)))))).trans T.wr,
      fun g hg => (hlt g (.inr (.inr (.inr (.inr (.inr (.inl hg))))))).trans (T.com g hg), fun j m g hm hg => (hlt g (TxL.own_in (L := L) hm hg)).trans (T.tx j m g hm hg)⟩
    rcases hK.sub g hg with ho | ho
    · exact (hlt g (.inr (.inl ho))).trans (T.srow g ho)
    · simp only [if_neg (Nat.not_lt.2 ho)]
  · refine ⟨hK.os, hK.tape, hK.output, hK.size, fun g hg hn => hK.block g hg (fun e => hn (.inl e)) (fun ho => hn (.inr (.inl ho))), fun g hg => ?_⟩
    rcases hg with h1 | h1 | h1 | h1 | h1 | h1 | h1
    · exact .inl (.inl h1)
    · rcases hK.sub g h1 with h2 | h2
      · exact .inl (.inr (.inl h2))
      · exact .inr h2
    · exact .inl (.inr (.inr (.inl h1)))
    · exact .inl (.inr (.inr (.inr (.inl h1))))
    · exact .inl (.inr (.inr (.inr (.inr (.inl h1)))))
    · exact .inl (.inr (.inr (.inr (.inr (.inr (.inl h1))))))
    · exact .inl (.inr (.inr (.inr (.inr (.inr (.inr h1))))))
end Go.Proofs.YtjefgmeejhakbaaGreatDoor

/- engine.write, end: by one induction. -/
namespace Go.Proofs.YtjefgmeejhakbaaGreatDoor
open Go.RowKit
variable {w w' : World} {L : EnL} {E : Eng}
theorem putAhead_rest (E : Eng) (i j : Nat) : (putAheadP E i j).2.ks = E.ks ∧ (putAheadP E i j).2.T = E.T ∧ (putAheadP E i j).2.last = E.last ∧ (putAheadP E i j).2.wr = E.wr ∧ (putAheadP E i j).2.com = E.com := by
  unfold putAheadP
  split
  · exact ⟨rfl, rfl, rfl, rfl, rfl⟩
  · exact ⟨rfl, rfl, rfl, rfl, rfl⟩
theorem aheadAll_rest (f : Nat → Nat × Nat) : ∀ (js : List Nat) (E : Eng), (aheadAll f js E).2.ks = E.ks ∧ (aheadAll f js E).2.T = E.T ∧ (aheadAll f js E).2.last = E.last ∧ (aheadAll f js E).2.wr = E.wr ∧ (aheadAll f js E).2.com = E.com ∧ (aheadAll f js E).2.txs.length = E.txs.length
  | [], E => ⟨rfl, rfl, rfl, rfl, rfl, rfl⟩
  | j :: r, E => by
    have h1 := putAhead_rest E (f j).1 (f j).2
    have h2 := putAhead_len E (f j).1 (f j).2
    unfold aheadAll
    rcases hp : putAheadP E (f j).1 (f j).2 with ⟨b, E'⟩
    rw [hp] at h1 h2
    cases b with
    | true =>
      have h3 := aheadAll_rest f r E'
      simp only at h1 h2 ⊢
      exact ⟨h3.1.trans h1.1, h3.2.1.trans h1.2.1, h3.2.2.1.trans h1.2.2.1, h3.2.2.2.1.trans h1.2.2.2.1, h3.2.2.2.2.1.trans h1.2.2.2.2, h3.2.2.2.2.2.trans h2⟩
    | false =>
      simp only at h1 h2 ⊢
      exact ⟨h1.1, h1.2.1, h1.2.2.1, h1.2.2.2.1, h1.2.2.2.2, h2⟩
theorem putE_rest (E : Eng) (i : Nat) : (putE E i).2.ks = E.ks ∧ (putE E i).2.T = E.T ∧ (putE E i).2.last = E.last ∧ (putE E i).2.wr = E.wr ∧ (putE E i).2.com = E.com ∧ (putE E i).2.txs.length = E.txs.length := by
  cases ht : E.txs[i]? with
  | none => unfold putE; rw [ht]; exact ⟨rfl, rfl, rfl, rfl, rfl, rfl⟩
  | some t =>
    by_cases hn : t.level ≠ 0 ∧ newerP E t.wk t.start ≠ []
    · rw [putE_new ht hn]; exact ⟨rfl, rfl, rfl, rfl, rfl, rfl⟩
    · rw [putE_ok ht hn]
      have hl := setTx_len E i { t with vals := updT t.vals t.wk (some t.wv) }
      split
      · have h1 := aheadAll_rest (fun j => (j, i)) (thoseP (E.setTx i { t with vals := updT t.vals t.wk (some t.wv) }) (hasReadB t.wk i)) (E.setTx i { t with vals := updT t.vals t.wk (some t.wv) })
        rcases hb : behindP (E.setTx i { t with vals := updT t.vals t.wk (some t.wv) }) i t.wk with ⟨b, E2⟩
        unfold behindP at hb
        rw [hb] at h1
        rw [hl] at h1
        cases b <;> exact h1
      · exact ⟨rfl, rfl, rfl, rfl, rfl, hl⟩
set_option maxRecDepth 100000 in
set_option maxHeartbeats 2000000 in
theorem write_any {f : Nat} (hend : EndOk f) (h : EnAt w L E) {i : Nat} {l : TxL} {t : Tx} (hl : L.txs[i]? = some l) (ht : E.txs[i]? = some t) (hks : ∀ l ∈ E.ks, l.length ≤ 100000) {R : Int × Eng} (hR : writeR (endF f) E i = some R) :
    Calls Tryz.prog 116 #[.pointer (some ⟨L.s, 0, none⟩), .pointer (some ⟨l.b, 0, none⟩)] w fun e w' => e = .returned (.int .i64 R.1) ∧ EnPost L R.2 w w' := by
  have hA := h.txs i l t hl ht
  have c6 := hA.c6
  have c7 := hA.c7
  have HP := hid (putE_any h hl ht hks)
  have hrest := putE_rest E i
  have HL := hid hl
  unfold writeR at hR
  obtain ⟨why, E1, hp⟩ : ∃ why E1, putE E i = (why, E1) := ⟨_, _, rfl⟩
  rw [hp] at HP hR hrest
  simp only at hR hrest
  have HKS := hid (show ∀ l ∈ E1.ks, l.length ≤ 100000 from by rw [hrest.1]; exact hks)
  clear h hl ht hA hp hks hrest
  by_cases h0 : why = 0
  · subst h0
    rw [if_pos rfl] at hR
    injection hR with hR
    subst hR
    go_enter Tryz.func116, Tryz.ntmps116
    go_wp2_with fail
    refine HP.out.mono ?_
    rintro e w1 ⟨rfl, hE, hK⟩
    have HF := hid (show EnPost L E1 w w1 from ⟨L, hE, hK, rfl, rfl⟩)
    clear hE hK HP
    go_wp2
    go_ret
    exact ⟨rfl, HF.out⟩
  · rw [if_neg h0] at hR
    obtain ⟨E2, hE2, rfl⟩ : ∃ E2, endF f (loseE E1 i why) i 3 = some E2 ∧ R = (why, E2) := by
      cases he : endF f (loseE E1 i why) i 3 with
      | none => rw [he] at hR; cases hR
      | some E2 => rw [he] at hR; simp at hR; exact ⟨E2, rfl, hR.symm⟩
    have g1 : (why != 0) = true := by simpa using h0
    have HE2 := hid hE2
    clear hR h0 hE2
    go_enter Tryz.func116, Tryz.ntmps116
    go_wp2_with fail
    refine HP.out.mono ?_
    rintro e w1 ⟨rfl, hE, hK⟩
    simp only at hE
    obtain ⟨t1, ht1, _⟩ := hE.getL HL.out
    have HC := hid (lose_any hend hE HL.out ht1 why HKS.out HE2.out)
    have HK := hid hK
    clear hE hK HP ht1
    go_wp2_with fail
    refine HC.out.mono ?_
    rintro e w2 ⟨rfl, L', hE2, hK2, hs2, hb2⟩
    have HF := hid (show EnPost L E2 w w2 from ⟨L', hE2, HK.out.trans hK2, hs2, hb2⟩)
    clear hE2 hK2 hs2 hb2 HC
    go_wp2
    go_ret
    exact ⟨rfl, HF.out⟩
end Go.Proofs.YtjefgmeejhakbaaGreatDoor
