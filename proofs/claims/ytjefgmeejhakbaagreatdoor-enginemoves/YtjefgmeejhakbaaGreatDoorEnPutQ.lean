/- putAhead and behindReaders, of an engine. -/
import Derived.Test.YtjefgmeejhakbaaGreatDoorEnClosQ
namespace Go.Proofs.YtjefgmeejhakbaaGreatDoor
open Go.RowKit
variable {w w' : World} {L : EnL} {E : Eng}
theorem ISet.up {b n : Nat} {s : Int → Bool} (h : ISet w b n s) (hs : ∀ x, s x = true → 1 ≤ x ∧ x ≤ 200) : ISet w b 201 s :=
  IMap.upTo h 201 (fun a ha => by
    have : s a = true := by
      cases e : s a with
      | true => rfl
      | false => rw [e] at ha; exact (ha rfl).elim
    have := hs a this
    omega)
theorem TxAt.setBe {n : Int} {l : TxL} {t : Tx} (h : TxAt w n l t) {k : Nat} {B : Int → Bool} (hs : ∀ g, l.own g → g ≠ l.hb → w'.heap[g]? = w.heap[g]?) (hB : ISet w' l.hb k B) (hN : ∀ x, B x = true → 1 ≤ x ∧ x ≤ 200) : TxAt w' n l { t with behind := B } :=
  ⟨(hs _ (.inl rfl) h.ne_be).trans h.blk, h.va.same (hs _ (.inr (.inl rfl)) h.d2), owns_same h.rd (fun g hg => hs g (.inr (.inr (.inr (.inr hg)))) (h.rd_ne hg).2.2.2), h.ah.same (hs _ (.inr (.inr (.inl rfl))) h.d3), hB.up hN, h.d1, h.d2, h.d3, h.sl, h.vk, h.aN, hN, h.wkr⟩
theorem TxAt.setAh {n : Int} {l : TxL} {t : Tx} (h : TxAt w n l t) {k : Nat} {A : Int → Bool} (hs : ∀ g, l.own g → g ≠ l.ab → w'.heap[g]? = w.heap[g]?) (hA : ISet w' l.ab k A) (hN : ∀ x, A x = true → 1 ≤ x ∧ x ≤ 200) : TxAt w' n l { t with ahead := A } :=
  ⟨(hs _ (.inl rfl) h.ne_ah).trans h.blk, h.va.same (hs _ (.inr (.inl rfl)) h.d1), owns_same h.rd (fun g hg => hs g (.inr (.inr (.inr (.inr hg)))) (h.rd_ne hg).2.2.1), hA.up hN, h.be.same (hs _ (.inr (.inr (.inr (.inl rfl)))) h.d3.symm), h.d1, h.d2, h.d3, h.sl, h.vk, hN, h.bN, h.wkr⟩
theorem putAheadE (h : EnAt w L E) {i j : Nat} {l m : TxL} (hij : i ≠ j) (hl : L.txs[i]? = some l) (hm : L.txs[j]? = some m) :
    Calls Tryz.prog 161 #[.pointer (some ⟨l.b, 0, none⟩), .pointer (some ⟨m.b, 0, none⟩)] w fun e w' => e = .returned (.bool (putAheadP E i j).1) ∧ EnAt w' L (putAheadP E i j).2 ∧ KeptO L.own L.own w w' := by
  obtain ⟨t, ht, hA⟩ := h.getL hl
  obtain ⟨u, hu, hC⟩ := h.getL hm
  have hi := (List.getElem?_eq_some_iff.1 ht).1
  have hj := (List.getElem?_eq_some_iff.1 hu).1
  have hle := h.le
  have hap : ∀ {g}, l.own g → ¬ m.own g := fun hg => h.apart hl hm hij hg
  have hap2 : ∀ {g}, m.own g → ¬ l.own g := fun hg => h.apart hm hl (Ne.symm hij) hg
  have o_ab : l.own l.ab := .inr (.inr (.inl rfl))
  have o_hb : l.own l.hb := .inr (.inr (.inr (.inl rfl)))
  have p_ab : m.own m.ab := .inr (.inr (.inl rfl))
  have p_hb : m.own m.hb := .inr (.inr (.inr (.inl rfl)))
  refine (putAhead_any l.b m.b l.ab l.hb m.ab m.hb 201 201 201 201 _ _ _ _ t.ahead t.behind u.ahead u.behind w hA.txc hC.txc hA.ah hA.be hC.ah hC.be (by unfold I64; omega) (by unfold I64; omega) (by omega) (by omega)
    (fun e => hap o_hb (e ▸ p_ab)) hA.d3 (fun e => hap o_ab (e ▸ p_ab)) (fun e => hap2 p_hb (e ▸ o_hb)) hC.d3.symm).mono ?_
  rintro e w1 ⟨rfl, s1, s2, h1, h2, h3, h4, h5⟩
  have hP : putAheadP E i j = (!stuckB t.state t.ahead (fun a => t.behind a || a == (j : Int) + 1) && !stuckB u.state (fun a => u.ahead a || a == (i : Int) + 1) u.behind,
      (E.setTx i { t with behind := fun a => t.behind a || a == (j : Int) + 1 }).setTx j { u with ahead := fun a => u.ahead a || a == (i : Int) + 1 }) := by
    unfold putAheadP; rw [ht, hu]
  rw [hP]
  have hne : ∀ g, L.own g → (∀ r ∈ L.txs, ¬ r.own g) → w1.heap[g]? = w.heap[g]? := fun g hg hn => h5 g (h.own_lt hg) (fun e => hn l (List.mem_of_getElem? hl) (e ▸ o_hb)) (fun e => hn m (List.mem_of_getElem? hm) (e ▸ p_ab))
  refine ⟨rfl, ?_, h1, h2, h3, h4, fun g hg hn => h5 g hg (fun e => hn (TxL.own_in hl (e ▸ o_hb))) (fun e => hn (TxL.own_in hm (e ▸ p_ab))), fun g hg => .inl hg⟩
  refine h.turnTxs _ (by simp [Eng.setTx]) (fun k r v hr hv => ?_) hne
  simp only [Eng.setTx, List.getElem?_set, List.length_set] at hv
  by_cases hkj : j = k
  · subst hkj
    rw [if_pos rfl, if_pos hj] at hv
    cases hv
    rw [hm] at hr
    cases hr
    refine hC.setAh (fun g hg hn => h5 g (hC.own_lt hg) (fun e => hap o_hb (e ▸ hg)) hn) s2 (fun x hx => ?_)
    simp only [Bool.or_eq_true, beq_iff_eq] at hx
    rcases hx with hx | hx
    · exact hC.aN x hx
    · omega
  · rw [if_neg hkj] at hv
    by_cases hki : i = k
    · subst hki
      rw [if_pos rfl, if_pos hi] at hv
      cases hv
      rw [hl] at hr
      cases hr
      refine hA.setBe (fun g hg hn => h5 g (hA.own_lt hg) hn (fun e => hap hg (e ▸ p_ab))) s1 (fun x hx => ?_)
      simp only [Bool.or_eq_true, beq_iff_eq] at hx
      rcases hx with hx | hx
      · exact hA.bN x hx
      · omega
    · rw [if_neg hki] at hv
      have hR := h.txs k r v hr hv
      exact hR.same (fun g hg => h5 g (hR.own_lt hg) (fun e => h.apart hr hl (Ne.symm hki) hg (e ▸ o_hb)) (fun e => h.apart hr hm (Ne.symm hkj) hg (e ▸ p_ab)))
theorem putAhead_len (E : Eng) (i j : Nat) : (putAheadP E i j).2.txs.length = E.txs.length := by
  unfold putAheadP
  split
  · simp [Eng.setTx]
  · rfl
theorem mem_thoseP {E : Eng} {p : Nat → Tx → Bool} {j : Nat} (h : j ∈ thoseP E p) : ∃ t, E.txs[j]? = some t ∧ p j t = true := by
  unfold thoseP at h
  rw [List.mem_filter] at h
  cases ht : E.txs[j]? with
  | none => rw [ht] at h; simp at h
  | some t => rw [ht] at h; exact ⟨t, rfl, by simpa using h.2⟩
set_option maxRecDepth 100000 in
set_option maxHeartbeats 2000000 in
theorem behind_any (h : EnAt w L E) {i : Nat} {l : TxL} (hl : L.txs[i]? = some l) {key : Int} (hk : 0 ≤ key ∧ key < 10) :
    Calls Tryz.prog 213 #[.pointer (some ⟨L.s, 0, none⟩), .pointer (some ⟨l.b, 0, none⟩), .int .i64 key] w fun e w' => e = .returned (.bool (behindP E i key).1) ∧ EnAt w' L (behindP E i key).2 ∧ KeptO L.own L.own w w' := by
  obtain ⟨k, rfl⟩ : ∃ k : Nat, key = k := ⟨key.toNat, by omega⟩
  obtain ⟨t, ht, hA⟩ := h.getL hl
  have hB0 : Below w.heap.size w ((w.alloc (.cells #[.pointer (some ⟨l.b, 0, none⟩)] 179)).alloc (.cells #[.int .i64 (k : Int)] 3)) := ((Below.refl _ w).alloc (Nat.le_refl _) _).alloc (by simp) _
  obtain ⟨w0, hw0⟩ : ∃ w0, (w.alloc (.cells #[.pointer (some ⟨l.b, 0, none⟩)] 179)).alloc (.cells #[.int .i64 (k : Int)] 3) = w0 := ⟨_, rfl⟩
  have hct : w0.cell? ⟨w.heap.size, 0, none⟩ = some (.pointer (some ⟨l.b, 0, none⟩)) := by
    subst hw0
    refine (((Below.refl _ (w.alloc (.cells #[.pointer (some ⟨l.b, 0, none⟩)] 179))).alloc (Nat.le_refl _) _).cell (p := ⟨w.heap.size, 0, none⟩) (by simp)).trans ?_
    exact (cell_of_row _ w.heap.size 0 _ _ (0, 0) (heap_alloc_new w _)).trans rfl
  have hck : w0.cell? ⟨w.heap.size + 1, 0, none⟩ = some (.int .i64 (k : Int)) := by
    subst hw0
    have := heap_alloc_new (w.alloc (.cells #[.pointer (some ⟨l.b, 0, none⟩)] 179)) (.cells #[.int .i64 (k : Int)] 3)
    rw [show (w.alloc (.cells #[.pointer (some ⟨l.b, 0, none⟩)] 179)).heap.size = w.heap.size + 1 from by simp] at this
    exact (cell_of_row _ (w.heap.size + 1) 0 _ _ (0, 0) this).trans rfl
  have hsz : w0.heap.size = w.heap.size + 2 := by subst hw0; simp
  rw [hw0] at hB0
  have h0 := h.below hB0
  have HC := hid (those_reads h0 (w.heap.size + 1) w.heap.size (hasReadB (k : Int) i) (fun W hW j m u hm hu => by
    have hE := h0.below hW
    have hM := hE.txs j m u hm hu
    have hT := hE.txs i l t hl ht
    have hsl : k < u.seen.length := by have := hM.sl; omega
    obtain ⟨sb, hsb⟩ : ∃ sb, u.seen[k]? = some sb := ⟨u.seen[k], List.getElem?_eq_getElem hsl⟩
    have := readsC_any hM.blk hT.blk (hM.cs hsb) hM.c1 hM.c3 hM.c5 hT.c0 ((hW.cell (p := ⟨w.heap.size + 1, 0, none⟩) (by show w.heap.size + 1 < _; omega)).trans hck) ((hW.cell (p := ⟨w.heap.size, 0, none⟩) (by show w.heap.size < _; omega)).trans hct) (by omega)
    have e1 : decide (m.b ≠ l.b) = decide (j ≠ i) := by
      rw [decide_eq_decide]
      constructor
      · rintro hne rfl
        rw [hl] at hm
        cases hm
        exact hne rfl
      · intro hne e
        exact hE.apart hm hl hne (.inl rfl) (.inl e)
    rw [e1] at this
    have e2 : hasReadB (k : Int) i j u = readB sb (decide (j ≠ i)) u.level u.state (!liveB u.state && decide (u.bae < (i : Int) + 1)) := by
      unfold hasReadB readB wasOverB
      rw [Int.toNat_natCast, hsb]
      rfl
    rw [e2]
    exact this))
  have HJ := hid (show ∀ j ∈ thoseP E (hasReadB (k : Int) i), j < E.txs.length ∧ j ≠ i from fun j hj => by
    obtain ⟨u, hu, hp⟩ := mem_thoseP hj
    refine ⟨(List.getElem?_eq_some_iff.1 hu).1, ?_⟩
    unfold hasReadB at hp
    simp only [Bool.and_eq_true, decide_eq_true_eq] at hp
    exact hp.2.1)
  unfold behindP
  have hjl : (thoseP E (hasReadB (k : Int) i)).length ≤ 200 := by
    have := thoseN_len E (hasReadB (k : Int) i) E.txs.length
    rw [thoseN_all] at this
    have := h.le
    omega
  obtain ⟨js, hjs⟩ : ∃ js, thoseP E (hasReadB (k : Int) i) = js := ⟨_, rfl⟩
  rw [hjs] at HC HJ hjl ⊢
  obtain ⟨R, hR⟩ : ∃ R, aheadAll (fun j => (j, i)) js E = R := ⟨_, rfl⟩
  rw [hR]
  have HR := hid hR
  have HL := hid hl
  have hlen := h.len
  have HH := hid h
  have HB := hid hB0
  clear h h0 ht hA hl hjs hR hB0
  go_enter Tryz.func213, Tryz.ntmps213
  go_wp2_with fail
  refine HC.out.mono ?_
  rintro e w1 ⟨v, rfl, ho, hB1⟩
  obtain ⟨ad, cap, hv⟩ := row_form ho
  have hBw : Below w.heap.size w w1 := HB.out.trans (hB1.mono HB.out.size)
  have hct1 := (hB1.cell (p := ⟨w.heap.size, 0, none⟩) (by show w.heap.size < _; omega)).trans hct
  have HO := hid ho
  have HE1 := hid (HH.out.below hBw)
  have hs1 := hB1.size
  have HBw := hid hBw
  have hadg : Hid (∀ j x, js[j]? = some x → ∃ g, ad = some ⟨g, 0, none⟩ ∧ w0.heap.size ≤ g ∧ g < w1.heap.size ∧ w1.cell? ⟨g, j, none⟩ = some (.pointer (some ⟨L.bs[x]?.getD 0, 0, none⟩))) := fun j x hx => by
    rcases row_slice ho with ⟨e1, e2⟩ | ⟨g, cap', e1, hg, hc⟩
    · have := (List.getElem?_eq_some_iff.1 hx).1; omega
    · have hb := (ho.lt g (by rw [e1]; rfl)).1
      rw [hv] at e1
      injection e1 with e1
      exact ⟨g, e1, hb, hg, hc j _ (show (L.ptrs js)[j]? = some (ptrV (L.bs[x]?.getD 0)) from by simp [EnL.ptrs, hx])⟩
  subst hv
  clear ho hB1 hBw HC hck hct
  go_wp2
  go_loopw [15] (fun iv wr => ∃ (j : Nat) (Ej : Eng), j ≤ js.length ∧ iv = .int .i64 j ∧ EnAt wr L Ej ∧ aheadAll (fun j => (j, i)) (js.drop j) Ej = R ∧ Ej.txs.length = E.txs.length ∧ KeptO L.own L.own w1 wr) (fun iv _ => js.length - (intOf iv).toNat)
  case atStart => exact ⟨0, E, by omega, rfl, HE1.out, by simpa using HR.out, rfl, KeptO.refl _ _⟩
  case round =>
    obtain ⟨j, Ej, hj, rfl, hE, hrest, hEl, hK⟩ := hrel
    by_cases hlt : j < js.length
    · obtain ⟨x, hx⟩ : ∃ x, js[j]? = some x := ⟨js[j], List.getElem?_eq_getElem hlt⟩
      obtain ⟨g, rfl, hg0, hg1, hgc⟩ := hadg.out j x hx
      obtain ⟨hx1, hx2⟩ := HJ.out x (List.mem_of_getElem? hx)
      obtain ⟨m, hm⟩ : ∃ m, L.txs[x]? = some m := ⟨L.txs[x]'(by omega), List.getElem?_eq_getElem _⟩
      rw [bs_get hm] at hgc
      have hng : ¬ L.own g := fun ho => by have := HH.out.own_lt ho; omega
      have hnt : ¬ L.own w.heap.size := fun ho => by have := HH.out.own_lt ho; omega
      have hgc2 := (World.cell?_of_block (a := ⟨g, j, none⟩) (hK.block g hg1 hng)).trans hgc
      have hct2 := (World.cell?_of_block (a := ⟨w.heap.size, 0, none⟩) (hK.block w.heap.size (by omega) hnt)).trans hct1
      have hj0 : (0 : Int) ≤ (j : Int) := by omega
      have hj1 : (j : Int) < (js.length : Int) := by omega
      have HP := hid (putAheadE hE hx2 hm HL.out)
      have hdrop : js.drop j = x :: js.drop (j + 1) := by
        rw [List.drop_eq_getElem_cons hlt]
        congr 1
        rw [List.getElem?_eq_getElem hlt] at hx
        injection hx
      rw [hdrop] at hrest
      have hpl := putAhead_len Ej x i
      obtain ⟨rb, rE, hrp⟩ : ∃ rb rE, putAheadP Ej x i = (rb, rE) := ⟨_, _, rfl⟩
      rw [hrp] at HP hpl
      simp only [aheadAll, hrp] at hrest
      simp only at HP hpl
      have HREST := hid hrest
      have HK := hid hK
      clear hx hm hgc hdrop hrp hrest hK hE
      simp only [Option.getD_some] at hgc2
      go_wp2_with fail
      refine HP.out.mono ?_
      rintro e w2 ⟨rfl, hE2, hK2⟩
      have HF := hid (And.intro hE2 (HK.out.trans hK2))
      clear hE2 hK2 HP
      cases rb with
      | true =>
        go_wp2
        go_roundw
        case rel => exact ⟨j + 1, rE, by omega, by go_num, HF.out.1, HREST.out, by omega, HF.out.2⟩
        case measure => simp [intOf]; omega
      | false =>
        go_wp2
        go_ret
        have := HREST.out
        subst this
        exact ⟨rfl, HF.out.1, (KeptO.of_below HBw.out).trans HF.out.2⟩
    · have hj2 : js.drop j = [] := List.drop_of_length_le (by omega)
      rw [hj2] at hrest
      simp only [aheadAll] at hrest
      subst hrest
      have HF := hid (And.intro hE hK)
      clear hE hK
      go_wp2
      go_ret
      exact ⟨rfl, HF.out.1, (KeptO.of_below (HBw.out)).trans HF.out.2⟩
end Go.Proofs.YtjefgmeejhakbaaGreatDoor
