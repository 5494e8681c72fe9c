/- EnPut EnPutW EnLose EnHead OrLine OrEdge: put together for a claim. -/
import Derived.Test.YtjefgmeejhakbabGreatDoorEnClos
import Derived.Test.YtjefgmeejhakbabGreatDoorMgAD
/- putAhead and behindReaders, of an engine. -/
namespace Go.Proofs.YtjefgmeejhakbabGreatDoor
open Go.RowKit
variable {w w' : World} {L : EnL} {E : Eng}
theorem ISet.up {b n : Nat} {s : Int → Bool} (h : ISet w b n s) (hs : ∀ x, s x = true → 1 ≤ x ∧ x ≤ 200) : ISet w b 201 s :=
  IMap.upTo h 201 (fun a ha => by
    have : s a = true := by
      cases e : s a with
      | true => rfl
      | false => rw [e] at ha; exact (ha rfl).elim
    have := hs a this
    omega)
theorem TxAt.setBe {n : Int} {l : TxL} {t : Tx} (h : TxAt w n l t) {k : Nat} {B : Int → Bool} (hs : ∀ g, l.own g → g ≠ l.hb → w'.heap[g]? = w.heap[g]?) (hB : ISet w' l.hb k B) (hN : ∀ x, B x = true → 1 ≤ x ∧ x ≤ 200) : TxAt w' n l { t with behind := B } :=
  ⟨(hs _ (.inl rfl) h.ne_be).trans h.blk, h.va.same (hs _ (.inr (.inl rfl)) h.d2), owns_same h.rd (fun g hg => hs g (.inr (.inr (.inr (.inr hg)))) (h.rd_ne hg).2.2.2), h.ah.same (hs _ (.inr (.inr (.inl rfl))) h.d3), hB.up hN, h.d1, h.d2, h.d3, h.sl, h.vk, h.aN, hN, h.wkr⟩
theorem TxAt.setAh {n : Int} {l : TxL} {t : Tx} (h : TxAt w n l t) {k : Nat} {A : Int → Bool} (hs : ∀ g, l.own g → g ≠ l.ab → w'.heap[g]? = w.heap[g]?) (hA : ISet w' l.ab k A) (hN : ∀ x, A x = true → 1 ≤ x ∧ x ≤ 200) : TxAt w' n l { t with ahead := A } :=
  ⟨(hs _ (.inl rfl) h.ne_ah).trans h.blk, h.va.same (hs _ (.inr (.inl rfl)) h.d1), owns_same h.rd (fun g hg => hs g (.inr (.inr (.inr (.inr hg)))) (h.rd_ne hg).2.2.1), hA.up hN, h.be.same (hs _ (.inr (.inr (.inr (.inl rfl)))) h.d3.symm), h.d1, h.d2, h.d3, h.sl, h.vk, hN, h.bN, h.wkr⟩
theorem putAheadE (h : EnAt w L E) {i j : Nat} {l m : TxL} (hij : i ≠ j) (hl : L.txs[i]? = some l) (hm : L.txs[j]? = some m) :
    Calls Tryz.prog 261 #[.pointer (some ⟨l.b, 0, none⟩), .pointer (some ⟨m.b, 0, none⟩)] w fun e w' => e = .returned (.bool (putAheadP E i j).1) ∧ EnAt w' L (putAheadP E i j).2 ∧ KeptO L.own L.own w w' := by
  obtain ⟨t, ht, hA⟩ := h.getL hl
  obtain ⟨u, hu, hC⟩ := h.getL hm
  have hi := (List.getElem?_eq_some_iff.1 ht).1
  have hj := (List.getElem?_eq_some_iff.1 hu).1
  have hle := h.le
  have hap : ∀ {g}, l.own g → ¬ m.own g := fun hg => h.apart hl hm hij hg
  have hap2 : ∀ {g}, m.own g → ¬ l.own g := fun hg => h.apart hm hl (Ne.symm hij) hg
  have o_ab : l.own l.ab := .inr (.inr (.inl rfl))
  have o_hb : l.own l.hb := .inr (.inr (.inr (.inl rfl)))
  have p_ab : m.own m.ab := .inr (.inr (.inl rfl))
  have p_hb : m.own m.hb := .inr (.inr (.inr (.inl rfl)))
  refine (putAhead_any l.b m.b l.ab l.hb m.ab m.hb 201 201 201 201 _ _ _ _ t.ahead t.behind u.ahead u.behind w hA.txc hC.txc hA.ah hA.be hC.ah hC.be (by unfold I64; omega) (by unfold I64; omega) (by omega) (by omega)
    (fun e => hap o_hb (e ▸ p_ab)) hA.d3 (fun e => hap o_ab (e ▸ p_ab)) (fun e => hap2 p_hb (e ▸ o_hb)) hC.d3.symm).mono ?_
  rintro e w1 ⟨rfl, s1, s2, h1, h2, h3, h4, h5⟩
  have hP : putAheadP E i j = (!stuckB t.state t.ahead (fun a => t.behind a || a == (j : Int) + 1) && !stuckB u.state (fun a => u.ahead a || a == (i : Int) + 1) u.behind,
      (E.setTx i { t with behind := fun a => t.behind a || a == (j : Int) + 1 }).setTx j { u with ahead := fun a => u.ahead a || a == (i : Int) + 1 }) := by
    unfold putAheadP; rw [ht, hu]
  rw [hP]
  have hne : ∀ g, L.own g → (∀ r ∈ L.txs, ¬ r.own g) → w1.heap[g]? = w.heap[g]? := fun g hg hn => h5 g (h.own_lt hg) (fun e => hn l (List.mem_of_getElem? hl) (e ▸ o_hb)) (fun e => hn m (List.mem_of_getElem? hm) (e ▸ p_ab))
  refine ⟨rfl, ?_, h1, h2, h3, h4, fun g hg hn => h5 g hg (fun e => hn (TxL.own_in hl (e ▸ o_hb))) (fun e => hn (TxL.own_in hm (e ▸ p_ab))), fun g hg => .inl hg⟩
  refine h.turnTxs _ (by simp [Eng.setTx]) (fun k r v hr hv => ?_) hne
  simp only [Eng.setTx, List.getElem?_set, List.length_set] at hv
  by_cases hkj : j = k
  · subst hkj
    rw [if_pos rfl, if_pos hj] at hv
    cases hv
    rw [hm] at hr
    cases hr
    refine hC.setAh (fun g hg hn => h5 g (hC.own_lt hg) (fun e => hap o_hb (e ▸ hg)) hn) s2 (fun x hx => ?_)
    simp only [Bool.or_eq_true, beq_iff_eq] at hx
    rcases hx with hx | hx
    · exact hC.aN x hx
    · omega
  · rw [if_neg hkj] at hv
    by_cases hki : i = k
    · subst hki
      rw [if_pos rfl, if_pos hi] at hv
      cases hv
      rw [hl] at hr
      cases hr
      refine hA.setBe (fun g hg hn => h5 g (hA.own_lt hg) hn (fun e => hap hg (e ▸ p_ab))) s1 (fun x hx => ?_)
      simp only [Bool.or_eq_true, beq_iff_eq] at hx
      rcases hx with hx | hx
      · exact hA.bN x hx
      · omega
    · rw [if_neg hki] at hv
      have hR := h.txs k r v hr hv
      exact hR.same (fun g hg => h5 g (hR.own_lt hg) (fun e => h.apart hr hl (Ne.symm hki) hg (e ▸ o_hb)) (fun e => h.apart hr hm (Ne.symm hkj) hg (e ▸ p_ab)))
theorem putAhead_len (E : Eng) (i j : Nat) : (putAheadP E i j).2.txs.length = E.txs.length := by
  unfold putAheadP
  split
  · simp [Eng.setTx]
  · rfl
theorem mem_thoseP {E : Eng} {p : Nat → Tx → Bool} {j : Nat} (h : j ∈ thoseP E p) : ∃ t, E.txs[j]? = some t ∧ p j t = true := by
  unfold thoseP at h
  rw [List.mem_filter] at h
  cases ht : E.txs[j]? with
  | none => rw [ht] at h; simp at h
  | some t => rw [ht] at h; exact ⟨t, rfl, by simpa using h.2⟩
set_option maxRecDepth 100000 in
set_option maxHeartbeats 2000000 in
theorem behind_any (h : EnAt w L E) {i : Nat} {l : TxL} (hl : L.txs[i]? = some l) {key : Int} (hk : 0 ≤ key ∧ key < 10) :
    Calls Tryz.prog 314 #[.pointer (some ⟨L.s, 0, none⟩), .pointer (some ⟨l.b, 0, none⟩), .int .i64 key] w fun e w' => e = .returned (.bool (behindP E i key).1) ∧ EnAt w' L (behindP E i key).2 ∧ KeptO L.own L.own w w' := by
  obtain ⟨k, rfl⟩ : ∃ k : Nat, key = k := ⟨key.toNat, by omega⟩
  obtain ⟨t, ht, hA⟩ := h.getL hl
  have hB0 : Below w.heap.size w ((w.alloc (.cells #[.pointer (some ⟨l.b, 0, none⟩)] 239)).alloc (.cells #[.int .i64 (k : Int)] 3)) := ((Below.refl _ w).alloc (Nat.le_refl _) _).alloc (by simp) _
  obtain ⟨w0, hw0⟩ : ∃ w0, (w.alloc (.cells #[.pointer (some ⟨l.b, 0, none⟩)] 239)).alloc (.cells #[.int .i64 (k : Int)] 3) = w0 := ⟨_, rfl⟩
  have hct : w0.cell? ⟨w.heap.size, 0, none⟩ = some (.pointer (some ⟨l.b, 0, none⟩)) := by
    subst hw0
    refine (((Below.refl _ (w.alloc (.cells #[.pointer (some ⟨l.b, 0, none⟩)] 239))).alloc (Nat.le_refl _) _).cell (p := ⟨w.heap.size, 0, none⟩) (by simp)).trans ?_
    exact (cell_of_row _ w.heap.size 0 _ _ (0, 0) (heap_alloc_new w _)).trans rfl
  have hck : w0.cell? ⟨w.heap.size + 1, 0, none⟩ = some (.int .i64 (k : Int)) := by
    subst hw0
    have := heap_alloc_new (w.alloc (.cells #[.pointer (some ⟨l.b, 0, none⟩)] 239)) (.cells #[.int .i64 (k : Int)] 3)
    rw [show (w.alloc (.cells #[.pointer (some ⟨l.b, 0, none⟩)] 239)).heap.size = w.heap.size + 1 from by simp] at this
    exact (cell_of_row _ (w.heap.size + 1) 0 _ _ (0, 0) this).trans rfl
  have hsz : w0.heap.size = w.heap.size + 2 := by subst hw0; simp
  rw [hw0] at hB0
  have h0 := h.below hB0
  have HC := hid (those_reads h0 (w.heap.size + 1) w.heap.size (hasReadB (k : Int) i) (fun W hW j m u hm hu => by
    have hE := h0.below hW
    have hM := hE.txs j m u hm hu
    have hT := hE.txs i l t hl ht
    have hsl : k < u.seen.length := by have := hM.sl; omega
    obtain ⟨sb, hsb⟩ : ∃ sb, u.seen[k]? = some sb := ⟨u.seen[k], List.getElem?_eq_getElem hsl⟩
    have := readsC_any hM.blk hT.blk (hM.cs hsb) hM.c1 hM.c3 hM.c5 hT.c0 ((hW.cell (p := ⟨w.heap.size + 1, 0, none⟩) (by show w.heap.size + 1 < _; omega)).trans hck) ((hW.cell (p := ⟨w.heap.size, 0, none⟩) (by show w.heap.size < _; omega)).trans hct) (by omega)
    have e1 : decide (m.b ≠ l.b) = decide (j ≠ i) := by
      rw [decide_eq_decide]
      constructor
      · rintro hne rfl
        rw [hl] at hm
        cases hm
        exact hne rfl
      · intro hne e
        exact hE.apart hm hl hne (.inl rfl) (.inl e)
    rw [e1] at this
    have e2 : hasReadB (k : Int) i j u = readB sb (decide (j ≠ i)) u.level u.state (!liveB u.state && decide (u.bae < (i : Int) + 1)) := by
      unfold hasReadB readB wasOverB
      rw [Int.toNat_natCast, hsb]
      rfl
    rw [e2]
    exact this))
  have HJ := hid (show ∀ j ∈ thoseP E (hasReadB (k : Int) i), j < E.txs.length ∧ j ≠ i from fun j hj => by
    obtain ⟨u, hu, hp⟩ := mem_thoseP hj
    refine ⟨(List.getElem?_eq_some_iff.1 hu).1, ?_⟩
    unfold hasReadB at hp
    simp only [Bool.and_eq_true, decide_eq_true_eq] at hp
    exact hp.2.1)
  unfold behindP
  have hjl : (thoseP E (hasReadB (k : Int) i)).length ≤ 200 := by
    have := thoseN_len E (hasReadB (k : Int) i) E.txs.length
    rw [thoseN_all] at this
    have := h.le
    omega
  obtain ⟨js, hjs⟩ : ∃ js, thoseP E (hasReadB (k : Int) i) = js := ⟨_, rfl⟩
  rw [hjs] at HC HJ hjl ⊢
  obtain ⟨R, hR⟩ : ∃ R, aheadAll (fun j => (j, i)) js E = R := ⟨_, rfl⟩
  rw [hR]
  have HR := hid hR
  have HL := hid hl
  have hlen := h.len
  have HH := hid h
  have HB := hid hB0
  clear h h0 ht hA hl hjs hR hB0
  go_enter Tryz.func314, Tryz.ntmps314
  go_wp2_with fail
  refine HC.out.mono ?_
  rintro e w1 ⟨v, rfl, ho, hB1⟩
  obtain ⟨ad, cap, hv⟩ := row_form ho
  have hBw : Below w.heap.size w w1 := HB.out.trans (hB1.mono HB.out.size)
  have hct1 := (hB1.cell (p := ⟨w.heap.size, 0, none⟩) (by show w.heap.size < _; omega)).trans hct
  have HO := hid ho
  have HE1 := hid (HH.out.below hBw)
  have hs1 := hB1.size
  have HBw := hid hBw
  have hadg : Hid (∀ j x, js[j]? = some x → ∃ g, ad = some ⟨g, 0, none⟩ ∧ w0.heap.size ≤ g ∧ g < w1.heap.size ∧ w1.cell? ⟨g, j, none⟩ = some (.pointer (some ⟨L.bs[x]?.getD 0, 0, none⟩))) := fun j x hx => by
    rcases row_slice ho with ⟨e1, e2⟩ | ⟨g, cap', e1, hg, hc⟩
    · have := (List.getElem?_eq_some_iff.1 hx).1; omega
    · have hb := (ho.lt g (by rw [e1]; rfl)).1
      rw [hv] at e1
      injection e1 with e1
      exact ⟨g, e1, hb, hg, hc j _ (show (L.ptrs js)[j]? = some (ptrV (L.bs[x]?.getD 0)) from by simp [EnL.ptrs, hx])⟩
  subst hv
  clear ho hB1 hBw HC hck hct
  go_wp2
  go_loopw [15] (fun iv wr => ∃ (j : Nat) (Ej : Eng), j ≤ js.length ∧ iv = .int .i64 j ∧ EnAt wr L Ej ∧ aheadAll (fun j => (j, i)) (js.drop j) Ej = R ∧ Ej.txs.length = E.txs.length ∧ KeptO L.own L.own w1 wr) (fun iv _ => js.length - (intOf iv).toNat)
  case atStart => exact ⟨0, E, by omega, rfl, HE1.out, by simpa using HR.out, rfl, KeptO.refl _ _⟩
  case round =>
    obtain ⟨j, Ej, hj, rfl, hE, hrest, hEl, hK⟩ := hrel
    by_cases hlt : j < js.length
    · obtain ⟨x, hx⟩ : ∃ x, js[j]? = some x := ⟨js[j], List.getElem?_eq_getElem hlt⟩
      obtain ⟨g, rfl, hg0, hg1, hgc⟩ := hadg.out j x hx
      obtain ⟨hx1, hx2⟩ := HJ.out x (List.mem_of_getElem? hx)
      obtain ⟨m, hm⟩ : ∃ m, L.txs[x]? = some m := ⟨L.txs[x]'(by omega), List.getElem?_eq_getElem _⟩
      rw [bs_get hm] at hgc
      have hng : ¬ L.own g := fun ho => by have := HH.out.own_lt ho; omega
      have hnt : ¬ L.own w.heap.size := fun ho => by have := HH.out.own_lt ho; omega
      have hgc2 := (World.cell?_of_block (a := ⟨g, j, none⟩) (hK.block g hg1 hng)).trans hgc
      have hct2 := (World.cell?_of_block (a := ⟨w.heap.size, 0, none⟩) (hK.block w.heap.size (by omega) hnt)).trans hct1
      have hj0 : (0 : Int) ≤ (j : Int) := by omega
      have hj1 : (j : Int) < (js.length : Int) := by omega
      have HP := hid (putAheadE hE hx2 hm HL.out)
      have hdrop : js.drop j = x :: js.drop (j + 1) := by
        rw [List.drop_eq_getElem_cons hlt]
        congr 1
        rw [List.getElem?_eq_getElem hlt] at hx
        injection hx
      rw [hdrop] at hrest
      have hpl := putAhead_len Ej x i
      obtain ⟨rb, rE, hrp⟩ : ∃ rb rE, putAheadP Ej x i = (rb, rE) := ⟨_, _, rfl⟩
      rw [hrp] at HP hpl
      simp only [aheadAll, hrp] at hrest
      simp only at HP hpl
      have HREST := hid hrest
      have HK := hid hK
      clear hx hm hgc hdrop hrp hrest hK hE
      simp only [Option.getD_some] at hgc2
      go_wp2_with fail
      refine HP.out.mono ?_
      rintro e w2 ⟨rfl, hE2, hK2⟩
      have HF := hid (And.intro hE2 (HK.out.trans hK2))
      clear hE2 hK2 HP
      cases rb with
      | true =>
        go_wp2
        go_roundw
        case rel => exact ⟨j + 1, rE, by omega, by go_num, HF.out.1, HREST.out, by omega, HF.out.2⟩
        case measure => simp [intOf]; omega
      | false =>
        go_wp2
        go_ret
        have := HREST.out
        subst this
        exact ⟨rfl, HF.out.1, (KeptO.of_below HBw.out).trans HF.out.2⟩
    · have hj2 : js.drop j = [] := List.drop_of_length_le (by omega)
      rw [hj2] at hrest
      simp only [aheadAll] at hrest
      subst hrest
      have HF := hid (And.intro hE hK)
      clear hE hK
      go_wp2
      go_ret
      exact ⟨rfl, HF.out.1, (KeptO.of_below (HBw.out)).trans HF.out.2⟩
end Go.Proofs.YtjefgmeejhakbabGreatDoor

/- engine.put. -/
namespace Go.Proofs.YtjefgmeejhakbabGreatDoor
open Go.RowKit
variable {w w' : World} {L : EnL} {E : Eng}
theorem TxAt.setVa {n : Int} {l : TxL} {t : Tx} (h : TxAt w n l t) {k : Nat} {V : Int → Option Int} (hs : ∀ g, l.own g → g ≠ l.vb → w'.heap[g]? = w.heap[g]?) (hV : IMap w' l.vb k (fun x => (V x).map (Value.int .i64))) (hk : ∀ x, V x ≠ none → 0 ≤ x ∧ x < 10) : TxAt w' n l { t with vals := V } :=
  ⟨(hs _ (.inl rfl) h.ne_va).trans h.blk, hV.upTo 10 (fun a ha => hk a (fun e => ha (by rw [e]; rfl))), owns_same h.rd (fun g hg => hs g (.inr (.inr (.inr (.inr hg)))) (h.rd_ne hg).2.1), h.ah.same (hs _ (.inr (.inr (.inl rfl))) h.d1.symm), h.be.same (hs _ (.inr (.inr (.inr (.inl rfl)))) h.d2.symm), h.d1, h.d2, h.d3, h.sl, hk, h.aN, h.bN, h.wkr⟩
theorem setTx_self {i : Nat} {l : TxL} (hl : L.txs[i]? = some l) : L.setTx i l = L := by
  obtain ⟨hi, e⟩ := List.getElem?_eq_some_iff.1 hl
  subst e
  unfold EnL.setTx
  rw [List.set_getElem_self hi]
theorem EnAt.putVal (h : EnAt w L E) {i : Nat} {l : TxL} {t : Tx} (hl : L.txs[i]? = some l) (ht : E.txs[i]? = some t) {key : Int} (hk : 0 ≤ key ∧ key < 10) (val : Int) :
    ∃ w', (Instr.mapUpdate 131 (.map (some l.vb)) (.int .i64 key) (.int .i64 val)).run Tryz.prog w = .ok () w' ∧ EnAt w' L (E.setTx i { t with vals := updT t.vals key (some val) }) ∧ KeptO L.own L.own w w' := by
  have hA := h.txs i l t hl ht
  obtain ⟨w', hr, hI, hg⟩ := hA.va.store Tryz.underlying131 (by unfold maxLen; omega) (a := key) (by unfold I64; omega) (.int .i64 val)
  rw [show updT (fun k => (t.vals k).map (Value.int .i64)) key (some (.int .i64 val)) = fun k => (updT t.vals key (some val) k).map (Value.int .i64) from (updT_map t.vals key (some val)).symm] at hI
  have hb : ∀ g, g < w.heap.size → g ≠ l.vb → w'.heap[g]? = w.heap[g]? := fun g hg' hne => hg.block g hg' (fun e => hne (by injection e))
  have hK : KeptO l.own l.own w w' := ⟨hg.os, hg.tape, hg.output, hg.size, fun g hg' hn => hb g hg' (fun e => hn (e ▸ .inr (.inl rfl))), fun g hg => .inl hg⟩
  have hT : TxAt w' ((i : Int) + 1) l { t with vals := updT t.vals key (some val) } := hA.setVa (fun g hg' hne => hb g (hA.own_lt hg') hne) hI (fun x hx => by
    by_cases e : x = key
    · rw [e]; exact hk
    · rw [updT_other _ _ e] at hx; exact hA.vk x hx)
  have := h.setTx hl ht rfl hK hT
  rw [setTx_self hl] at this
  exact ⟨w', hr, this⟩
def PutPost (L : EnL) (R : Int × Eng) (w : World) (e : Ending) (w' : World) : Prop := e = .returned (.int .i64 R.1) ∧ EnAt w' L R.2 ∧ KeptO L.own L.own w w'
theorem putE_ok {i : Nat} {t : Tx} (ht : E.txs[i]? = some t) (hn : ¬ (t.level ≠ 0 ∧ newerP E t.wk t.start ≠ [])) :
    putE E i = if t.level = 2 then (match behindP (E.setTx i { t with vals := updT t.vals t.wk (some t.wv) }) i t.wk with | (true, E2) => ((0 : Int), E2) | (false, E2) => (13, E2)) else (0, E.setTx i { t with vals := updT t.vals t.wk (some t.wv) }) := by
  unfold putE
  rw [ht]
  simp only
  rw [if_neg hn]
  rfl
theorem putE_new {i : Nat} {t : Tx} (ht : E.txs[i]? = some t) (hn : t.level ≠ 0 ∧ newerP E t.wk t.start ≠ []) : putE E i = (10, E) := by
  unfold putE
  rw [ht]
  simp only
  rw [if_pos hn]
theorem KeptO.below_l {o o' : Nat → Prop} {a b c : World} (hB : Below a.heap.size a b) (h : KeptO o o' b c) : KeptO o o' a c := (KeptO.of_below hB).trans h
def boxW (w : World) (key val : Int) : World := w.alloc (.cells #[.int .i64 key, .int .i64 val] 122)
theorem boxW_below (w : World) (key val : Int) : Below w.heap.size w (boxW w key val) := (Below.refl _ w).alloc (Nat.le_refl _) _
theorem boxW_cells (w : World) (key val : Int) : (boxW w key val).cell? ⟨w.heap.size, 0, none⟩ = some (.int .i64 key) ∧ (boxW w key val).cell? ⟨w.heap.size, 1, none⟩ = some (.int .i64 val) :=
  ⟨(cell_of_row _ w.heap.size 0 _ _ (0, 0) (heap_alloc_new w _)).trans rfl, (cell_of_row _ w.heap.size 1 _ _ (0, 0) (heap_alloc_new w _)).trans rfl⟩
theorem EnAt.putIn {W : World} (h : EnAt w L E) {i : Nat} {l : TxL} {t : Tx} (hl : L.txs[i]? = some l) (ht : E.txs[i]? = some t) (key val : Int) (hk : 0 ≤ key ∧ key < 10) (hB : Below (w.heap.size + 1) (boxW w key val) W) :
    ∃ w', (Instr.mapUpdate 131 (.map (some l.vb)) (.int .i64 key) (.int .i64 val)).run Tryz.prog W = .ok () w' ∧ EnAt w' L (E.setTx i { t with vals := updT t.vals key (some val) }) ∧ KeptO L.own L.own w w' ∧
      w'.cell? ⟨l.b, 1, none⟩ = some (.int .i64 t.level) ∧ w'.cell? ⟨l.b, 8, none⟩ = some (.map (some l.vb)) ∧ w'.cell? ⟨w.heap.size, 0, none⟩ = some (.int .i64 key) ∧ w'.cell? ⟨w.heap.size, 1, none⟩ = some (.int .i64 val) := by
  have hsz : (boxW w key val).heap.size = w.heap.size + 1 := by simp [boxW]
  have hBw : Below w.heap.size w W := (boxW_below w key val).trans (hB.mono (by omega))
  obtain ⟨w', hr, hE, hK⟩ := (h.below hBw).putVal hl ht hk val
  have hT := hE.txs i l _ hl (setTx_get ht)
  have hn : ¬ L.own w.heap.size := fun ho => by have := h.own_lt ho; omega
  have hW := hB.size
  have hbox : ∀ o v, (boxW w key val).cell? ⟨w.heap.size, o, none⟩ = some v → w'.cell? ⟨w.heap.size, o, none⟩ = some v := fun o v hv =>
    (World.cell?_of_block (a := ⟨w.heap.size, o, none⟩) (hK.block w.heap.size (by omega) hn)).trans ((hB.cell (p := ⟨w.heap.size, o, none⟩) (by show w.heap.size < _; omega)).trans hv)
  exact ⟨w', hr, hE, KeptO.below_l hBw hK, hT.c1, hT.c8, hbox 0 _ (boxW_cells w key val).1, hbox 1 _ (boxW_cells w key val).2⟩
set_option maxRecDepth 100000 in
set_option maxHeartbeats 2000000 in
theorem put_loose (h : EnAt w L E) {i : Nat} {l : TxL} {t : Tx} (hl : L.txs[i]? = some l) (ht : E.txs[i]? = some t) (h0 : t.level = 0) :
    Calls Tryz.prog 267 #[.pointer (some ⟨L.s, 0, none⟩), .pointer (some ⟨l.b, 0, none⟩), .agg #[.int .i64 t.wk, .int .i64 t.wv]] w (PutPost L (putE E i) w) := by
  have hA := h.txs i l t hl ht
  have hlt := hA.lt
  rw [putE_ok ht (fun e => e.1 h0), if_neg (by rw [h0]; decide)]
  have c1 := hA.c1
  have c8 := hA.c8
  rw [h0] at c1
  have HX := hid (fun q => h.putIn hl ht t.wk t.wv hA.wkr (W := (boxW w t.wk t.wv).drewN (q + 1)) (below_drewN (Below.refl _ _) (q + 1)))
  obtain ⟨key, hkey⟩ : ∃ k, t.wk = k := ⟨_, rfl⟩
  obtain ⟨val, hval⟩ : ∃ k, t.wv = k := ⟨_, rfl⟩
  obtain ⟨E1, hE1⟩ : ∃ E1, E.setTx i { t with vals := updT t.vals t.wk (some t.wv) } = E1 := ⟨_, rfl⟩
  rw [hE1] at HX ⊢
  rw [hkey, hval, h0] at HX
  rw [hkey, hval]
  clear h hl ht hA h0 hkey hval hE1
  go_enter Tryz.func267, Tryz.ntmps267
  go_wp2
  go_quiet (fail)
  go_wp2
  obtain ⟨w2, hr, hE, hK, y1, y8, yk, yv⟩ := HX.out nq
  have HF := hid (And.intro hE hK)
  unfold boxW at hr
  clear hE hK HX
  go_region_held3 (fun W => W.cell? ⟨l.b, 8, none⟩ = some (.map (some l.vb)) ∧ W.cell? ⟨w.heap.size, 0, none⟩ = some (.int .i64 key) ∧ W.cell? ⟨w.heap.size, 1, none⟩ = some (.int .i64 val))
    (first | go_keep | exact ⟨y8, yk, yv⟩)
    (fail)
  go_wp2
  go_ret
  exact ⟨rfl, HF.out⟩
set_option maxRecDepth 100000 in
set_option maxHeartbeats 2000000 in
theorem put_tight (h : EnAt w L E) {i : Nat} {l : TxL} {t : Tx} (hl : L.txs[i]? = some l) (ht : E.txs[i]? = some t) (h0 : t.level ≠ 0) (hks : ∀ l ∈ E.ks, l.length ≤ 100000) :
    Calls Tryz.prog 267 #[.pointer (some ⟨L.s, 0, none⟩), .pointer (some ⟨l.b, 0, none⟩), .agg #[.int .i64 t.wk, .int .i64 t.wv]] w (PutPost L (putE E i) w) := by
  have hA := h.txs i l t hl ht
  have hlt := hA.lt
  have c1 := hA.c1
  have c2 := hA.c2
  have c8 := hA.c8
  have HN := hid (isNewer_any (h.below (below_drewN (boxW_below w t.wk t.wv) 1)) hA.wkr t.start hks)
  have HX := hid (fun W hB => h.putIn hl ht t.wk t.wv hA.wkr (W := W) hB)
  have HBB := hid (fun E1 (h1 : E1 = E.setTx i { t with vals := updT t.vals t.wk (some t.wv) }) w2 (h2 : EnAt w2 L E1) => behind_any h2 hl hA.wkr)
  have hput1 := hid (fun hn : newerP E t.wk t.start ≠ [] => putE_new ht ⟨h0, hn⟩)
  have hput2 := hid (fun hn : newerP E t.wk t.start = [] => putE_ok ht (fun e => e.2 hn))
  have HH := hid h
  obtain ⟨E1, hE1⟩ : ∃ E1, E.setTx i { t with vals := updT t.vals t.wk (some t.wv) } = E1 := ⟨_, rfl⟩
  rw [hE1] at HX hput2 HBB
  obtain ⟨key, hkey⟩ : ∃ k, t.wk = k := ⟨_, rfl⟩
  obtain ⟨val, hval⟩ : ∃ k, t.wv = k := ⟨_, rfl⟩
  obtain ⟨lv, hlv⟩ : ∃ k, t.level = k := ⟨_, rfl⟩
  obtain ⟨st, hst⟩ : ∃ k, t.start = k := ⟨_, rfl⟩
  rw [hkey, hval, hlv] at HX
  rw [hkey] at HBB
  rw [hkey, hst] at hput1 hput2
  rw [hkey, hval, hst] at HN
  rw [hlv] at c1 h0 hput2
  rw [hst] at c2
  rw [hkey, hval]
  obtain ⟨R, hR⟩ : ∃ R, putE E i = R := ⟨_, rfl⟩
  rw [hR] at hput1 hput2 ⊢
  have g1 : (lv != 0) = true := by simpa using h0
  have hbx := boxW_cells w key val
  have hsz : (boxW w key val).heap.size = w.heap.size + 1 := by simp [boxW]
  clear h hl ht hA h0 hkey hval hE1 hlv hst hR hks
  by_cases hnew : newerP E key st = []
  · have hput := hput2.out hnew
    rw [show decide (newerP E key st ≠ []) = false from by simp [hnew]] at HN
    have HPUT := hid hput
    clear hnew hput1 hput2 hput
    go_enter Tryz.func267, Tryz.ntmps267
    go_wp2
    go_region_held3 (fun W => W.cell? ⟨l.b, 1, none⟩ = some (.int .i64 lv) ∧ W.cell? ⟨l.b, 2, none⟩ = some (.int .i64 st) ∧ W.cell? ⟨w.heap.size, 0, none⟩ = some (.int .i64 key))
      (first | go_keep | exact ⟨y1, y2, y3⟩)
      (first | (go_at_call 313
                refine HN.out.mono ?_
                rintro e w1 ⟨rfl, hB1⟩
                have hB2 : Below (w.heap.size + 1) (boxW w key val) w1 := (below_drewN (Below.refl _ _) 1).trans (hsz ▸ hB1)
                have y1 : w1.cell? ⟨l.b, 1, none⟩ = some (.int .i64 lv) := (hB2.cell (p := ⟨l.b, 1, none⟩) (by show l.b < _; omega)).trans (((boxW_below w key val).cell (p := ⟨l.b, 1, none⟩) hlt).trans c1)
                have y2 : w1.cell? ⟨l.b, 2, none⟩ = some (.int .i64 st) := (hB2.cell (p := ⟨l.b, 2, none⟩) (by show l.b < _; omega)).trans (((boxW_below w key val).cell (p := ⟨l.b, 2, none⟩) hlt).trans c2)
                have y3 : w1.cell? ⟨w.heap.size, 0, none⟩ = some (.int .i64 key) := (hB2.cell (p := ⟨w.heap.size, 0, none⟩) (by show w.heap.size < _; omega)).trans hbx.1
                have HB2 := hid hB2
                clear hB1 hB2))
    obtain ⟨w2, hr, hE, hK, z1, z8, zk, zv⟩ := HX.out w1.drew HB2.out.drew
    have x8 : w1.cell? ⟨l.b, 8, none⟩ = some (.map (some l.vb)) := (HB2.out.cell (p := ⟨l.b, 8, none⟩) (by show l.b < _; omega)).trans (((boxW_below w key val).cell (p := ⟨l.b, 8, none⟩) hlt).trans c8)
    have x4 : w1.cell? ⟨w.heap.size, 1, none⟩ = some (.int .i64 val) := (HB2.out.cell (p := ⟨w.heap.size, 1, none⟩) (by show w.heap.size < _; omega)).trans hbx.2
    have HE := hid hE
    have HK := hid hK
    clear hE hK HX
    go_wp2
    go_region_held3 (fun W => W.cell? ⟨l.b, 8, none⟩ = some (.map (some l.vb)) ∧ W.cell? ⟨w.heap.size, 0, none⟩ = some (.int .i64 key) ∧ W.cell? ⟨w.heap.size, 1, none⟩ = some (.int .i64 val))
      (first | go_keep | exact ⟨z8, zk, zv⟩)
      (fail)
    by_cases h2 : lv = 2
    · subst h2
      have HC := hid (HBB.out E1 rfl w2 HE.out)
      have hp := HPUT.out
      rw [if_pos rfl] at hp
      obtain ⟨bb, bE, hbe⟩ : ∃ bb bE, behindP E1 i key = (bb, bE) := ⟨_, _, rfl⟩
      rw [hbe] at HC hp
      have HP := hid hp
      clear hp hbe HBB HPUT
      go_wp2_with fail
      refine HC.out.mono ?_
      rintro e w3 ⟨rfl, hE3, hK3⟩
      have HF := hid (And.intro hE3 (HK.out.trans hK3))
      clear hE3 hK3 HC
      cases bb with
      | true =>
        go_wp2
        go_ret
        rw [HP.out]
        exact ⟨rfl, HF.out⟩
      | false =>
        go_wp2
        go_ret
        rw [HP.out]
        exact ⟨rfl, HF.out⟩
    · have e2 : (lv == 2) = false := by simpa using h2
      have hp := HPUT.out
      rw [if_neg h2] at hp
      have HP := hid hp
      clear h2 hp HBB HPUT
      go_wp2
      go_ret
      rw [HP.out]
      exact ⟨rfl, HE.out, HK.out⟩
  · have hput := hput1.out hnew
    rw [show decide (newerP E key st ≠ []) = true from by simp [hnew]] at HN
    have HPUT := hid hput
    clear hnew hput1 hput2 hput HX HBB c8
    go_enter Tryz.func267, Tryz.ntmps267
    go_wp2
    go_region_held3 (fun W => W.cell? ⟨l.b, 1, none⟩ = some (.int .i64 lv) ∧ W.cell? ⟨l.b, 2, none⟩ = some (.int .i64 st) ∧ W.cell? ⟨w.heap.size, 0, none⟩ = some (.int .i64 key))
      (first | go_keep | exact ⟨y1, y2, y3⟩)
      (first | (go_at_call 313
                refine HN.out.mono ?_
                rintro e w1 ⟨rfl, hB1⟩
                have hB2 : Below (w.heap.size + 1) (boxW w key val) w1 := (below_drewN (Below.refl _ _) 1).trans (hsz ▸ hB1)
                have y1 : w1.cell? ⟨l.b, 1, none⟩ = some (.int .i64 lv) := (hB2.cell (p := ⟨l.b, 1, none⟩) (by show l.b < _; omega)).trans (((boxW_below w key val).cell (p := ⟨l.b, 1, none⟩) hlt).trans c1)
                have y2 : w1.cell? ⟨l.b, 2, none⟩ = some (.int .i64 st) := (hB2.cell (p := ⟨l.b, 2, none⟩) (by show l.b < _; omega)).trans (((boxW_below w key val).cell (p := ⟨l.b, 2, none⟩) hlt).trans c2)
                have y3 : w1.cell? ⟨w.heap.size, 0, none⟩ = some (.int .i64 key) := (hB2.cell (p := ⟨w.heap.size, 0, none⟩) (by show w.heap.size < _; omega)).trans hbx.1
                have HB2 := hid hB2
                clear hB1 hB2))
    go_wp2
    go_ret
    rw [HPUT.out]
    have hBw : Below w.heap.size w w1 := (boxW_below w key val).trans (HB2.out.mono (by omega))
    exact ⟨rfl, HH.out.below hBw, KeptO.of_below hBw⟩
theorem putE_any (h : EnAt w L E) {i : Nat} {l : TxL} {t : Tx} (hl : L.txs[i]? = some l) (ht : E.txs[i]? = some t) (hks : ∀ l ∈ E.ks, l.length ≤ 100000) :
    Calls Tryz.prog 267 #[.pointer (some ⟨L.s, 0, none⟩), .pointer (some ⟨l.b, 0, none⟩), .agg #[.int .i64 t.wk, .int .i64 t.wv]] w (PutPost L (putE E i) w) := by
  by_cases h0 : t.level = 0
  · exact put_loose h hl ht h0
  · exact put_tight h hl ht h0 hks
end Go.Proofs.YtjefgmeejhakbabGreatDoor

/- engine.lose, by what end does. -/
namespace Go.Proofs.YtjefgmeejhakbabGreatDoor
open Go.RowKit
variable {w w' : World} {L : EnL} {E : Eng}
theorem ISet.del {b n : Nat} {s : Int → Bool} (h : ISet w b n s) {x : Int} (hx : I64 x) (ty : TypeId) :
    ∃ w', (Builtin.delete_ #[257, 3] ty #[.map (some b), .int .i64 x]).run Tryz.prog w = .ok (.tuple #[]) w' ∧ ISet w' b n (fun a => s a && a != x) ∧ w.grownBy w' (some b) := by
  obtain ⟨w', h1, h2, h3⟩ := IMap.del h Tryz.underlying257 hx ty
  refine ⟨w', h1, h2.congr (fun a => ?_), h3⟩
  by_cases e : a = x
  · subst e; rw [updT_same]; simp
  · rw [updT_other _ _ e]; simp [e]
theorem EnAt.delAh (h : EnAt w L E) {j : Nat} {m : TxL} {u : Tx} (hm : L.txs[j]? = some m) (hu : E.txs[j]? = some u) {x : Int} (hx : I64 x) (ty : TypeId) :
    ∃ w', (Builtin.delete_ #[257, 3] ty #[.map (some m.ab), .int .i64 x]).run Tryz.prog w = .ok (.tuple #[]) w' ∧ EnAt w' L (E.setTx j { u with ahead := fun a => u.ahead a && a != x }) ∧ KeptO L.own L.own w w' := by
  have hA := h.txs j m u hm hu
  obtain ⟨w', hr, hI, hg⟩ := hA.ah.del hx ty
  have hb : ∀ g, g < w.heap.size → g ≠ m.ab → w'.heap[g]? = w.heap[g]? := fun g hg' hne => hg.block g hg' (fun e => hne (by injection e))
  have hK : KeptO m.own m.own w w' := ⟨hg.os, hg.tape, hg.output, hg.size, fun g hg' hn => hb g hg' (fun e => hn (e ▸ .inr (.inr (.inl rfl)))), fun g hg => .inl hg⟩
  have := h.setTx hm hu rfl hK (hA.setAh (fun g hg' hne => hb g (hA.own_lt hg') hne) hI (fun x hx => hA.aN x (by simp only [Bool.and_eq_true] at hx; exact hx.1)))
  rw [setTx_self hm] at this
  exact ⟨w', hr, this⟩
theorem EnAt.delBe (h : EnAt w L E) {j : Nat} {m : TxL} {u : Tx} (hm : L.txs[j]? = some m) (hu : E.txs[j]? = some u) {x : Int} (hx : I64 x) (ty : TypeId) :
    ∃ w', (Builtin.delete_ #[257, 3] ty #[.map (some m.hb), .int .i64 x]).run Tryz.prog w = .ok (.tuple #[]) w' ∧ EnAt w' L (E.setTx j { u with behind := fun a => u.behind a && a != x }) ∧ KeptO L.own L.own w w' := by
  have hA := h.txs j m u hm hu
  obtain ⟨w', hr, hI, hg⟩ := hA.be.del hx ty
  have hb : ∀ g, g < w.heap.size → g ≠ m.hb → w'.heap[g]? = w.heap[g]? := fun g hg' hne => hg.block g hg' (fun e => hne (by injection e))
  have hK : KeptO m.own m.own w w' := ⟨hg.os, hg.tape, hg.output, hg.size, fun g hg' hn => hb g hg' (fun e => hn (e ▸ .inr (.inr (.inr (.inl rfl))))), fun g hg => .inl hg⟩
  have := h.setTx hm hu rfl hK (hA.setBe (fun g hg' hne => hb g (hA.own_lt hg') hne) hI (fun x hx => hA.bN x (by simp only [Bool.and_eq_true] at hx; exact hx.1)))
  rw [setTx_self hm] at this
  exact ⟨w', hr, this⟩
theorem EnAt.delBoth (h : EnAt w L E) {j : Nat} {m : TxL} {u : Tx} (hm : L.txs[j]? = some m) (hu : E.txs[j]? = some u) {x : Int} (hx : I64 x) (ty : TypeId) :
    ∃ w1, (Builtin.delete_ #[257, 3] ty #[.map (some m.ab), .int .i64 x]).run Tryz.prog w.drew = .ok (.tuple #[]) w1 ∧ EnAt w1 L (E.setTx j { u with ahead := fun a => u.ahead a && a != x }) ∧
    ∃ w2, (Builtin.delete_ #[257, 3] ty #[.map (some m.hb), .int .i64 x]).run Tryz.prog w1.drew = .ok (.tuple #[]) w2 ∧ EnAt w2 L (E.setTx j (freeOf x u)) ∧ KeptO L.own L.own w w2 := by
  have hd : ∀ w : World, Below w.heap.size w w.drew := fun w => below_drewN (Below.refl _ w) 1
  obtain ⟨w1, r1, h1, k1⟩ := (h.below (hd w)).delAh hm hu hx ty
  obtain ⟨w2, r2, h2, k2⟩ := (h1.below (hd w1)).delBe hm (setTx_get hu) hx ty
  rw [setTx_twice] at h2
  exact ⟨w1, r1, h1, w2, r2, h2, (KeptO.below_l (hd w) k1).trans (KeptO.below_l (hd w1) k2)⟩
def freeTo (n : Int) (j : Nat) (l : List Tx) : List Tx := (l.take j).map (freeOf n) ++ l.drop j
theorem freeTo_zero (n : Int) (l : List Tx) : freeTo n 0 l = l := by simp [freeTo]
theorem freeTo_all (n : Int) (l : List Tx) {j : Nat} (h : l.length ≤ j) : freeTo n j l = l.map (freeOf n) := by simp [freeTo, List.take_of_length_le h, List.drop_of_length_le h]
theorem freeTo_get {n : Int} {j : Nat} {l : List Tx} {t : Tx} (h : l[j]? = some t) : (freeTo n j l)[j]? = some t := by
  have hj := (List.getElem?_eq_some_iff.1 h).1
  unfold freeTo
  rw [List.getElem?_append_right (by simp; omega), List.getElem?_drop]
  simp only [List.length_map, List.length_take]
  rw [show j + (j - min j l.length) = j from by omega, h]
theorem freeTo_step {n : Int} {j : Nat} {l : List Tx} {t : Tx} (h : l[j]? = some t) : freeTo n (j + 1) l = (freeTo n j l).set j (freeOf n t) := by
  have hj := (List.getElem?_eq_some_iff.1 h).1
  unfold freeTo
  rw [List.take_add_one, h, List.set_append_right _ _ (by simp; omega), List.drop_eq_getElem_cons hj]
  simp only [List.length_map, List.length_take]
  rw [show j - min j l.length = 0 from by omega, List.set_cons_zero]
  simp
def EnPost (L : EnL) (E' : Eng) (w w' : World) : Prop := ∃ L', EnAt w' L' E' ∧ KeptO L.own L'.own w w' ∧ L'.s = L.s ∧ L'.bs = L.bs
def EndOk (f : Nat) : Prop := ∀ (w : World) (L : EnL) (E E' : Eng) (i : Nat) (b : Nat) (st : Int), EnAt w L E → L.bs[i]? = some b → (∀ l ∈ E.ks, l.length ≤ 100000) → endF f E i st = some E' →
  Calls Tryz.prog 228 #[.pointer (some ⟨L.s, 0, none⟩), .pointer (some ⟨b, 0, none⟩), .int .i64 st] w fun e w' => e = .returned (.tuple #[]) ∧ EnPost L E' w w'
theorem txCells_why (n : Int) (l : TxL) (t : Tx) (v : Int) : (txCells n l t).setIfInBounds 4 (.int .i64 v) = txCells n l { t with why := v } := by unfold txCells; simp
theorem txCells_state (n : Int) (l : TxL) (t : Tx) (v : Int) : (txCells n l t).setIfInBounds 3 (.int .i64 v) = txCells n l { t with state := v } := by unfold txCells; simp
theorem txCells_bae (n : Int) (l : TxL) (t : Tx) (v : Int) : (txCells n l t).setIfInBounds 5 (.int .i64 v) = txCells n l { t with bae := v } := by unfold txCells; simp
theorem txCells_reads (n : Int) (l : TxL) (t : Tx) (v : Value) (r : List (Int × Int)) : (txCells n l t).setIfInBounds 9 v = txCells n { l with rv := v } { t with reads := r } := by unfold txCells; simp
theorem TxAt.recell {n : Int} {l : TxL} {t t' : Tx} (h : TxAt w n l t) (hb : w'.heap[l.b]? = some (.cells (txCells n l t') 259 (0, 0))) (hs : ∀ g, g ≠ l.b → w'.heap[g]? = w.heap[g]?)
    (e1 : t'.vals = t.vals) (e2 : t'.reads = t.reads) (e3 : t'.seen.length = 10) (e4 : t'.ahead = t.ahead) (e5 : t'.behind = t.behind) (e6 : 0 ≤ t'.wk ∧ t'.wk < 10) : TxAt w' n l t' :=
  ⟨hb, by rw [e1]; exact h.va.same (hs _ h.ne_va.symm), by rw [e2]; exact owns_same h.rd (fun g hg => hs g (h.rd_ne hg).1), by rw [e4]; exact h.ah.same (hs _ h.ne_ah.symm), by rw [e5]; exact h.be.same (hs _ h.ne_be.symm), h.d1, h.d2, h.d3, e3, by rw [e1]; exact h.vk, by rw [e4]; exact h.aN, by rw [e5]; exact h.bN, e6⟩
theorem setCell_at {b o : Nat} {v : Value} {cs : Array Value} {T : TypeId} (hw : w.heap[b]? = some (.cells cs T (0, 0))) : (w.setCell ⟨b, o, none⟩ v).heap[b]? = some (.cells (cs.setIfInBounds o v) T (0, 0)) := heap_setCell_same w b o _ T _ hw
theorem EnAt.setCell (h : EnAt w L E) {i : Nat} {l : TxL} {t t' : Tx} (hl : L.txs[i]? = some l) (ht : E.txs[i]? = some t) {o : Nat} {v : Value} (hc : (txCells ((i : Int) + 1) l t).setIfInBounds o v = txCells ((i : Int) + 1) l t')
    (e1 : t'.vals = t.vals) (e2 : t'.reads = t.reads) (e3 : t'.seen.length = 10) (e4 : t'.ahead = t.ahead) (e5 : t'.behind = t.behind) (e6 : 0 ≤ t'.wk ∧ t'.wk < 10) :
    EnAt (w.setCell ⟨l.b, o, none⟩ v) L (E.setTx i t') ∧ KeptO L.own L.own w (w.setCell ⟨l.b, o, none⟩ v) := by
  have hA := h.txs i l t hl ht
  have hb := setCell_at (o := o) (v := v) hA.blk
  rw [hc] at hb
  have hs : ∀ g, g ≠ l.b → (w.setCell ⟨l.b, o, none⟩ v).heap[g]? = w.heap[g]? := fun g hne => heap_setCell_other w ⟨l.b, o, none⟩ g _ hne
  have hK : KeptO l.own l.own w (w.setCell ⟨l.b, o, none⟩ v) := ⟨rfl, rfl, rfl, by simp, fun g _ hn => hs g (fun e => hn (.inl e)), fun g hg => .inl hg⟩
  have := h.setTx hl ht rfl hK (hA.recell hb hs e1 e2 e3 e4 e5 e6)
  rwa [setTx_self hl] at this
theorem EnAt.noReads (h : EnAt w L E) {i : Nat} {l : TxL} {t : Tx} (hl : L.txs[i]? = some l) (ht : E.txs[i]? = some t) :
    EnAt (w.setCell ⟨l.b, 9, none⟩ (.slice none 0 0)) (L.setTx i { l with rv := .slice none 0 0 }) (E.setTx i { t with reads := [] }) ∧ KeptO L.own (L.setTx i { l with rv := .slice none 0 0 }).own w (w.setCell ⟨l.b, 9, none⟩ (.slice none 0 0)) := by
  have hA := h.txs i l t hl ht
  have hb := setCell_at (o := 9) (v := .slice none 0 0) hA.blk
  rw [txCells_reads _ _ _ _ []] at hb
  have hs : ∀ g, g ≠ l.b → (w.setCell ⟨l.b, 9, none⟩ (.slice none 0 0)).heap[g]? = w.heap[g]? := fun g hne => heap_setCell_other w ⟨l.b, 9, none⟩ g _ hne
  have hK : KeptO l.own ({ l with rv := .slice none 0 0 } : TxL).own w (w.setCell ⟨l.b, 9, none⟩ (.slice none 0 0)) := ⟨rfl, rfl, rfl, by simp, fun g _ hn => hs g (fun e => hn (.inl e)), fun g hg => by
    rcases hg with h | h | h | h | h
    · exact .inl (.inl h)
    · exact .inl (.inr (.inl h))
    · exact .inl (.inr (.inr (.inl h)))
    · exact .inl (.inr (.inr (.inr (.inl h))))
    · cases h⟩
  exact h.setTx hl ht rfl hK ⟨hb, hA.va.same (hs _ hA.ne_va.symm), by simpa [readOps, opsV] using World.ownsRow_nil _ 0 138 4, hA.ah.same (hs _ hA.ne_ah.symm), hA.be.same (hs _ hA.ne_be.symm), hA.d1, hA.d2, hA.d3, hA.sl, hA.vk, hA.aN, hA.bN, hA.wkr⟩
theorem EnAt.row (h : EnAt w L E) {ad : Option Addr} {n cap : Nat} (e : L.av = .slice ad n cap) {j : Nat} {m : TxL} (hm : L.txs[j]? = some m) : ∃ g, ad = some ⟨g, 0, none⟩ ∧ w.cell? ⟨g, j, none⟩ = some (.pointer (some ⟨m.b, 0, none⟩)) := by
  rcases row_slice h.all with ⟨_, e2⟩ | ⟨g, cap', e1, hg, hc⟩
  · have := (List.getElem?_eq_some_iff.1 hm).1; omega
  · rw [e] at e1
    injection e1 with e1
    exact ⟨g, e1, hc j _ (show (L.bs.map ptrV)[j]? = some (ptrV m.b) from by rw [List.getElem?_map, bs_get hm]; rfl)⟩
set_option maxRecDepth 100000 in
set_option maxHeartbeats 2000000 in
theorem lose_any {f : Nat} (hend : EndOk f) (h : EnAt w L E) {i : Nat} {l : TxL} {t : Tx} (hl : L.txs[i]? = some l) (ht : E.txs[i]? = some t) (why : Int) (hks : ∀ l ∈ E.ks, l.length ≤ 100000) {E' : Eng} (hE : endF f (loseE E i why) i 3 = some E') :
    Calls Tryz.prog 171 #[.pointer (some ⟨L.s, 0, none⟩), .pointer (some ⟨l.b, 0, none⟩), .int .i64 why] w fun e w' => e = .returned (.tuple #[]) ∧ EnPost L E' w w' := by
  have hA := h.txs i l t hl ht
  have c4 := hA.c4
  have f4 := hA.free 4
  obtain ⟨h1, k1⟩ := h.setCell hl ht (txCells_why _ l t why) rfl rfl hA.sl rfl rfl hA.wkr
  have ht1 : (E.setTx i { t with why := why }).txs[i]? = some { t with why := why } := setTx_get ht
  obtain ⟨w1, hw1⟩ : ∃ w1, w.setCell ⟨l.b, 4, none⟩ (.int .i64 why) = w1 := ⟨_, rfl⟩
  rw [hw1] at h1 k1
  obtain ⟨E1, hE1⟩ : ∃ E1, E.setTx i { t with why := why } = E1 := ⟨_, rfl⟩
  rw [hE1] at h1 ht1
  have c14 := h1.c14
  obtain ⟨ad, cap, e⟩ := row_form h1.all
  obtain ⟨m, hm⟩ : ∃ m, L.txs.length = m := ⟨_, rfl⟩
  rw [hm] at e
  rw [e] at c14
  have hle := h1.le
  have hlen := h1.len
  rw [hm] at hlen
  have HM := hid hm
  have HAV := hid e
  have H1 := hid h1
  have HL := hid hl
  have HT1 := hid ht1
  have hil : i < E1.txs.length := (List.getElem?_eq_some_iff.1 ht1).1
  have HFIN := hid (show Eng.setTx { E1 with txs := E1.txs.map (freeOf ((i : Int) + 1)) } i { freeOf ((i : Int) + 1) { t with why := why } with reads := [] } = loseE E i why from by
    unfold loseE
    rw [ht]
    simp only
    rw [Eng.upd_some (t := freeOf ((i : Int) + 1) { t with why := why }) (by
      have : (E.txs.set i { t with why := why })[i]? = some { t with why := why } := by rw [← hE1] at ht1; exact ht1
      simp only
      rw [List.getElem?_map, this]; rfl)]
    rw [← hE1]
    rfl)
  have HEE := hid hE
  have hks1 : ∀ l ∈ E1.ks, l.length ≤ 100000 := by rw [← hE1]; exact hks
  have HKS := hid hks1
  have HK1 := hid k1
  have hx : I64 ((i : Int) + 1) := by unfold I64; omega
  clear h hl ht hA h1 ht1 hm e hE hks hks1 k1 hE1
  go_enter Tryz.func171, Tryz.ntmps171
  go_wp2
  go_loopw [17] (fun iv wr => ∃ j : Nat, j ≤ m ∧ iv = .int .i64 j ∧ EnAt wr L { E1 with txs := freeTo ((i : Int) + 1) j E1.txs } ∧ KeptO L.own L.own w1 wr) (fun iv _ => m - (intOf iv).toNat)
  case atStart => exact ⟨0, by omega, rfl, by rw [freeTo_zero]; exact H1.out, KeptO.refl _ _⟩
  case round =>
    obtain ⟨j, hj, rfl, hEr, hK⟩ := hrel
    by_cases hlt : j < m
    · obtain ⟨mm, hmm⟩ : ∃ mm, L.txs[j]? = some mm := ⟨L.txs[j]'(by have := HM.out; omega), List.getElem?_eq_getElem _⟩
      obtain ⟨u, hu, _⟩ := H1.out.getL hmm
      have hu2 := freeTo_get (n := (i : Int) + 1) hu
      obtain ⟨g, rfl, hc⟩ := hEr.row HAV.out hmm
      obtain ⟨w2, r2, e2, w3, r3, e3, k3⟩ := hEr.delBoth hmm hu2 hx 0
      have hst := freeTo_step (n := (i : Int) + 1) hu
      have e3' : EnAt w3 L { E1 with txs := freeTo ((i : Int) + 1) (j + 1) E1.txs } := by rw [hst]; exact e3
      obtain ⟨t0, _, hT0⟩ := hEr.getL HL.out
      obtain ⟨t1, _, hT1⟩ := e2.getL HL.out
      obtain ⟨t2, _, hT2⟩ := e3.getL HL.out
      have n0 := hT0.c0
      have n1 := hT1.c0
      have n2 := hT2.c0
      have hM0 := hEr.txs j mm u hmm hu2
      have a0 := hM0.c20
      have b0 := hM0.c21
      have hM1 := e2.txs j mm _ hmm (setTx_get hu2)
      have a1 := hM1.c20
      have b1 := hM1.c21
      have hM2 := e3.txs j mm _ hmm (setTx_get hu2)
      have a2 := hM2.c20
      have b2 := hM2.c21
      have HF := hid (And.intro e3' (hK.trans k3))
      have hj0 : (0 : Int) ≤ (j : Int) := by omega
      have hj1 : (j : Int) < (m : Int) := by omega
      clear hmm hu hu2 e2 e3 k3 hst e3' hT0 hT1 hT2 hM0 hM1 hM2 hEr hK
      go_wp2
      go_region_held3 (fun W => W.cell? ⟨mm.b, 20, none⟩ = some (.map (some mm.ab)) ∧ W.cell? ⟨l.b, 0, none⟩ = some (.int .i64 ((i : Int) + 1)))
        (first | go_keep | exact ⟨a1, n1⟩)
        (refine step_del (by rfl) _ _ _ _ (by rfl) _ _ (by rfl) (by rfl) r2 ?_)
      go_wp2
      go_region_held3 (fun W => W.cell? ⟨mm.b, 21, none⟩ = some (.map (some mm.hb)) ∧ W.cell? ⟨l.b, 0, none⟩ = some (.int .i64 ((i : Int) + 1)))
        (first | go_keep | exact ⟨b2, n2⟩)
        (refine step_del (by rfl) _ _ _ _ (by rfl) _ _ (by rfl) (by rfl) r3 ?_)
      go_wp2
      go_roundw
      case rel => exact ⟨j + 1, by omega, by go_num, HF.out⟩
      case measure => simp [intOf]; omega
    · obtain rfl : j = m := by omega
      rw [freeTo_all _ _ (by omega)] at hEr
      have htF : ({ E1 with txs := E1.txs.map (freeOf ((i : Int) + 1)) } : Eng).txs[i]? = some (freeOf ((i : Int) + 1) { t with why := why }) := by
        simp only
        rw [List.getElem?_map, HT1.out]; rfl
      obtain ⟨h3, k3⟩ := hEr.noReads HL.out htF
      rw [HFIN.out] at h3
      have hT := hEr.txs i l _ HL.out htF
      have c9 := hT.c9
      have f9 := hT.free 9
      have hbs := bs_setTx (l' := { l with rv := .slice none 0 0 }) HL.out rfl
      have HC := hid (hend _ _ _ _ i l.b 3 h3 (by rw [hbs]; exact bs_get HL.out) (by rw [← HFIN.out]; exact HKS.out) HEE.out)
      have HK3 := hid (And.intro (HK1.out.trans (hK.trans k3)) hbs)
      clear hEr hK htF h3 k3 hT hbs
      go_wp2_with fail
      refine HC.out.mono ?_
      rintro e w4 ⟨rfl, L', hE4, hK4, hs4, hb4⟩
      have HF := hid (show EnPost L E' w w4 from ⟨L', hE4, HK3.out.1.trans hK4, hs4, hb4.trans HK3.out.2⟩)
      clear hE4 hK4 hs4 hb4 HC
      go_wp2
      refine bodyPost_end (results_none rfl _ _ _) rfl ?_
      exact ⟨rfl, HF.out⟩
end Go.Proofs.YtjefgmeejhakbabGreatDoor

/- The engine's lock table, or its store, is turned. -/
namespace Go.Proofs.YtjefgmeejhakbabGreatDoor
open Go.RowKit
variable {w w' : World} {L : EnL} {E : Eng}
theorem TabAt.tight {C : Emb} {s N : Nat} {M : LkM} {T : Tab} (h : TabAt C w s N M T) (hg : Good T) (hm : ∀ k x, x ∈ T k → 1 ≤ x ∧ x ≤ 200) : TabAt C w s 201 M T := by
  obtain ⟨hh, wa, ln, r, R⟩ := h
  have hne : ∀ k, T k ≠ [] → 0 ≤ k ∧ k < (201 : Nat) := fun k hk => by have := hg.tidy.rng k hk; omega
  refine ⟨hh, wa, ln, ⟨r.blk, r.mh.upTo 201 (fun k hk => hne k (fun e => hk (by rw [R.h k, e]; rfl))), r.mw.upTo 201 (fun x hx => ?_), r.ml.upTo 201 (fun k hk => hne k (fun e => hk (r.ln0 k (by rw [R.ln k, e]; rfl)))), r.ln0, r.ln1, r.ap, r.d1, r.d2, r.both, fun k => ?_⟩, R⟩
  · have h1 : waitsP T x ≠ -1 := fun e => hx (by rw [(R.wa x).2.2 e]; rfl)
    rcases waits_cases T x with e | ⟨e, _⟩
    · exact (h1 e).elim
    · have := hm _ _ (List.mem_of_mem_tail (mem_of_waits e))
      omega
  · rw [R.ln k]
    have := nodup_le (T k) (upTo 201) (hg.tidy.nod k) (fun x hx => mem_upTo (by have := hm k x hx; omega) (by have := hm k x hx; omega))
    rw [upTo_length] at this
    simp only [List.length_tail]
    omega
theorem Sto.reblk {P P' : Tail} {base s : Nat} {last last' : Int} {vs : List Value} {ks : List (List (Int × Int))} (h : Sto P w base s last vs ks) (hb : w'.heap[s]? = some (.cells (P'.cells last' vs) P'.tt (0, 0))) (hr : ∀ g, InRows vs g → w'.heap[g]? = w.heap[g]?) : Sto P' w' base s last' vs ks :=
  ⟨hb, h.lv, h.lk, fun k v l hv hl => owns_same (h.own k v l hv hl) (fun g hg => hr g ⟨v, List.mem_of_getElem? hv, hg⟩), h.apart, h.sb⟩
theorem TabAt.reblk {C C' : Emb} {s N : Nat} {M : LkM} {T : Tab} (h : TabAt C w s N M T) (hb : w'.heap[s]? = some (.cells (C'.cells (.map M.mh) (.map M.mw) (.map M.ml)) C'.tt (0, 0))) (hr : ∀ g, M.own s g → g ≠ s → w'.heap[g]? = w.heap[g]?) : TabAt C' w' s N M T := by
  obtain ⟨hh, wa, ln, r, R⟩ := h
  refine ⟨hh, wa, ln, ⟨hb, r.mh.same (fun b e => hr b (.inr (.inl e)) (fun e2 => r.map_ne.1 (e2 ▸ e))), r.mw.same (fun b e => hr b (.inr (.inr (.inl e))) (fun e2 => r.map_ne.2.1 (e2 ▸ e))), r.ml.same (fun b e => hr b (.inr (.inr (.inr (.inl e)))) (fun e2 => r.map_ne.2.2 (e2 ▸ e))), r.ln0, fun k hk => ?_, r.ap, r.d1, r.d2, r.both, r.len⟩, R⟩
  obtain ⟨v, hv, ho⟩ := r.ln1 k hk
  exact ⟨v, hv, owns_same ho (fun g hg => hr g (.inr (.inr (.inr (.inr ⟨k, v, hv, hg⟩)))) (r.row_ne hv hg).1)⟩
theorem TabAt.blk {C : Emb} {s N : Nat} {M : LkM} {T : Tab} (h : TabAt C w s N M T) : w.heap[s]? = some (.cells (C.cells (.map M.mh) (.map M.mw) (.map M.ml)) C.tt (0, 0)) := by
  obtain ⟨_, _, _, r, _⟩ := h
  exact r.blk
theorem EnAt.setLock (h : EnAt w L E) {M' : LkM} {N : Nat} {T' : Tab} (hT : TabAt (L.C E.last) w' L.s N M' T') (hK : KeptO (L.M.own L.s) (M'.own L.s) w w') (hg : Good T') (hm : ∀ k x, x ∈ T' k → 1 ≤ x ∧ x ≤ E.txs.length) :
    EnAt w' { L with M := M' } { E with T := T' } ∧ KeptO L.own ({ L with M := M' } : EnL).own w w' := by
  obtain ⟨ρ, T⟩ := h.tag
  have hle := h.le
  have hk : ∀ g, L.own g → ρ g ≠ .eng → ρ g ≠ .lock → w'.heap[g]? = w.heap[g]? := fun g hg h1 h2 => hK.block g (h.own_lt hg) (fun ho => by
    by_cases e : g = L.s
    · exact h1 (by rw [e]; exact T.eng)
    · exact h2 (T.lock g ho e))
  have hblk := hT.blk
  rw [show (L.C E.last) = (({ L with M := M' } : EnL).C E.last) from rfl] at hblk
  refine ⟨⟨h.sto.reblk ?_ (fun g hg => hk g (.inr (.inl hg)) (by rw [T.srow g hg]; exact nofun) (by rw [T.srow g hg]; exact nofun)), hT.tight hg (fun k x hx => by have := hm k x hx; omega), hg, hm,
    owns_same h.all (fun g hg => hk g (.inr (.inr (.inr (.inl hg)))) (by rw [T.all g hg]; exact nofun) (by rw [T.all g hg]; exact nofun)), h.len, h.le,
    h.wr.same (hk _ (.inr (.inr (.inr (.inr (.inl rfl))))) (by rw [T.wr]; exact nofun) (by rw [T.wr]; exact nofun)), owns_same h.com (fun g hg => hk g (.inr (.inr (.inr (.inr (.inr (.inl hg)))))) (by rw [T.com g hg]; exact nofun) (by rw [T.com g hg]; exact nofun)), h.coml,
    fun i l t hl ht => (h.txs i l t hl ht).same (fun g hg => hk g (TxL.own_in (L := L) hl hg) (by rw [T.tx i l g hl hg]; exact nofun) (by rw [T.tx i l g hl hg]; exact nofun)), fun g => if g < w.heap.size then ρ g else .lock, ?_⟩, ?_⟩
  · exact hblk.trans (by rw [← EnL.cells_eq]; rfl)
  · have hlt : ∀ g, L.own g → (if g < w.heap.size then ρ g else Tag.lock) = ρ g := fun g hg => if_pos (h.own_lt hg)
    refine ⟨(hlt _ (.inl rfl)).trans T.eng, fun g hg => (hlt g (.inr (.inl hg))).trans (T.srow g hg), fun g hg hn => ?_, fun g hg => (hlt g (.inr (.inr (.inr (.inl hg))))).trans (T.all g hg), (hlt _ (.inr (.inr (.inr (.inr (.inl rfl)))))).trans T.wr,
      fun g hg => (hlt g (.inr (.inr (.inr (.inr (.inr (.inl hg))))))).trans (T.com g hg), fun j m g hm hg => (hlt g (TxL.own_in (L := L) hm hg)).trans (T.tx j m g hm hg)⟩
    rcases hK.sub g hg with ho | ho
    · exact (hlt g (.inr (.inr (.inl ho)))).trans (T.lock g ho hn)
    · simp only [if_neg (Nat.not_lt.2 ho)]
  · refine ⟨hK.os, hK.tape, hK.output, hK.size, fun g hg hn => hK.block g hg (fun ho => hn (.inr (.inr (.inl ho)))), fun g hg => ?_⟩
    rcases hg with h1 | h1 | h1 | h1 | h1 | h1 | h1
    · exact .inl (.inl h1)
    · exact .inl (.inr (.inl h1))
    · rcases hK.sub g h1 with h2 | h2
      · exact .inl (.inr (.inr (.inl h2)))
      · exact .inr h2
    · exact .inl (.inr (.inr (.inr (.inl h1))))
    · exact .inl (.inr (.inr (.inr (.inr (.inl h1)))))
    · exact .inl (.inr (.inr (.inr (.inr (.inr (.inl h1))))))
    · exact .inl (.inr (.inr (.inr (.inr (.inr (.inr h1))))))
theorem EnAt.setSto (h : EnAt w L E) {last' : Int} {vs' : List Value} {ks' : List (List (Int × Int))} (hS : Sto L.P w' (L.s + 1) L.s last' vs' ks') (hK : Kept L.s L.vs vs' w w') :
    EnAt w' { L with vs := vs' } { E with last := last', ks := ks' } ∧ KeptO L.own ({ L with vs := vs' } : EnL).own w w' := by
  obtain ⟨ρ, T⟩ := h.tag
  have hk : ∀ g, L.own g → ρ g ≠ .eng → ρ g ≠ .srow → w'.heap[g]? = w.heap[g]? := fun g hg h1 h2 => hK.block g (h.own_lt hg) (fun e => h1 (by rw [e]; exact T.eng)) (fun ho => h2 (T.srow g ho))
  have hlv := hS.lv
  refine ⟨⟨hS, h.loc.reblk (C' := ({ L with vs := vs' } : EnL).C last') ?_ (fun g hg hne => hk g (.inr (.inr (.inl hg))) (by rw [T.lock g hg hne]; exact nofun) (by rw [T.lock g hg hne]; exact nofun)), h.good, h.mem,
    owns_same h.all (fun g hg => hk g (.inr (.inr (.inr (.inl hg)))) (by rw [T.all g hg]; exact nofun) (by rw [T.all g hg]; exact nofun)), h.len, h.le,
    h.wr.same (hk _ (.inr (.inr (.inr (.inr (.inl rfl))))) (by rw [T.wr]; exact nofun) (by rw [T.wr]; exact nofun)), owns_same h.com (fun g hg => hk g (.inr (.inr (.inr (.inr (.inr (.inl hg)))))) (by rw [T.com g hg]; exact nofun) (by rw [T.com g hg]; exact nofun)), h.coml,
    fun i l t hl ht => (h.txs i l t hl ht).same (fun g hg => hk g (TxL.own_in (L := L) hl hg) (by rw [T.tx i l g hl hg]; exact nofun) (by rw [T.tx i l g hl hg]; exact nofun)), fun g => if g < w.heap.size then ρ g else .srow, ?_⟩, ?_⟩
  · exact hS.blk.trans (by rw [← EnL.cells_eq]; rfl)
  · have hlt : ∀ g, L.own g → (if g < w.heap.size then ρ g else Tag.srow) = ρ g := fun g hg => if_pos (h.own_lt hg)
    refine ⟨(hlt _ (.inl rfl)).trans T.eng, fun g hg => ?_, fun g hg hn => (hlt g (.inr (.inr (.inl hg)))).trans (T.lock g hg hn), fun g hg => (hlt g (.inr (.inr (.inr (.inl hg))))).trans (T.all g hg), (hlt _ (.inr (.inr (.inr (.inr (.inl rfl)))))).trans T.wr,
      fun g hg => (hlt g (.inr (.inr (.inr (.inr (.inr (.inl hg))))))).trans (T.com g hg), fun j m g hm hg => (hlt g (TxL.own_in (L := L) hm hg)).trans (T.tx j m g hm hg)⟩
    rcases hK.sub g hg with ho | ho
    · exact (hlt g (.inr (.inl ho))).trans (T.srow g ho)
    · simp only [if_neg (Nat.not_lt.2 ho)]
  · refine ⟨hK.os, hK.tape, hK.output, hK.size, fun g hg hn => hK.block g hg (fun e => hn (.inl e)) (fun ho => hn (.inr (.inl ho))), fun g hg => ?_⟩
    rcases hg with h1 | h1 | h1 | h1 | h1 | h1 | h1
    · exact .inl (.inl h1)
    · rcases hK.sub g h1 with h2 | h2
      · exact .inl (.inr (.inl h2))
      · exact .inr h2
    · exact .inl (.inr (.inr (.inl h1)))
    · exact .inl (.inr (.inr (.inr (.inl h1))))
    · exact .inl (.inr (.inr (.inr (.inr (.inl h1)))))
    · exact .inl (.inr (.inr (.inr (.inr (.inr (.inl h1))))))
    · exact .inl (.inr (.inr (.inr (.inr (.inr (.inr h1))))))
end Go.Proofs.YtjefgmeejhakbabGreatDoor

/- Plain: the line by counting who is ahead. -/
namespace Go.Proofs.YtjefgmeejhakbabGreatDoor
def cntP (E : List (Int × Int)) (left : List Int) (x : Int) : Nat := E.countP (fun e => e.2 == x && left.contains e.1)
theorem cnt_free {E : List (Int × Int)} {left : List Int} {x : Int} : cntP E left x = 0 ↔ freeB E left x = true := by
  unfold cntP freeB
  rw [List.countP_eq_zero, List.all_eq_true]
  constructor
  · intro h e he
    have := h e he
    cases hh : (e.2 == x && left.contains e.1) with
    | true => exact absurd hh this
    | false => rfl
  · intro h e he hh
    have := h e he
    rw [hh] at this
    cases this
theorem countP_or {α : Type} (p q : α → Bool) : ∀ l : List α, (∀ x ∈ l, ¬ (p x = true ∧ q x = true)) → l.countP (fun x => p x || q x) = l.countP p + l.countP q
  | [], _ => rfl
  | a :: r, h => by
    have ih := countP_or p q r (fun x hx => h x (List.mem_cons_of_mem _ hx))
    have ha := h a (by simp)
    simp only [List.countP_cons]
    rw [ih]
    cases hp : p a <;> cases hq : q a <;> simp_all <;> omega
theorem count_pair {E : List (Int × Int)} (hE : E.Nodup) (x y : Int) : E.countP (fun e => e.2 == y && e.1 == x) = if (x, y) ∈ E then 1 else 0 := by
  have e : E.countP (fun e => e.2 == y && e.1 == x) = E.count (x, y) := by
    unfold List.count
    congr 1
    funext ⟨a, b⟩
    show (b == y && a == x) = ((a, b) == (x, y))
    rw [Bool.eq_iff_iff]
    simp only [Bool.and_eq_true, beq_iff_eq, Prod.mk.injEq]
    exact ⟨fun h => ⟨h.2, h.1⟩, fun h => ⟨h.2, h.1⟩⟩
  rw [e, hE.count]
theorem cnt_out {E : List (Int × Int)} (hE : E.Nodup) {left : List Int} {x : Int} (hx : x ∈ left) (y : Int) : cntP E left y = cntP E (left.filter (fun z => z != x)) y + if (x, y) ∈ E then 1 else 0 := by
  rw [← count_pair hE x y]
  unfold cntP
  rw [← countP_or]
  · congr 1
    funext ⟨a, b⟩
    show (b == y && left.contains a) = (b == y && (left.filter (fun z => z != x)).contains a || b == y && a == x)
    rw [Bool.eq_iff_iff]
    simp only [Bool.and_eq_true, Bool.or_eq_true, beq_iff_eq, List.contains_iff_mem, List.mem_filter, bne_iff_ne, ne_eq]
    constructor
    · rintro ⟨h1, h2⟩
      by_cases e : a = x
      · exact .inr ⟨h1, e⟩
      · exact .inl ⟨h1, h2, e⟩
    · rintro (⟨h1, h2, _⟩ | ⟨h1, rfl⟩)
      · exact ⟨h1, h2⟩
      · exact ⟨h1, hx⟩
  · rintro ⟨a, b⟩ _ ⟨h1, h2⟩
    simp only [Bool.and_eq_true, beq_iff_eq, List.contains_iff_mem, List.mem_filter, bne_iff_ne, ne_eq] at h1 h2
    exact h1.2.2 h2.2
structure KS (E : List (Int × Int)) (left : List Int) (M : Int → Option Int) (q : List Int) : Prop where
  m : ∀ y, M y = if y ∈ left then some (cntP E left y : Int) else none
  mq : ∀ y, y ∈ q ↔ y ∈ left ∧ freeB E left y = true
  nq : q.Nodup
  nl : left.Nodup
  up : ∀ a b, (a, b) ∈ E → a ∈ left → b ∈ left
structure KI (E : List (Int × Int)) (left : List Int) (x : Int) (rem : List (Int × Int)) (M : Int → Option Int) (q : List Int) : Prop where
  m : ∀ y, M y = if y ∈ left then some ((cntP E left y : Int) + if (x, y) ∈ rem then 1 else 0) else none
  mq : ∀ y, y ∈ q ↔ y ∈ left ∧ freeB E left y = true ∧ (x, y) ∉ rem
  nq : q.Nodup
  nl : left.Nodup
  up : ∀ a b, (a, b) ∈ E → a ∈ left → b ∈ left
  nr : rem.Nodup
  mr : ∀ e ∈ rem, e.1 = x ∧ e ∈ E ∧ e.2 ∈ left
theorem KS.least {E : List (Int × Int)} {left : List Int} {M : Int → Option Int} {q : List Int} (h : KS E left M q) {x : Int} (hx : x ∈ q) (hl : ∀ y ∈ q, x ≤ y) : leastP (left.filter (freeB E left)) = some x :=
  least_of (List.mem_filter.2 ((h.mq x).1 hx)) (fun y hy => hl y ((h.mq y).2 (List.mem_filter.1 hy)))
theorem KS.stuck {E : List (Int × Int)} {left : List Int} {M : Int → Option Int} (h : KS E left M []) : leastP (left.filter (freeB E left)) = none := by
  rw [leastP_none, List.filter_eq_nil_iff]
  intro y hy hf
  have := (h.mq y).2 ⟨hy, hf⟩
  simp at this
theorem KS.take {E : List (Int × Int)} (hE : E.Nodup) (hne : ∀ a b, (a, b) ∈ E → a ≠ b) {left : List Int} {M : Int → Option Int} {q q' : List Int} (h : KS E left M q) {x : Int} (hq : q.Perm (x :: q')) {M' : Int → Option Int} (hM : ∀ y, M' y = if y = x then none else M y) :
    KI E (left.filter (fun z => z != x)) x (E.filter (fun e => e.1 == x)) M' q' := by
  have hxq : x ∈ q := hq.mem_iff.2 (by simp)
  obtain ⟨hxl, hxf⟩ := (h.mq x).1 hxq
  have hx0 : ∀ a, (a, x) ∈ E → a ∉ left := fun a ha hal => by
    have := List.all_eq_true.1 hxf (a, x) ha
    simp [hal] at this
  have hmem : ∀ y, (x, y) ∈ E.filter (fun e => e.1 == x) ↔ (x, y) ∈ E := fun y => by simp [List.mem_filter]
  have hml : ∀ y, y ∈ left.filter (fun z => z != x) ↔ y ∈ left ∧ y ≠ x := fun y => by simp [List.mem_filter]
  have hnq := hq.nodup_iff.1 h.nq
  refine ⟨fun y => ?_, fun y => ?_, (List.nodup_cons.1 hnq).2, h.nl.sublist List.filter_sublist, fun a b hab ha => ?_, hE.sublist List.filter_sublist, fun e he => ?_⟩
  · rw [hM y]
    by_cases e : y = x
    · rw [if_pos e, if_neg (fun hh => ((hml y).1 hh).2 e)]
    · rw [if_neg e, h.m y]
      by_cases hy : y ∈ left
      · rw [if_pos hy, if_pos ((hml y).2 ⟨hy, e⟩), cnt_out hE hxl y]
        congr 1
        by_cases hp : (x, y) ∈ E
        · rw [if_pos hp, if_pos ((hmem y).2 hp)]; simp
        · rw [if_neg hp, if_neg (fun hh => hp ((hmem y).1 hh))]; simp
      · rw [if_neg hy, if_neg (fun hh => hy ((hml y).1 hh).1)]
  · have h1 : y ∈ q' ↔ y ∈ q ∧ y ≠ x := by
      rw [hq.mem_iff, List.mem_cons]
      constructor
      · intro hy
        exact ⟨.inr hy, fun e => (List.nodup_cons.1 hnq).1 (e ▸ hy)⟩
      · rintro ⟨h1 | h1, h2⟩
        · exact (h2 h1).elim
        · exact h1
    rw [h1, h.mq y, hml, hmem, ← cnt_free, ← cnt_free, cnt_out hE hxl y]
    by_cases hp : (x, y) ∈ E
    · simp [hp]
    · simp only [hp, if_false, Nat.add_zero, not_false_eq_true, and_true]
      constructor
      · rintro ⟨⟨a, b⟩, c⟩; exact ⟨⟨a, c⟩, b⟩
      · rintro ⟨⟨a, c⟩, b⟩; exact ⟨⟨a, b⟩, c⟩
  · obtain ⟨ha1, ha2⟩ := (hml a).1 ha
    exact (hml b).2 ⟨h.up a b hab ha1, fun e => hx0 a (e ▸ hab) ha1⟩
  · obtain ⟨h1, h2⟩ := List.mem_filter.1 he
    obtain ⟨a, b⟩ := e
    simp only [beq_iff_eq] at h2
    subst h2
    exact ⟨rfl, h1, (hml b).2 ⟨h.up a b h1 hxl, fun e => hne a b h1 e.symm⟩⟩
theorem KI.done {E : List (Int × Int)} {left : List Int} {x : Int} {M : Int → Option Int} {q : List Int} (h : KI E left x [] M q) : KS E left M q :=
  ⟨fun y => by rw [h.m y]; simp, fun y => by rw [h.mq y]; simp, h.nq, h.nl, h.up⟩
theorem KI.at {E : List (Int × Int)} {left : List Int} {x v : Int} {rem : List (Int × Int)} {M : Int → Option Int} {q : List Int} (h : KI E left x ((x, v) :: rem) M q) : M v = some ((cntP E left v : Int) + 1) := by
  rw [h.m v, if_pos (h.mr (x, v) (by simp)).2.2]
  simp
theorem KI.step {E : List (Int × Int)} {left : List Int} {x v : Int} {rem : List (Int × Int)} {M M' : Int → Option Int} {q q' : List Int} (h : KI E left x ((x, v) :: rem) M q) (hM : ∀ y, M' y = if y = v then some (cntP E left v : Int) else M y)
    (hq : if cntP E left v = 0 then q'.Perm (v :: q) else q' = q) : KI E left x rem M' q' := by
  obtain ⟨_, hvE, hvl⟩ := h.mr (x, v) (by simp)
  obtain ⟨hn1, hn2⟩ := List.nodup_cons.1 h.nr
  have hvq : v ∉ q := fun hh => ((h.mq v).1 hh).2.2 (by simp)
  refine ⟨fun y => ?_, fun y => ?_, ?_, h.nl, h.up, hn2, fun e he => h.mr e (List.mem_cons_of_mem _ he)⟩
  · rw [hM y]
    by_cases e : y = v
    · subst e; rw [if_pos rfl, if_pos hvl, if_neg hn1]; simp
    · rw [if_neg e, h.m y]
      simp [e]
  · by_cases e : y = v
    · subst e
      by_cases hc : cntP E left y = 0
      · rw [if_pos hc] at hq
        rw [hq.mem_iff]
        simp [hvl, cnt_free.1 hc, hn1]
      · rw [if_neg hc] at hq
        subst hq
        have : freeB E left y ≠ true := fun hh => hc (cnt_free.2 hh)
        simp [this, hvq]
    · have h1 : y ∈ q' ↔ y ∈ q := by
        by_cases hc : cntP E left v = 0
        · rw [if_pos hc] at hq
          rw [hq.mem_iff]; simp [e]
        · rw [if_neg hc] at hq
          rw [hq]
      rw [h1, h.mq y]
      simp [e]
  · by_cases hc : cntP E left v = 0
    · rw [if_pos hc] at hq
      exact hq.nodup_iff.2 (List.nodup_cons.2 ⟨hvq, h.nq⟩)
    · rw [if_neg hc] at hq
      rw [hq]; exact h.nq
def onceP : List Int → List Int
  | [] => []
  | a :: r => if a ∈ onceP r then onceP r else a :: onceP r
theorem mem_once {x : Int} : ∀ l : List Int, x ∈ onceP l ↔ x ∈ l
  | [] => by simp [onceP]
  | a :: r => by
    rw [onceP]
    by_cases e : a ∈ onceP r
    · rw [if_pos e, mem_once r, List.mem_cons]
      constructor
      · exact .inr
      · rintro (rfl | h)
        · exact (mem_once r).1 e
        · exact h
    · rw [if_neg e, List.mem_cons, List.mem_cons, mem_once r]
theorem nodup_once : ∀ l : List Int, (onceP l).Nodup
  | [] => by simp [onceP]
  | a :: r => by
    rw [onceP]
    by_cases e : a ∈ onceP r
    · rw [if_pos e]; exact nodup_once r
    · rw [if_neg e]; exact List.nodup_cons.2 ⟨e, nodup_once r⟩
theorem once_length : ∀ l : List Int, (onceP l).length ≤ l.length
  | [] => Nat.le_refl _
  | a :: r => by
    have := once_length r
    rw [onceP]
    split <;> simp <;> omega
def txsP (l : List Opp) : List Int := onceP (l.map (fun o => o.1))
theorem mem_txs {l : List Opp} {x : Int} : x ∈ txsP l ↔ ∃ o ∈ l, o.1 = x := by
  unfold txsP
  rw [mem_once, List.mem_map]
theorem nodup_txs (l : List Opp) : (txsP l).Nodup := nodup_once _
theorem txs_length (l : List Opp) : (txsP l).length ≤ l.length := by have := once_length (l.map (fun o => o.1)); simpa [txsP] using this
theorem lineP_step {E : List (Int × Int)} {n : Nat} {left : List Int} {x : Int} (hx : x ∈ left) (h : leastP (left.filter (freeB E left)) = some x) : lineP E (n + 1) left = (lineP E n (left.filter (fun y => y != x))).map (fun r => x :: r) := by
  rw [lineP, if_neg (by intro e; rw [e] at hx; simp at hx), h]
theorem lineP_nil (E : List (Int × Int)) (n : Nat) : lineP E n [] = some [] := by
  cases n with
  | zero => rfl
  | succ n => rw [lineP, if_pos rfl]
theorem lineP_none {E : List (Int × Int)} {n : Nat} {left : List Int} (hn : left ≠ []) (h : leastP (left.filter (freeB E left)) = none) : lineP E (n + 1) left = none := by
  rw [lineP, if_neg hn, h]
end Go.Proofs.YtjefgmeejhakbabGreatDoor

/- Plain: the twos as a set, in order, each once. -/
namespace Go.Proofs.YtjefgmeejhakbabGreatDoor
def Two (l : List Opp) (a b : Int) : Prop := (∃ o ∈ l, (a, b) ∈ conP (writersP l o.2.1)) ∨ ∃ o ∈ l, o.2.2.1 = false ∧ ∃ p, readP (writersP l o.2.1) o = some p ∧ (a, b) ∈ p
def IsEdges (l : List Opp) (d : List (Int × Int)) : Prop := d.Pairwise lt2 ∧ ∀ a b, (a, b) ∈ d ↔ a ≠ b ∧ Two l a b
def badRead (l : List Opp) (o : Opp) : Bool := !o.2.2.1 && (readP (writersP l o.2.1) o).isNone
theorem edges_one {l : List Opp} {d e : List (Int × Int)} (h : IsEdges l d) (k : IsEdges l e) : d = e :=
  rising_ext d e h.1 k.1 (fun ⟨a, b⟩ => by rw [h.2 a b, k.2 a b])
theorem edges_nodup {l : List Opp} {d : List (Int × Int)} (h : IsEdges l d) : d.Nodup := List.Pairwise.imp (fun {a b} hab (e : a = b) => by subst e; exact lt2_irrefl a hab) h.1
theorem edges_ne {l : List Opp} {d : List (Int × Int)} (h : IsEdges l d) (a b : Int) (hab : (a, b) ∈ d) : a ≠ b := ((h.2 a b).1 hab).1
theorem readP_tx {l : List Opp} {o : Opp} (ho : o ∈ l) (hr : o.2.2.1 = false) {p : List (Int × Int)} (h : readP (writersP l o.2.1) o = some p) {a b : Int} (hab : (a, b) ∈ p) : (∃ o ∈ l, o.1 = a) ∧ ∃ o ∈ l, o.1 = b := by
  refine opPairs_tx (p := conP (writersP l o.2.1) ++ p) ho ?_ (List.mem_append.2 (.inr hab))
  unfold opPairs
  rw [hr, h]
  rfl
theorem two_tx {l : List Opp} {a b : Int} (h : Two l a b) : a ∈ txsP l ∧ b ∈ txsP l := by
  rcases h with ⟨o, ho, h⟩ | ⟨o, ho, hr, p, hp, h⟩
  · have := conP_mem _ a b h
    exact ⟨mem_txs.2 (writers_tx this.1), mem_txs.2 (writers_tx this.2)⟩
  · have := readP_tx ho hr hp h
    exact ⟨mem_txs.2 this.1, mem_txs.2 this.2⟩
theorem edges_tx {l : List Opp} {d : List (Int × Int)} (h : IsEdges l d) {a b : Int} (hab : (a, b) ∈ d) : a ∈ txsP l ∧ b ∈ txsP l := two_tx ((h.2 a b).1 hab).2
theorem foldl_key (key : Int) : ∀ (l : List Opp) (w : List Int) (x : Int), x ∈ l.foldl (wStep key) w → x ∈ w ∨ ∃ o ∈ l, o.2.1 = key
  | [], w, x, h => .inl h
  | o :: r, w, x, h => by
    rcases foldl_key key r (wStep key w o) x h with h | ⟨o', ho, e⟩
    · unfold wStep at h
      split at h
      · rename_i hc; exact .inr ⟨o, by simp, hc.2.1⟩
      · exact .inl h
    · exact .inr ⟨o', by simp [ho], e⟩
theorem writers_key {l : List Opp} {key x : Int} (h : x ∈ writersP l key) : ∃ o ∈ l, o.2.1 = key := (foldl_key key l [] x h).resolve_left (by simp)
def readsP (l : List Opp) (o : Opp) : List (Int × Int) := if o.2.2.1 = true then [] else (readP (writersP l o.2.1) o).getD []
def neP (e : Int × Int) : Bool := e.1 != e.2
def notesP (l : List Opp) : List (Int × Int) := ((List.range 10).flatMap (fun k => (conP (writersP l (k : Nat))).filter neP)) ++ l.flatMap (fun o => (readsP l o).filter neP)
theorem mem_notes {l : List Opp} (hl : ∀ o ∈ l, opBad o = false) (a b : Int) : (a, b) ∈ notesP l ↔ a ≠ b ∧ Two l a b := by
  unfold notesP Two
  simp only [List.mem_append, List.mem_flatMap, List.mem_filter, List.mem_range, neP, bne_iff_ne, ne_eq]
  constructor
  · rintro (⟨k, hk, h1, h2⟩ | ⟨o, ho, h1, h2⟩)
    · obtain ⟨o, ho, e⟩ := writers_key (conP_mem _ a b h1).1
      exact ⟨h2, .inl ⟨o, ho, by rw [e]; exact h1⟩⟩
    · refine ⟨h2, .inr ⟨o, ho, ?_⟩⟩
      unfold readsP at h1
      by_cases hw : o.2.2.1 = true
      · rw [if_pos hw] at h1; simp at h1
      · rw [if_neg hw] at h1
        refine ⟨by simpa using hw, ?_⟩
        cases hr : readP (writersP l o.2.1) o with
        | none => rw [hr] at h1; simp at h1
        | some p => rw [hr] at h1; exact ⟨p, rfl, h1⟩
  · rintro ⟨h2, ⟨o, ho, h1⟩ | ⟨o, ho, hw, p, hp, h1⟩⟩
    · have hb := hl o ho
      unfold opBad at hb
      simp only [decide_eq_false_iff_not, not_or, Decidable.not_not] at hb
      exact .inl ⟨o.2.1.toNat, by omega, by rw [show ((o.2.1.toNat : Nat) : Int) = o.2.1 by omega]; exact h1, h2⟩
    · refine .inr ⟨o, ho, ?_, h2⟩
      unfold readsP
      rw [if_neg (by simp [hw]), hp]
      exact h1
def compP : List (Int × Int) → List (Int × Int)
  | a :: b :: r => if a = b then compP (b :: r) else a :: compP (b :: r)
  | l => l
def le2 (a b : Int × Int) : Prop := ¬ lt2 b a
theorem le2_iff (a b : Int × Int) : le2 a b ↔ lt2 a b ∨ a = b := by
  unfold le2
  rcases lt2_total a b with h | h | h
  · exact ⟨fun _ => .inl h, fun _ k => lt2_irrefl a (lt2_trans h k)⟩
  · exact ⟨fun _ => .inr h, fun _ k => by subst h; exact lt2_irrefl a k⟩
  · exact ⟨fun k => absurd h k, fun k => by rcases k with k | k
                                            · exact absurd (lt2_trans h k) (lt2_irrefl b)
                                            · subst k; exact lt2_irrefl a⟩
theorem mem_comp (x : Int × Int) : ∀ l, x ∈ compP l ↔ x ∈ l
  | [] => by simp [compP]
  | [a] => by simp [compP]
  | a :: b :: r => by
    have ih := mem_comp x (b :: r)
    rw [compP]
    by_cases e : a = b
    · rw [if_pos e, ih, e]; simp
    · rw [if_neg e, List.mem_cons, ih]; simp
theorem comp_rising : ∀ l, l.Pairwise le2 → (compP l).Pairwise lt2
  | [], _ => by simp [compP]
  | [a], _ => by simp [compP]
  | a :: b :: r, h => by
    obtain ⟨h1, h2⟩ := List.pairwise_cons.1 h
    have ih := comp_rising (b :: r) h2
    rw [compP]
    by_cases e : a = b
    · rw [if_pos e]; exact ih
    · rw [if_neg e, List.pairwise_cons]
      refine ⟨fun x hx => ?_, ih⟩
      have hx := (mem_comp x (b :: r)).1 hx
      have hab : lt2 a b := ((le2_iff a b).1 (h1 b (by simp))).resolve_right e
      rcases List.mem_cons.1 hx with rfl | hx
      · exact hab
      · rcases (le2_iff b x).1 ((List.pairwise_cons.1 h2).1 x hx) with k | k
        · exact lt2_trans hab k
        · subst k; exact hab
theorem comp_edges {l : List Opp} (hl : ∀ o ∈ l, opBad o = false) {m : List (Int × Int)} (hm : m.Perm (notesP l)) (hs : m.Pairwise le2) : IsEdges l (compP m) :=
  ⟨comp_rising m hs, fun a b => by rw [mem_comp, hm.mem_iff, mem_notes hl]⟩
theorem conP_length : ∀ w : List Int, (conP w).length ≤ w.length
  | [] => Nat.le_refl _
  | [_] => Nat.zero_le _
  | a :: b :: r => by have := conP_length (b :: r); simp [conP] at *; omega
theorem foldl_len (key : Int) : ∀ (l : List Opp) (w : List Int), (l.foldl (wStep key) w).length ≤ w.length + l.length
  | [], w => Nat.le_refl _
  | o :: r, w => by
    have := foldl_len key r (wStep key w o)
    have h2 : (wStep key w o).length ≤ w.length + 1 := by unfold wStep; split <;> simp
    simp only [List.foldl_cons, List.length_cons]
    omega
theorem writers_len (l : List Opp) (key : Int) : (writersP l key).length ≤ l.length := by have := foldl_len key l []; simpa [writersP] using this
theorem readP_len {w : List Int} {o : Opp} {p : List (Int × Int)} (h : readP w o = some p) : p.length ≤ 2 := by
  unfold readP at h
  split at h
  · cases h; cases w[0]? <;> simp
  · cases hf : firstAt o.2.2.2 w with
    | none => rw [hf] at h; simp at h
    | some i => rw [hf] at h; simp only [Option.map_some, Option.some.injEq] at h; subst h; cases w[i + 1]? <;> simp
theorem readsP_len (l : List Opp) (o : Opp) : (readsP l o).length ≤ 2 := by
  unfold readsP
  split
  · simp
  · cases hr : readP (writersP l o.2.1) o with
    | none => simp
    | some p => exact readP_len hr
theorem flat_len {α β : Type} (f : α → List β) (c : Nat) : ∀ l : List α, (∀ x ∈ l, (f x).length ≤ c) → (l.flatMap f).length ≤ c * l.length
  | [], _ => by simp
  | a :: r, h => by
    have := flat_len f c r (fun x hx => h x (List.mem_cons_of_mem _ hx))
    have := h a (by simp)
    simp only [List.flatMap_cons, List.length_append, List.length_cons, Nat.mul_add, Nat.mul_one]
    omega
theorem notes_len (l : List Opp) : (notesP l).length ≤ 12 * l.length := by
  unfold notesP
  rw [List.length_append]
  have h1 := flat_len (fun k => (conP (writersP l ((k : Nat) : Int))).filter neP) l.length (List.range 10) (fun k _ => Nat.le_trans (List.length_filter_le _ _) (Nat.le_trans (conP_length _) (writers_len l _)))
  have h2 := flat_len (fun o => (readsP l o).filter neP) 2 l (fun o _ => Nat.le_trans (List.length_filter_le _ _) (readsP_len l o))
  rw [List.length_range] at h1
  omega
theorem firstAt_append (x tx : Int) : ∀ w : List Int, firstAt x (w ++ [tx]) = match firstAt x w with
    | some i => some i
    | none => if tx = x then some w.length else none
  | [] => by simp [firstAt]
  | a :: r => by
    have ih := firstAt_append x tx r
    rw [List.cons_append, firstAt, firstAt]
    by_cases e : a = x
    · simp [e]
    · rw [if_neg e, if_neg e, ih]
      cases firstAt x r with
      | some i => rfl
      | none => by_cases e2 : tx = x <;> simp [e2]
theorem firstAt_lt {x : Int} : ∀ {w : List Int} {i : Nat}, firstAt x w = some i → i < w.length
  | [], i, h => by simp [firstAt] at h
  | a :: r, i, h => by
    rw [firstAt] at h
    by_cases e : a = x
    · rw [if_pos e] at h; cases h; simp
    · rw [if_neg e] at h
      cases hf : firstAt x r with
      | none => rw [hf] at h; simp at h
      | some j =>
        rw [hf] at h
        have := firstAt_lt hf
        simp at h
        simp; omega
end Go.Proofs.YtjefgmeejhakbabGreatDoor
