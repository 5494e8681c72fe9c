/- engine.aheadOfWriters. -/
import Derived.Test.YtjefgmeejhakbaaGreatDoorEnEnd2Q
namespace Go.Proofs.YtjefgmeejhakbaaGreatDoor
open Go.RowKit
variable {w w' : World} {L : EnL} {E : Eng}
structure Fits (E : Eng) : Prop where
  len : ∀ l ∈ E.ks, l.length ≤ 100000
  tim : ∀ l ∈ E.ks, ∀ p ∈ l, I64 p.1
theorem strictOf_lt {n : Int} {j : Nat} (h : strictOf E n = some j) : 1 ≤ n ∧ n ≤ E.txs.length ∧ n = (j : Int) + 1 ∧ ∃ t, E.txs[j]? = some t ∧ t.level = 2 := by
  unfold strictOf at h
  split at h
  · rename_i hc
    split at h
    · rename_i t ht
      split at h
      · rename_i h2
        injection h with h
        subst h
        exact ⟨hc.1, hc.2, by omega, t, ht, h2⟩
      · cases h
    · cases h
  · cases h
theorem strictOf_none {n : Int} (h : strictOf E n = none) : (n < 1 ∨ (E.txs.length : Int) < n) ∨ ∃ (j : Nat) (t : Tx), n = (j : Int) + 1 ∧ E.txs[j]? = some t ∧ t.level ≠ 2 := by
  unfold strictOf at h
  split at h
  · rename_i hc
    obtain ⟨t, ht⟩ : ∃ t, E.txs[(n - 1).toNat]? = some t := ⟨E.txs[(n - 1).toNat]'(by omega), List.getElem?_eq_getElem _⟩
    rw [ht] at h
    simp only at h
    split at h
    · cases h
    · rename_i h2
      exact .inr ⟨(n - 1).toNat, t, by omega, ht, h2⟩
  · rename_i hc
    exact .inl (by omega)
def bareTx (t : Tx) : Tx := { t with ahead := fun _ => false, behind := fun _ => false }
theorem putAhead_bare (E : Eng) (i j : Nat) : (putAheadP E i j).2.txs.map bareTx = E.txs.map bareTx := by
  unfold putAheadP
  split
  · rename_i t u ht hu
    simp only [Eng.setTx, List.map_set]
    refine List.ext_getElem? (fun x => ?_)
    rw [List.getElem?_set, List.getElem?_set]
    have hi := (List.getElem?_eq_some_iff.1 ht).1
    have hj := (List.getElem?_eq_some_iff.1 hu).1
    by_cases h1 : j = x
    · subst h1
      rw [if_pos rfl, if_pos (by simpa using hj), List.getElem?_map, hu]
      rfl
    · rw [if_neg h1]
      by_cases h2 : i = x
      · subst h2
        rw [if_pos rfl, if_pos (by simpa using hi), List.getElem?_map, ht]
        rfl
      · rw [if_neg h2]
  · rfl
theorem bare_len {A B : List Tx} (h : A.map bareTx = B.map bareTx) : A.length = B.length := by
  have := congrArg List.length h
  simpa using this
theorem bare_get {A B : List Tx} (h : A.map bareTx = B.map bareTx) {x : Nat} {t : Tx} (ht : B[x]? = some t) : ∃ t', A[x]? = some t' ∧ bareTx t' = bareTx t := by
  have h1 := congrArg (fun l => l[x]?) h
  simp only [List.getElem?_map, ht, Option.map_some] at h1
  cases ha : A[x]? with
  | none => rw [ha] at h1; cases h1
  | some t' => rw [ha] at h1; simp at h1; exact ⟨t', rfl, h1⟩
noncomputable def aowFrom (i : Nat) (key : Int) (ts : List Int) (E : Eng) : Bool × Eng := match aheadTimes i ts E with
  | (true, E') => (true, aheadEach i (thoseP E' (fun _ u => writesB key u)) E')
  | (false, E') => (false, E')
theorem getD_map (o : Option Int) : (o.map (Value.int .i64)).getD (.int .i64 0) = .int .i64 (o.getD 0) := by cases o <;> rfl
set_option maxRecDepth 100000 in
set_option maxHeartbeats 4000000 in
theorem aow_any (h : EnAt w L E) {i : Nat} {l : TxL} {t : Tx} (hl : L.txs[i]? = some l) (ht : E.txs[i]? = some t) {key : Int} (hk : 0 ≤ key ∧ key < 10) (hf : Fits E) (hv0 : t.vals key = none) (hne : ∀ a, E.wr a ≠ some ((i : Int) + 1)) :
    Calls Tryz.prog 114 #[.pointer (some ⟨L.s, 0, none⟩), .pointer (some ⟨l.b, 0, none⟩), .int .i64 key] w fun e w' => e = .returned (.bool (aowP E i key).1) ∧ EnAt w' L (aowP E i key).2 ∧ KeptO L.own L.own w w' := by
  obtain ⟨k, rfl⟩ : ∃ k : Nat, key = k := ⟨key.toNat, by omega⟩
  have hk2 : k < E.ks.length := by have := h.sto.lk; omega
  obtain ⟨ll, hll⟩ : ∃ ll, E.ks[k]? = some ll := ⟨E.ks[k], List.getElem?_eq_getElem hk2⟩
  have hln := hf.len ll (List.mem_of_getElem? hll)
  have hA := h.txs i l t hl ht
  have c2 := hA.c2
  have hlt0 := hA.lt
  obtain ⟨w0, hw0⟩ : ∃ w0, w.alloc (.cells #[.int .i64 (k : Int)] 3) = w0 := ⟨_, rfl⟩
  have hB0 : Below w.heap.size w w0 := by rw [← hw0]; exact (Below.refl _ w).alloc (Nat.le_refl _) _
  have hck : w0.cell? ⟨w.heap.size, 0, none⟩ = some (.int .i64 (k : Int)) := by
    rw [← hw0]
    exact (cell_of_row _ w.heap.size 0 _ _ (0, 0) (heap_alloc_new w _)).trans rfl
  have hsz : w0.heap.size = w.heap.size + 1 := by rw [← hw0]; simp
  have hB1 : Below w.heap.size w w0.drew := hB0.drew
  have HN := hid (newer_any _ _ k _ t.start _ _ ll w0.drew (h.below hB1).sto hll (by omega))
  have hR : aowP E i (k : Int) = aowFrom i (k : Int) ((ll.drop (lat ll t.start + 1).toNat).map (·.1)) E := by
    unfold aowP
    rw [ht]
    simp only
    rw [newer_len E k _ ll hll]
    rfl
  have hti : ∀ a ∈ (ll.drop (lat ll t.start + 1).toNat).map (·.1), I64 a := fun a ha => by
    obtain ⟨p, hp, rfl⟩ := List.mem_map.1 ha
    exact hf.tim ll (List.mem_of_getElem? hll) p (List.mem_of_mem_drop hp)
  have hdl : (ll.drop (lat ll t.start + 1).toNat).length ≤ ll.length := by simp
  have hdl2 : ((ll.drop (lat ll t.start + 1).toNat).map (·.1)).length = (ll.drop (lat ll t.start + 1).toNat).length := by simp
  have htv : timesV (ll.drop (lat ll t.start + 1).toNat) = ((ll.drop (lat ll t.start + 1).toNat).map (·.1)).map (Value.int .i64) := by rw [List.map_map]; rfl
  rw [htv, ← hdl2] at HN
  rw [← hdl2] at hdl
  obtain ⟨ts, hts⟩ : ∃ ts, (ll.drop (lat ll t.start + 1).toNat).map (·.1) = ts := ⟨_, rfl⟩
  obtain ⟨st, hst⟩ : ∃ st, t.start = st := ⟨_, rfl⟩
  rw [hts] at HN hR hti hdl
  rw [hst] at HN c2
  rw [hR]
  obtain ⟨R, hRR⟩ : ∃ R, aowFrom i (k : Int) ts E = R := ⟨_, rfl⟩
  rw [hRR]
  have HRR := hid hRR
  have hlen := h.len
  have hle := h.le
  have hs0 := h.sto.lt
  have HH := hid h
  have HL := hid hl
  have HT := hid ht
  have HNE := hid hne
  have c2' := (hB0.cell (p := ⟨l.b, 2, none⟩) hlt0).trans c2
  have HTI := hid hti
  have HV0 := hid hv0
  have hk0 : (0 : Int) ≤ (k : Int) := by omega
  have hk10 : k < 10 := by omega
  clear h hl ht hA hf hne hk hk2 hll hR hti hdl2 htv hts hst hv0 hRR
  go_enter Tryz.func114, Tryz.ntmps114
  go_wp2
  go_region_held3 (fun W => W.cell? ⟨w.heap.size, 0, none⟩ = some (.int .i64 (k : Int)) ∧ W.cell? ⟨l.b, 2, none⟩ = some (.int .i64 st))
    (first | go_keep | exact ⟨y1, y2⟩)
    (first | (go_at_call 160
              refine HN.out.mono ?_
              rintro e w1 ⟨tv, rfl, ho, hB2⟩
              have y1 : w1.cell? ⟨w.heap.size, 0, none⟩ = some (.int .i64 (k : Int)) := (hB2.cell (p := ⟨w.heap.size, 0, none⟩) (by show w.heap.size < w0.heap.size; omega)).trans hck
              have y2 : w1.cell? ⟨l.b, 2, none⟩ = some (.int .i64 st) := (hB2.cell (p := ⟨l.b, 2, none⟩) (by show l.b < w0.heap.size; omega)).trans ((hB0.cell (p := ⟨l.b, 2, none⟩) hlt0).trans c2)
              obtain ⟨ad, cap, rfl⟩ := row_form ho
              have HO := hid ho
              have HB := hid (show Below w.heap.size w w1 from hB1.trans (hB2.mono hB1.size))
              have hsw := hB2.size
              clear ho hB2))
  have hadg : Hid (∀ j a, ts[j]? = some a → ∃ g, ad = some ⟨g, 0, none⟩ ∧ w0.heap.size ≤ g ∧ g < w1.heap.size ∧ w1.cell? ⟨g, j, none⟩ = some (.int .i64 a)) := fun j a ha => by
    rcases row_slice HO.out with ⟨e1, e2⟩ | ⟨g, cap', e1, hg, hc⟩
    · have := (List.getElem?_eq_some_iff.1 ha).1; omega
    · have hb := (HO.out.lt g (by rw [e1]; rfl)).1
      injection e1 with e1
      exact ⟨g, e1, hb, hg, hc j _ (by rw [List.getElem?_map, ha]; rfl)⟩
  have hsw0 : w0.heap.size ≤ w1.heap.size := hsw
  go_wp2
  go_loopw [30] (fun iv wr => ∃ (j : Nat) (Ej : Eng), j ≤ ts.length ∧ iv = .int .i64 j ∧ EnAt wr L Ej ∧ aowFrom i (k : Int) (ts.drop j) Ej = R ∧ Ej.wr = E.wr ∧ Ej.txs.map bareTx = E.txs.map bareTx ∧ KeptO L.own L.own w1 wr) (fun iv _ => ts.length - (intOf iv).toNat)
  case atStart => exact ⟨0, E, by omega, rfl, HH.out.below HB.out, by simpa using HRR.out, rfl, rfl, KeptO.refl _ _⟩
  case round =>
    obtain ⟨j, Ej, hj, rfl, hE, hrest, hwr, hbare, hK⟩ := hrel
    have hEl := bare_len hbare
    by_cases hlt : j < ts.length
    · obtain ⟨a, ha⟩ : ∃ a, ts[j]? = some a := ⟨ts[j], List.getElem?_eq_getElem hlt⟩
      obtain ⟨g, rfl, hg0, hg1, hgc⟩ := hadg.out j a ha
      have hia := HTI.out a (List.mem_of_getElem? ha)
      have hng : ¬ L.own g := fun ho => by have := HH.out.own_lt ho; omega
      have hgc2 := (World.cell?_of_block (a := ⟨g, j, none⟩) (hK.block g hg1 hng)).trans hgc
      have c15 := hE.c15
      have hlk := hE.wr.look1 Tryz.underlying69 (zeroI wr) hia
      rw [getD_map, hwr] at hlk
      have hdrop : ts.drop j = a :: ts.drop (j + 1) := by
        rw [List.drop_eq_getElem_cons hlt]
        congr 1
        rw [List.getElem?_eq_getElem hlt] at ha
        injection ha
      rw [hdrop] at hrest
      have hj0 : (0 : Int) ≤ (j : Int) := by omega
      have hj1 : (j : Int) < (ts.length : Int) := by omega
      cases hso : strictOf Ej ((E.wr a).getD 0) with
      | none =>
        have hrest2 : aowFrom i (k : Int) (ts.drop (j + 1)) Ej = R := by
          unfold aowFrom at hrest ⊢
          simp only [aheadTimes] at hrest
          rw [hwr, hso] at hrest
          exact hrest
        have HR2 := hid hrest2
        rcases strictOf_none hso with hbad | ⟨x, tx, hn, htx, hlv⟩
        · have HF := hid (find_err hE hbad)
          have HE := hid (And.intro hE (And.intro hwr (And.intro hbare hK)))
          clear ha hgc hdrop hrest hrest2 hE hwr hbare hK hso hbad
          go_wp2_with fail
          refine HF.out.mono ?_
          rintro e w2 ⟨rfl, hw2⟩
          rw [hw2, show errV 7 = Value.iface 24 (.int .i64 7) from rfl]
          clear hw2 w2
          go_wp2
          go_roundw
          case rel => exact ⟨j + 1, Ej, by omega, by go_num, HE.out.1, HR2.out, HE.out.2.1, HE.out.2.2.1, HE.out.2.2.2⟩
          case measure => simp [intOf]; omega
        · obtain ⟨lx, hlx, hTx⟩ := hE.get htx
          have d1 := hTx.c1
          have g1 : (tx.level == 2) = false := by simpa using hlv
          obtain ⟨lv, hlv2⟩ : ∃ lv, tx.level = lv := ⟨_, rfl⟩
          rw [hlv2] at d1 g1
          rw [hn] at hlk
          have HF := hid (find_ok hE hlx)
          have HE := hid (And.intro hE (And.intro hwr (And.intro hbare hK)))
          clear ha hgc hdrop hrest hrest2 hE hwr hbare hK hso hn htx hlv hlx hTx hlv2
          go_wp2_with fail
          refine HF.out.mono ?_
          rintro e w2 ⟨rfl, hw2⟩
          rw [hw2]
          clear hw2 w2
          go_wp2
          go_roundw
          case rel => exact ⟨j + 1, Ej, by omega, by go_num, HE.out.1, HR2.out, HE.out.2.1, HE.out.2.2.1, HE.out.2.2.2⟩
          case measure => simp [intOf]; omega
      | some x =>
        obtain ⟨_, _, hn, tx, htx, hlv⟩ := strictOf_lt hso
        obtain ⟨lx, hlx, hTx⟩ := hE.get htx
        have d1 := hTx.c1
        rw [hlv] at d1
        have hix : i ≠ x := fun e => by
          subst e
          cases hwa : E.wr a with
          | none => rw [hwa] at hn; simp at hn; omega
          | some n => rw [hwa] at hn; simp at hn; exact HNE.out a (by rw [hwa, hn])
        rw [hn] at hlk
        have HF := hid (find_ok hE hlx)
        have HP := hid (putAheadE hE hix HL.out hlx)
        have hpr := putAhead_rest Ej i x
        have hpb := putAhead_bare Ej i x
        unfold aowFrom at hrest
        simp only [aheadTimes] at hrest
        rw [hwr, hso] at hrest
        simp only at hrest
        obtain ⟨rb, rE, hrp⟩ : ∃ rb rE, putAheadP Ej i x = (rb, rE) := ⟨_, _, rfl⟩
        rw [hrp] at HP hpr hpb hrest
        simp only at HP hpr hpb
        have HPR := hid (And.intro (hpr.2.2.2.1.trans hwr) (hpb.trans hbare))
        have HREST := hid hrest
        have HK := hid hK
        clear ha hgc hdrop hrest hE hwr hbare hK hso hn htx hlv hlx hTx hrp hpr hpb
        go_wp2_with fail
        refine HF.out.mono ?_
        rintro e w2 ⟨rfl, hw2⟩
        rw [hw2]
        clear hw2 w2
        go_wp2_with fail
        refine HP.out.mono ?_
        rintro e w3 ⟨rfl, hE3, hK3⟩
        have HF3 := hid (And.intro hE3 (HK.out.trans hK3))
        clear hE3 hK3 HP HF
        cases rb with
        | true =>
          go_wp2
          go_roundw
          case rel => exact ⟨j + 1, rE, by omega, by go_num, HF3.out.1, HREST.out, HPR.out.1, HPR.out.2, HF3.out.2⟩
          case measure => simp [intOf]; omega
        | false =>
          go_wp2
          go_ret
          have := HREST.out
          subst this
          exact ⟨rfl, HF3.out.1, (KeptO.of_below HB.out).trans HF3.out.2⟩
    · have hj2 : ts.drop j = [] := List.drop_of_length_le (by omega)
      rw [hj2] at hrest
      unfold aowFrom at hrest
      simp only [aheadTimes] at hrest
      have hnt : ¬ L.own w.heap.size := fun ho => by have := HH.out.own_lt ho; omega
      have hck2 : wr.cell? ⟨w.heap.size, 0, none⟩ = some (.int .i64 (k : Int)) := (World.cell?_of_block (a := ⟨w.heap.size, 0, none⟩) (hK.block w.heap.size (by omega) hnt)).trans y1
      have hwl : w.heap.size < wr.heap.size := by have := hK.size; omega
      have HC := hid (those_writes hE w.heap.size (fun _ u => writesB (k : Int) u) (fun W hW x m u hm hu => writesC_any ((hE.below hW).txs x m u hm hu) ((hW.cell (p := ⟨w.heap.size, 0, none⟩) hwl).trans hck2) (by unfold I64; omega)))
      have hjl : (thoseP Ej (fun _ u => writesB (k : Int) u)).length ≤ 200 := by
        have := thoseN_len Ej (fun _ u => writesB (k : Int) u) Ej.txs.length
        rw [thoseN_all] at this
        omega
      have HJ := hid (show ∀ x ∈ thoseP Ej (fun _ u => writesB (k : Int) u), x < E.txs.length ∧ i ≠ x from fun x hx => by
        obtain ⟨u, hu, hp⟩ := mem_thoseP hx
        refine ⟨by have := (List.getElem?_eq_some_iff.1 hu).1; omega, ?_⟩
        rintro rfl
        obtain ⟨t', ht', hb⟩ := bare_get hbare HT.out
        rw [hu] at ht'
        injection ht' with ht'
        subst ht'
        have hv : u.vals = t.vals := by have := congrArg Tx.vals hb; exact this
        unfold writesB at hp
        rw [hv, HV0.out] at hp
        simp at hp)
      obtain ⟨js, hjs⟩ : ∃ js, thoseP Ej (fun _ u => writesB (k : Int) u) = js := ⟨_, rfl⟩
      rw [hjs] at HC HJ hjl hrest
      have HREST := hid hrest
      have HE0 := hid hE
      have HK0 := hid hK
      have hEjl := hEl
      clear hrest hE hK hwr hbare hjs hj2 hck2
      go_wp2_with fail
      refine HC.out.mono ?_
      rintro e w2 ⟨v, rfl, ho, hB2⟩
      obtain ⟨ad2, cap2, rfl⟩ := row_form ho
      have HE2 := hid (HE0.out.below hB2)
      have HK2 := hid (HK0.out.trans (KeptO.of_below (o := L.own) hB2))
      have hadg2 : Hid (∀ j x, js[j]? = some x → ∃ g, ad2 = some ⟨g, 0, none⟩ ∧ ¬ L.own g ∧ g < w2.heap.size ∧ w2.cell? ⟨g, j, none⟩ = some (.pointer (some ⟨L.bs[x]?.getD 0, 0, none⟩))) := fun j x hx => by
        rcases row_slice ho with ⟨e1, e2⟩ | ⟨g, cap', e1, hg, hc⟩
        · have := (List.getElem?_eq_some_iff.1 hx).1; omega
        · have hb := (ho.lt g (by rw [e1]; rfl)).1
          injection e1 with e1
          exact ⟨g, e1, fun hown => by have := HE0.out.own_lt hown; omega, hg, hc j _ (show (L.ptrs js)[j]? = some (ptrV (L.bs[x]?.getD 0)) from by simp [EnL.ptrs, hx])⟩
      clear ho hB2 HC
      go_wp2
      go_loopw [66] (fun iv wx => ∃ (q : Nat) (Eq : Eng), q ≤ js.length ∧ iv = .int .i64 q ∧ EnAt wx L Eq ∧ aheadEach i (js.drop q) Eq = R.2 ∧ KeptO L.own L.own w2 wx) (fun iv _ => js.length - (intOf iv).toNat)
      case atStart => exact ⟨0, Ej, by omega, rfl, HE2.out, by rw [← HREST.out]; simp, KeptO.refl _ _⟩
      case round =>
        obtain ⟨q, Eq, hq, rfl, hEq, hrest, hKq⟩ := hrel
        by_cases hlt2 : q < js.length
        · obtain ⟨x, hx⟩ : ∃ x, js[q]? = some x := ⟨js[q], List.getElem?_eq_getElem hlt2⟩
          obtain ⟨g, rfl, hng, hg1, hgc⟩ := hadg2.out q x hx
          obtain ⟨hx1, hx2⟩ := HJ.out x (List.mem_of_getElem? hx)
          obtain ⟨m, hm⟩ : ∃ m, L.txs[x]? = some m := ⟨L.txs[x]'(by omega), List.getElem?_eq_getElem _⟩
          rw [bs_get hm] at hgc
          have hgc2 := (World.cell?_of_block (a := ⟨g, q, none⟩) (hKq.block g hg1 hng)).trans hgc
          simp only [Option.getD_some] at hgc2
          have hq0 : (0 : Int) ≤ (q : Int) := by omega
          have hq1 : (q : Int) < (js.length : Int) := by omega
          have HP := hid (putAheadE hEq hx2 HL.out hm)
          have hdrop : js.drop q = x :: js.drop (q + 1) := by
            rw [List.drop_eq_getElem_cons hlt2]
            congr 1
            rw [List.getElem?_eq_getElem hlt2] at hx
            injection hx
          rw [hdrop] at hrest
          simp only [aheadEach] at hrest
          have HRE := hid hrest
          have HKQ := hid hKq
          clear hx hm hgc hdrop hrest hKq hEq
          go_wp2_with fail
          refine HP.out.mono ?_
          rintro e w3 ⟨rfl, hE3, hK3⟩
          have HF := hid (And.intro hE3 (HKQ.out.trans hK3))
          clear hE3 hK3 HP
          go_wp2
          go_roundw
          case rel => exact ⟨q + 1, _, by omega, by go_num, HF.out.1, HRE.out, HF.out.2⟩
          case measure => simp [intOf]; omega
        · have hq2 : js.drop q = [] := List.drop_of_length_le (by omega)
          rw [hq2] at hrest
          simp only [aheadEach] at hrest
          have hfin : R.1 = true := by rw [← HREST.out]
          have HF := hid (show EnAt wr L R.2 ∧ KeptO L.own L.own w wr from ⟨hrest ▸ hEq, (KeptO.of_below HB.out).trans (HK2.out.trans hKq)⟩)
          clear hEq hKq hrest
          go_wp2
          go_ret
          exact ⟨by rw [hfin]; rfl, HF.out⟩
end Go.Proofs.YtjefgmeejhakbaaGreatDoor
