/- engine.lose, by what end does. -/
import Derived.Test.YtjefgmeejhakbaaGreatDoorEnPutWQ
namespace Go.Proofs.YtjefgmeejhakbaaGreatDoor
open Go.RowKit
variable {w w' : World} {L : EnL} {E : Eng}
theorem ISet.del {b n : Nat} {s : Int → Bool} (h : ISet w b n s) {x : Int} (hx : I64 x) (ty : TypeId) :
    ∃ w', (Builtin.delete_ #[181, 3] ty #[.map (some b), .int .i64 x]).run Tryz.prog w = .ok (.tuple #[]) w' ∧ ISet w' b n (fun a => s a && a != x) ∧ w.grownBy w' (some b) := by
  obtain ⟨w', h1, h2, h3⟩ := IMap.del h Tryz.underlying181 hx ty
  refine ⟨w', h1, h2.congr (fun a => ?_), h3⟩
  by_cases e : a = x
  · subst e; rw [updT_same]; simp
  · rw [updT_other _ _ e]; simp [e]
theorem EnAt.delAh (h : EnAt w L E) {j : Nat} {m : TxL} {u : Tx} (hm : L.txs[j]? = some m) (hu : E.txs[j]? = some u) {x : Int} (hx : I64 x) (ty : TypeId) :
    ∃ w', (Builtin.delete_ #[181, 3] ty #[.map (some m.ab), .int .i64 x]).run Tryz.prog w = .ok (.tuple #[]) w' ∧ EnAt w' L (E.setTx j { u with ahead := fun a => u.ahead a && a != x }) ∧ KeptO L.own L.own w w' := by
  have hA := h.txs j m u hm hu
  obtain ⟨w', hr, hI, hg⟩ := hA.ah.del hx ty
  have hb : ∀ g, g < w.heap.size → g ≠ m.ab → w'.heap[g]? = w.heap[g]? := fun g hg' hne => hg.block g hg' (fun e => hne (by injection e))
  have hK : KeptO m.own m.own w w' := ⟨hg.os, hg.tape, hg.output, hg.size, fun g hg' hn => hb g hg' (fun e => hn (e ▸ .inr (.inr (.inl rfl)))), fun g hg => .inl hg⟩
  have := h.setTx hm hu rfl hK (hA.setAh (fun g hg' hne => hb g (hA.own_lt hg') hne) hI (fun x hx => hA.aN x (by simp only [Bool.and_eq_true] at hx; exact hx.1)))
  rw [setTx_self hm] at this
  exact ⟨w', hr, this⟩
theorem EnAt.delBe (h : EnAt w L E) {j : Nat} {m : TxL} {u : Tx} (hm : L.txs[j]? = some m) (hu : E.txs[j]? = some u) {x : Int} (hx : I64 x) (ty : TypeId) :
    ∃ w', (Builtin.delete_ #[181, 3] ty #[.map (some m.hb), .int .i64 x]).run Tryz.prog w = .ok (.tuple #[]) w' ∧ EnAt w' L (E.setTx j { u with behind := fun a => u.behind a && a != x }) ∧ KeptO L.own L.own w w' := by
  have hA := h.txs j m u hm hu
  obtain ⟨w', hr, hI, hg⟩ := hA.be.del hx ty
  have hb : ∀ g, g < w.heap.size → g ≠ m.hb → w'.heap[g]? = w.heap[g]? := fun g hg' hne => hg.block g hg' (fun e => hne (by injection e))
  have hK : KeptO m.own m.own w w' := ⟨hg.os, hg.tape, hg.output, hg.size, fun g hg' hn => hb g hg' (fun e => hn (e ▸ .inr (.inr (.inr (.inl rfl))))), fun g hg => .inl hg⟩
  have := h.setTx hm hu rfl hK (hA.setBe (fun g hg' hne => hb g (hA.own_lt hg') hne) hI (fun x hx => hA.bN x (by simp only [Bool.and_eq_true] at hx; exact hx.1)))
  rw [setTx_self hm] at this
  exact ⟨w', hr, this⟩
theorem EnAt.delBoth (h : EnAt w L E) {j : Nat} {m : TxL} {u : Tx} (hm : L.txs[j]? = some m) (hu : E.txs[j]? = some u) {x : Int} (hx : I64 x) (ty : TypeId) :
    ∃ w1, (Builtin.delete_ #[181, 3] ty #[.map (some m.ab), .int .i64 x]).run Tryz.prog w.drew = .ok (.tuple #[]) w1 ∧ EnAt w1 L (E.setTx j { u with ahead := fun a => u.ahead a && a != x }) ∧
    ∃ w2, (Builtin.delete_ #[181, 3] ty #[.map (some m.hb), .int .i64 x]).run Tryz.prog w1.drew = .ok (.tuple #[]) w2 ∧ EnAt w2 L (E.setTx j (freeOf x u)) ∧ KeptO L.own L.own w w2 := by
  have hd : ∀ w : World, Below w.heap.size w w.drew := fun w => below_drewN (Below.refl _ w) 1
  obtain ⟨w1, r1, h1, k1⟩ := (h.below (hd w)).delAh hm hu hx ty
  obtain ⟨w2, r2, h2, k2⟩ := (h1.below (hd w1)).delBe hm (setTx_get hu) hx ty
  rw [setTx_twice] at h2
  exact ⟨w1, r1, h1, w2, r2, h2, (KeptO.below_l (hd w) k1).trans (KeptO.below_l (hd w1) k2)⟩
def freeTo (n : Int) (j : Nat) (l : List Tx) : List Tx := (l.take j).map (freeOf n) ++ l.drop j
theorem freeTo_zero (n : Int) (l : List Tx) : freeTo n 0 l = l := by simp [freeTo]
theorem freeTo_all (n : Int) (l : List Tx) {j : Nat} (h : l.length ≤ j) : freeTo n j l = l.map (freeOf n) := by simp [freeTo, List.take_of_length_le h, List.drop_of_length_le h]
theorem freeTo_get {n : Int} {j : Nat} {l : List Tx} {t : Tx} (h : l[j]? = some t) : (freeTo n j l)[j]? = some t := by
  have hj := (List.getElem?_eq_some_iff.1 h).1
  unfold freeTo
  rw [List.getElem?_append_right (by simp; omega), List.getElem?_drop]
  simp only [List.length_map, List.length_take]
  rw [show j + (j - min j l.length) = j from by omega, h]
theorem freeTo_step {n : Int} {j : Nat} {l : List Tx} {t : Tx} (h : l[j]? = some t) : freeTo n (j + 1) l = (freeTo n j l).set j (freeOf n t) := by
  have hj := (List.getElem?_eq_some_iff.1 h).1
  unfold freeTo
  rw [List.take_add_one, h, List.set_append_right _ _ (by simp; omega), List.drop_eq_getElem_cons hj]
  simp only [List.length_map, List.length_take]
  rw [show j - min j l.length = 0 from by omega, List.set_cons_zero]
  simp
def EnPost (L : EnL) (E' : Eng) (w w' : World) : Prop := ∃ L', EnAt w' L' E' ∧ KeptO L.own L'.own w w' ∧ L'.s = L.s ∧ L'.bs = L.bs
def EndOk (f : Nat) : Prop := ∀ (w : World) (L : EnL) (E E' : Eng) (i : Nat) (b : Nat) (st : Int), EnAt w L E → L.bs[i]? = some b → (∀ l ∈ E.ks, l.length ≤ 100000) → endF f E i st = some E' →
  Calls Tryz.prog 105 #[.pointer (some ⟨L.s, 0, none⟩), .pointer (some ⟨b, 0, none⟩), .int .i64 st] w fun e w' => e = .returned (.tuple #[]) ∧ EnPost L E' w w'
theorem txCells_why (n : Int) (l : TxL) (t : Tx) (v : Int) : (txCells n l t).setIfInBounds 4 (.int .i64 v) = txCells n l { t with why := v } := by unfold txCells; simp
theorem txCells_state (n : Int) (l : TxL) (t : Tx) (v : Int) : (txCells n l t).setIfInBounds 3 (.int .i64 v) = txCells n l { t with state := v } := by unfold txCells; simp
theorem txCells_bae (n : Int) (l : TxL) (t : Tx) (v : Int) : (txCells n l t).setIfInBounds 5 (.int .i64 v) = txCells n l { t with bae := v } := by unfold txCells; simp
theorem txCells_reads (n : Int) (l : TxL) (t : Tx) (v : Value) (r : List (Int × Int)) : (txCells n l t).setIfInBounds 9 v = txCells n { l with rv := v } { t with reads := r } := by unfold txCells; simp
theorem TxAt.recell {n : Int} {l : TxL} {t t' : Tx} (h : TxAt w n l t) (hb : w'.heap[l.b]? = some (.cells (txCells n l t') 183 (0, 0))) (hs : ∀ g, g ≠ l.b → w'.heap[g]? = w.heap[g]?)
    (e1 : t'.vals = t.vals) (e2 : t'.reads = t.reads) (e3 : t'.seen.length = 10) (e4 : t'.ahead = t.ahead) (e5 : t'.behind = t.behind) (e6 : 0 ≤ t'.wk ∧ t'.wk < 10) : TxAt w' n l t' :=
  ⟨hb, by rw [e1]; exact h.va.same (hs _ h.ne_va.symm), by rw [e2]; exact owns_same h.rd (fun g hg => hs g (h.rd_ne hg).1), by rw [e4]; exact h.ah.same (hs _ h.ne_ah.symm), by rw [e5]; exact h.be.same (hs _ h.ne_be.symm), h.d1, h.d2, h.d3, e3, by rw [e1]; exact h.vk, by rw [e4]; exact h.aN, by rw [e5]; exact h.bN, e6⟩
theorem setCell_at {b o : Nat} {v : Value} {cs : Array Value} {T : TypeId} (hw : w.heap[b]? = some (.cells cs T (0, 0))) : (w.setCell ⟨b, o, none⟩ v).heap[b]? = some (.cells (cs.setIfInBounds o v) T (0, 0)) := heap_setCell_same w b o _ T _ hw
theorem EnAt.setCell (h : EnAt w L E) {i : Nat} {l : TxL} {t t' : Tx} (hl : L.txs[i]? = some l) (ht : E.txs[i]? = some t) {o : Nat} {v : Value} (hc : (txCells ((i : Int) + 1) l t).setIfInBounds o v = txCells ((i : Int) + 1) l t')
    (e1 : t'.vals = t.vals) (e2 : t'.reads = t.reads) (e3 : t'.seen.length = 10) (e4 : t'.ahead = t.ahead) (e5 : t'.behind = t.behind) (e6 : 0 ≤ t'.wk ∧ t'.wk < 10) :
    EnAt (w.setCell ⟨l.b, o, none⟩ v) L (E.setTx i t') ∧ KeptO L.own L.own w (w.setCell ⟨l.b, o, none⟩ v) := by
  have hA := h.txs i l t hl ht
  have hb := setCell_at (o := o) (v := v) hA.blk
  rw [hc] at hb
  have hs : ∀ g, g ≠ l.b → (w.setCell ⟨l.b, o, none⟩ v).heap[g]? = w.heap[g]? := fun g hne => heap_setCell_other w ⟨l.b, o, none⟩ g _ hne
  have hK : KeptO l.own l.own w (w.setCell ⟨l.b, o, none⟩ v) := ⟨rfl, rfl, rfl, by simp, fun g _ hn => hs g (fun e => hn (.inl e)), fun g hg => .inl hg⟩
  have := h.setTx hl ht rfl hK (hA.recell hb hs e1 e2 e3 e4 e5 e6)
  rwa [setTx_self hl] at this
theorem EnAt.noReads (h : EnAt w L E) {i : Nat} {l : TxL} {t : Tx} (hl : L.txs[i]? = some l) (ht : E.txs[i]? = some t) :
    EnAt (w.setCell ⟨l.b, 9, none⟩ (.slice none 0 0)) (L.setTx i { l with rv := .slice none 0 0 }) (E.setTx i { t with reads := [] }) ∧ KeptO L.own (L.setTx i { l with rv := .slice none 0 0 }).own w (w.setCell ⟨l.b, 9, none⟩ (.slice none 0 0)) := by
  have hA := h.txs i l t hl ht
  have hb := setCell_at (o := 9) (v := .slice none 0 0) hA.blk
  rw [txCells_reads _ _ _ _ []] at hb
  have hs : ∀ g, g ≠ l.b → (w.setCell ⟨l.b, 9, none⟩ (.slice none 0 0)).heap[g]? = w.heap[g]? := fun g hne => heap_setCell_other w ⟨l.b, 9, none⟩ g _ hne
  have hK : KeptO l.own ({ l with rv := .slice none 0 0 } : TxL).own w (w.setCell ⟨l.b, 9, none⟩ (.slice none 0 0)) := ⟨rfl, rfl, rfl, by simp, fun g _ hn => hs g (fun e => hn (.inl e)), fun g hg => by
    rcases hg with h | h | h | h | h
    · exact .inl (.inl h)
    · exact .inl (.inr (.inl h))
    · exact .inl (.inr (.inr (.inl h)))
    · exact .inl (.inr (.inr (.inr (.inl h))))
    · cases h⟩
  exact h.setTx hl ht rfl hK ⟨hb, hA.va.same (hs _ hA.ne_va.symm), by simpa [readOps, opsV] using World.ownsRow_nil _ 0 90 4, hA.ah.same (hs _ hA.ne_ah.symm), hA.be.same (hs _ hA.ne_be.symm), hA.d1, hA.d2, hA.d3, hA.sl, hA.vk, hA.aN, hA.bN, hA.wkr⟩
theorem EnAt.row (h : EnAt w L E) {ad : Option Addr} {n cap : Nat} (e : L.av = .slice ad n cap) {j : Nat} {m : TxL} (hm : L.txs[j]? = some m) : ∃ g, ad = some ⟨g, 0, none⟩ ∧ w.cell? ⟨g, j, none⟩ = some (.pointer (some ⟨m.b, 0, none⟩)) := by
  rcases row_slice h.all with ⟨_, e2⟩ | ⟨g, cap', e1, hg, hc⟩
  · have := (List.getElem?_eq_some_iff.1 hm).1; omega
  · rw [e] at e1
    injection e1 with e1
    exact ⟨g, e1, hc j _ (show (L.bs.map ptrV)[j]? = some (ptrV m.b) from by rw [List.getElem?_map, bs_get hm]; rfl)⟩
set_option maxRecDepth 100000 in
set_option maxHeartbeats 2000000 in
theorem lose_any {f : Nat} (hend : EndOk f) (h : EnAt w L E) {i : Nat} {l : TxL} {t : Tx} (hl : L.txs[i]? = some l) (ht : E.txs[i]? = some t) (why : Int) (hks : ∀ l ∈ E.ks, l.length ≤ 100000) {E' : Eng} (hE : endF f (loseE E i why) i 3 = some E') :
    Calls Tryz.prog 101 #[.pointer (some ⟨L.s, 0, none⟩), .pointer (some ⟨l.b, 0, none⟩), .int .i64 why] w fun e w' => e = .returned (.tuple #[]) ∧ EnPost L E' w w' := by
  have hA := h.txs i l t hl ht
  have c4 := hA.c4
  have f4 := hA.free 4
  obtain ⟨h1, k1⟩ := h.setCell hl ht (txCells_why _ l t why) rfl rfl hA.sl rfl rfl hA.wkr
  have ht1 : (E.setTx i { t with why := why }).txs[i]? = some { t with why := why } := setTx_get ht
  obtain ⟨w1, hw1⟩ : ∃ w1, w.setCell ⟨l.b, 4, none⟩ (.int .i64 why) = w1 := ⟨_, rfl⟩
  rw [hw1] at h1 k1
  obtain ⟨E1, hE1⟩ : ∃ E1, E.setTx i { t with why := why } = E1 := ⟨_, rfl⟩
  rw [hE1] at h1 ht1
  have c14 := h1.c14
  obtain ⟨ad, cap, e⟩ := row_form h1.all
  obtain ⟨m, hm⟩ : ∃ m, L.txs.length = m := ⟨_, rfl⟩
  rw [hm] at e
  rw [e] at c14
  have hle := h1.le
  have hlen := h1.len
  rw [hm] at hlen
  have HM := hid hm
  have HAV := hid e
  have H1 := hid h1
  have HL := hid hl
  have HT1 := hid ht1
  have hil : i < E1.txs.length := (List.getElem?_eq_some_iff.1 ht1).1
  have HFIN := hid (show Eng.setTx { E1 with txs := E1.txs.map (freeOf ((i : Int) + 1)) } i { freeOf ((i : Int) + 1) { t with why := why } with reads := [] } = loseE E i why from by
    unfold loseE
    rw [ht]
    simp only
    rw [Eng.upd_some (t := freeOf ((i : Int) + 1) { t with why := why }) (by
      have : (E.txs.set i { t with why := why })[i]? = some { t with why := why } := by rw [← hE1] at ht1; exact ht1
      simp only
      rw [List.getElem?_map, this]; rfl)]
    rw [← hE1]
    rfl)
  have HEE := hid hE
  have hks1 : ∀ l ∈ E1.ks, l.length ≤ 100000 := by rw [← hE1]; exact hks
  have HKS := hid hks1
  have HK1 := hid k1
  have hx : I64 ((i : Int) + 1) := by unfold I64; omega
  clear h hl ht hA h1 ht1 hm e hE hks hks1 k1 hE1
  go_enter Tryz.func101, Tryz.ntmps101
  go_wp2
  go_loopw [17] (fun iv wr => ∃ j : Nat, j ≤ m ∧ iv = .int .i64 j ∧ EnAt wr L { E1 with txs := freeTo ((i : Int) + 1) j E1.txs } ∧ KeptO L.own L.own w1 wr) (fun iv _ => m - (intOf iv).toNat)
  case atStart => exact ⟨0, by omega, rfl, by rw [freeTo_zero]; exact H1.out, KeptO.refl _ _⟩
  case round =>
    obtain ⟨j, hj, rfl, hEr, hK⟩ := hrel
    by_cases hlt : j < m
    · obtain ⟨mm, hmm⟩ : ∃ mm, L.txs[j]? = some mm := ⟨L.txs[j]'(by have := HM.out; omega), List.getElem?_eq_getElem _⟩
      obtain ⟨u, hu, _⟩ := H1.out.getL hmm
      have hu2 := freeTo_get (n := (i : Int) + 1) hu
      obtain ⟨g, rfl, hc⟩ := hEr.row HAV.out hmm
      obtain ⟨w2, r2, e2, w3, r3, e3, k3⟩ := hEr.delBoth hmm hu2 hx 0
      have hst := freeTo_step (n := (i : Int) + 1) hu
      have e3' : EnAt w3 L { E1 with txs := freeTo ((i : Int) + 1) (j + 1) E1.txs } := by rw [hst]; exact e3
      obtain ⟨t0, _, hT0⟩ := hEr.getL HL.out
      obtain ⟨t1, _, hT1⟩ := e2.getL HL.out
      obtain ⟨t2, _, hT2⟩ := e3.getL HL.out
      have n0 := hT0.c0
      have n1 := hT1.c0
      have n2 := hT2.c0
      have hM0 := hEr.txs j mm u hmm hu2
      have a0 := hM0.c20
      have b0 := hM0.c21
      have hM1 := e2.txs j mm _ hmm (setTx_get hu2)
      have a1 := hM1.c20
      have b1 := hM1.c21
      have hM2 := e3.txs j mm _ hmm (setTx_get hu2)
      have a2 := hM2.c20
      have b2 := hM2.c21
      have HF := hid (And.intro e3' (hK.trans k3))
      have hj0 : (0 : Int) ≤ (j : Int) := by omega
      have hj1 : (j : Int) < (m : Int) := by omega
      clear hmm hu hu2 e2 e3 k3 hst e3' hT0 hT1 hT2 hM0 hM1 hM2 hEr hK
      go_wp2
      go_region_held3 (fun W => W.cell? ⟨mm.b, 20, none⟩ = some (.map (some mm.ab)) ∧ W.cell? ⟨l.b, 0, none⟩ = some (.int .i64 ((i : Int) + 1)))
        (first | go_keep | exact ⟨a1, n1⟩)
        (refine step_del (by rfl) _ _ _ _ (by rfl) _ _ (by rfl) (by rfl) r2 ?_)
      go_wp2
      go_region_held3 (fun W => W.cell? ⟨mm.b, 21, none⟩ = some (.map (some mm.hb)) ∧ W.cell? ⟨l.b, 0, none⟩ = some (.int .i64 ((i : Int) + 1)))
        (first | go_keep | exact ⟨b2, n2⟩)
        (refine step_del (by rfl) _ _ _ _ (by rfl) _ _ (by rfl) (by rfl) r3 ?_)
      go_wp2
      go_roundw
      case rel => exact ⟨j + 1, by omega, by go_num, HF.out⟩
      case measure => simp [intOf]; omega
    · obtain rfl : j = m := by omega
      rw [freeTo_all _ _ (by omega)] at hEr
      have htF : ({ E1 with txs := E1.txs.map (freeOf ((i : Int) + 1)) } : Eng).txs[i]? = some (freeOf ((i : Int) + 1) { t with why := why }) := by
        simp only
        rw [List.getElem?_map, HT1.out]; rfl
      obtain ⟨h3, k3⟩ := hEr.noReads HL.out htF
      rw [HFIN.out] at h3
      have hT := hEr.txs i l _ HL.out htF
      have c9 := hT.c9
      have f9 := hT.free 9
      have hbs := bs_setTx (l' := { l with rv := .slice none 0 0 }) HL.out rfl
      have HC := hid (hend _ _ _ _ i l.b 3 h3 (by rw [hbs]; exact bs_get HL.out) (by rw [← HFIN.out]; exact HKS.out) HEE.out)
      have HK3 := hid (And.intro (HK1.out.trans (hK.trans k3)) hbs)
      clear hEr hK htF h3 k3 hT hbs
      go_wp2_with fail
      refine HC.out.mono ?_
      rintro e w4 ⟨rfl, L', hE4, hK4, hs4, hb4⟩
      have HF := hid (show EnPost L E' w w4 from ⟨L', hE4, HK3.out.1.trans hK4, hs4, hb4.trans HK3.out.2⟩)
      clear hE4 hK4 hs4 hb4 HC
      go_wp2
      refine bodyPost_end (results_none rfl _ _ _) rfl ?_
      exact ⟨rfl, HF.out⟩
end Go.Proofs.YtjefgmeejhakbaaGreatDoor
