/- EnLose EnHead EnEnd BsRec: put together for a claim. -/
import Derived.Test.YtjefgmeejhakbaaGreatDoorMgAL
import Derived.Test.YtjefgmeejhakbaaGreatDoorMgAG
/- engine.lose, by what end does. -/
namespace Go.Proofs.YtjefgmeejhakbaaGreatDoor
open Go.RowKit
variable {w w' : World} {L : EnL} {E : Eng}
theorem ISet.del {b n : Nat} {s : Int → Bool} (h : ISet w b n s) {x : Int} (hx : I64 x) (ty : TypeId) :
    ∃ w', (Builtin.delete_ #[181, 3] ty #[.map (some b), .int .i64 x]).run Tryz.prog w = .ok (.tuple #[]) w' ∧ ISet w' b n (fun a => s a && a != x) ∧ w.grownBy w' (some b) := by
  obtain ⟨w', h1, h2, h3⟩ := IMap.del h Tryz.underlying181 hx ty
  refine ⟨w', h1, h2.congr (fun a => ?_), h3⟩
  by_cases e : a = x
  · subst e; rw [updT_same]; simp
  · rw [updT_other _ _ e]; simp [e]
theorem EnAt.delAh (h : EnAt w L E) {j : Nat} {m : TxL} {u : Tx} (hm : L.txs[j]? = some m) (hu : E.txs[j]? = some u) {x : Int} (hx : I64 x) (ty : TypeId) :
    ∃ w', (Builtin.delete_ #[181, 3] ty #[.map (some m.ab), .int .i64 x]).run Tryz.prog w = .ok (.tuple #[]) w' ∧ EnAt w' L (E.setTx j { u with ahead := fun a => u.ahead a && a != x }) ∧ KeptO L.own L.own w w' := by
  have hA := h.txs j m u hm hu
  obtain ⟨w', hr, hI, hg⟩ := hA.ah.del hx ty
  have hb : ∀ g, g < w.heap.size → g ≠ m.ab → w'.heap[g]? = w.heap[g]? := fun g hg' hne => hg.block g hg' (fun e => hne (by injection e))
  have hK : KeptO m.own m.own w w' := ⟨hg.os, hg.tape, hg.output, hg.size, fun g hg' hn => hb g hg' (fun e => hn (e ▸ .inr (.inr (.inl rfl)))), fun g hg => .inl hg⟩
  have := h.setTx hm hu rfl hK (hA.setAh (fun g hg' hne => hb g (hA.own_lt hg') hne) hI (fun x hx => hA.aN x (by simp only [Bool.and_eq_true] at hx; exact hx.1)))
  rw [setTx_self hm] at this
  exact ⟨w', hr, this⟩
theorem EnAt.delBe (h : EnAt w L E) {j : Nat} {m : TxL} {u : Tx} (hm : L.txs[j]? = some m) (hu : E.txs[j]? = some u) {x : Int} (hx : I64 x) (ty : TypeId) :
    ∃ w', (Builtin.delete_ #[181, 3] ty #[.map (some m.hb), .int .i64 x]).run Tryz.prog w = .ok (.tuple #[]) w' ∧ EnAt w' L (E.setTx j { u with behind := fun a => u.behind a && a != x }) ∧ KeptO L.own L.own w w' := by
  have hA := h.txs j m u hm hu
  obtain ⟨w', hr, hI, hg⟩ := hA.be.del hx ty
  have hb : ∀ g, g < w.heap.size → g ≠ m.hb → w'.heap[g]? = w.heap[g]? := fun g hg' hne => hg.block g hg' (fun e => hne (by injection e))
  have hK : KeptO m.own m.own w w' := ⟨hg.os, hg.tape, hg.output, hg.size, fun g hg' hn => hb g hg' (fun e => hn (e ▸ .inr (.inr (.inr (.inl rfl))))), fun g hg => .inl hg⟩
  have := h.setTx hm hu rfl hK (hA.setBe (fun g hg' hne => hb g (hA.own_lt hg') hne) hI (fun x hx => hA.bN x (by simp only [Bool.and_eq_true] at hx; exact hx.1)))
  rw [setTx_self hm] at this
  exact ⟨w', hr, this⟩
theorem EnAt.delBoth (h : EnAt w L E) {j : Nat} {m : TxL} {u : Tx} (hm : L.txs[j]? = some m) (hu : E.txs[j]? = some u) {x : Int} (hx : I64 x) (ty : TypeId) :
    ∃ w1, (Builtin.delete_ #[181, 3] ty #[.map (some m.ab), .int .i64 x]).run Tryz.prog w.drew = .ok (.tuple #[]) w1 ∧ EnAt w1 L (E.setTx j { u with ahead := fun a => u.ahead a && a != x }) ∧
    ∃ w2, (Builtin.delete_ #[181, 3] ty #[.map (some m.hb), .int .i64 x]).run Tryz.prog w1.drew = .ok (.tuple #[]) w2 ∧ EnAt w2 L (E.setTx j (freeOf x u)) ∧ KeptO L.own L.own w w2 := by
  have hd : ∀ w : World, Below w.heap.size w w.drew := fun w => below_drewN (Below.refl _ w) 1
  obtain ⟨w1, r1, h1, k1⟩ := (h.below (hd w)).delAh hm hu hx ty
  obtain ⟨w2, r2, h2, k2⟩ := (h1.below (hd w1)).delBe hm (setTx_get hu) hx ty
  rw [setTx_twice] at h2
  exact ⟨w1, r1, h1, w2, r2, h2, (KeptO.below_l (hd w) k1).trans (KeptO.below_l (hd w1) k2)⟩
def freeTo (n : Int) (j : Nat) (l : List Tx) : List Tx := (l.take j).map (freeOf n) ++ l.drop j
theorem freeTo_zero (n : Int) (l : List Tx) : freeTo n 0 l = l := by simp [freeTo]
theorem freeTo_all (n : Int) (l : List Tx) {j : Nat} (h : l.length ≤ j) : freeTo n j l = l.map (freeOf n) := by simp [freeTo, List.take_of_length_le h, List.drop_of_length_le h]
theorem freeTo_get {n : Int} {j : Nat} {l : List Tx} {t : Tx} (h : l[j]? = some t) : (freeTo n j l)[j]? = some t := by
  have hj := (List.getElem?_eq_some_iff.1 h).1
  unfold freeTo
  rw [List.getElem?_append_right (by simp; omega), List.getElem?_drop]
  simp only [List.length_map, List.length_take]
  rw [show j + (j - min j l.length) = j from by omega, h]
theorem freeTo_step {n : Int} {j : Nat} {l : List Tx} {t : Tx} (h : l[j]? = some t) : freeTo n (j + 1) l = (freeTo n j l).set j (freeOf n t) := by
  have hj := (List.getElem?_eq_some_iff.1 h).1
  unfold freeTo
  rw [List.take_add_one, h, List.set_append_right _ _ (by simp; omega), List.drop_eq_getElem_cons hj]
  simp only [List.length_map, List.length_take]
  rw [show j - min j l.length = 0 from by omega, List.set_cons_zero]
  simp
def EnPost (L : EnL) (E' : Eng) (w w' : World) : Prop := ∃ L', EnAt w' L' E' ∧ KeptO L.own L'.own w w' ∧ L'.s = L.s ∧ L'.bs = L.bs
def EndOk (f : Nat) : Prop := ∀ (w : World) (L : EnL) (E E' : Eng) (i : Nat) (b : Nat) (st : Int), EnAt w L E → L.bs[i]? = some b → (∀ l ∈ E.ks, l.length ≤ 100000) → endF f E i st = some E' →
  Calls Tryz.prog 105 #[.pointer (some ⟨L.s, 0, none⟩), .pointer (some ⟨b, 0, none⟩), .int .i64 st] w fun e w' => e = .returned (.tuple #[]) ∧ EnPost L E' w w'
theorem txCells_why (n : Int) (l : TxL) (t : Tx) (v : Int) : (txCells n l t).setIfInBounds 4 (.int .i64 v) = txCells n l { t with why := v } := by unfold txCells; simp
theorem txCells_state (n : Int) (l : TxL) (t : Tx) (v : Int) : (txCells n l t).setIfInBounds 3 (.int .i64 v) = txCells n l { t with state := v } := by unfold txCells; simp
theorem txCells_bae (n : Int) (l : TxL) (t : Tx) (v : Int) : (txCells n l t).setIfInBounds 5 (.int .i64 v) = txCells n l { t with bae := v } := by unfold txCells; simp
theorem txCells_reads (n : Int) (l : TxL) (t : Tx) (v : Value) (r : List (Int × Int)) : (txCells n l t).setIfInBounds 9 v = txCells n { l with rv := v } { t with reads := r } := by unfold txCells; simp
theorem TxAt.recell {n : Int} {l : TxL} {t t' : Tx} (h : TxAt w n l t) (hb : w'.heap[l.b]? = some (.cells (txCells n l t') 183 (0, 0))) (hs : ∀ g, g ≠ l.b → w'.heap[g]? = w.heap[g]?)
    (e1 : t'.vals = t.vals) (e2 : t'.reads = t.reads) (e3 : t'.seen.length = 10) (e4 : t'.ahead = t.ahead) (e5 : t'.behind = t.behind) (e6 : 0 ≤ t'.wk ∧ t'.wk < 10) : TxAt w' n l t' :=
  ⟨hb, by rw [e1]; exact h.va.same (hs _ h.ne_va.symm), by rw [e2]; exact owns_same h.rd (fun g hg => hs g (h.rd_ne hg).1), by rw [e4]; exact h.ah.same (hs _ h.ne_ah.symm), by rw [e5]; exact h.be.same (hs _ h.ne_be.symm), h.d1, h.d2, h.d3, e3, by rw [e1]; exact h.vk, by rw [e4]; exact h.aN, by rw [e5]; exact h.bN, e6⟩
theorem setCell_at {b o : Nat} {v : Value} {cs : Array Value} {T : TypeId} (hw : w.heap[b]? = some (.cells cs T (0, 0))) : (w.setCell ⟨b, o, none⟩ v).heap[b]? = some (.cells (cs.setIfInBounds o v) T (0, 0)) := heap_setCell_same w b o _ T _ hw
theorem EnAt.setCell (h : EnAt w L E) {i : Nat} {l : TxL} {t t' : Tx} (hl : L.txs[i]? = some l) (ht : E.txs[i]? = some t) {o : Nat} {v : Value} (hc : (txCells ((i : Int) + 1) l t).setIfInBounds o v = txCells ((i : Int) + 1) l t')
    (e1 : t'.vals = t.vals) (e2 : t'.reads = t.reads) (e3 : t'.seen.length = 10) (e4 : t'.ahead = t.ahead) (e5 : t'.behind = t.behind) (e6 : 0 ≤ t'.wk ∧ t'.wk < 10) :
    EnAt (w.setCell ⟨l.b, o, none⟩ v) L (E.setTx i t') ∧ KeptO L.own L.own w (w.setCell ⟨l.b, o, none⟩ v) := by
  have hA := h.txs i l t hl ht
  have hb := setCell_at (o := o) (v := v) hA.blk
  rw [hc] at hb
  have hs : ∀ g, g ≠ l.b → (w.setCell ⟨l.b, o, none⟩ v).heap[g]? = w.heap[g]? := fun g hne => heap_setCell_other w ⟨l.b, o, none⟩ g _ hne
  have hK : KeptO l.own l.own w (w.setCell ⟨l.b, o, none⟩ v) := ⟨rfl, rfl, rfl, by simp, fun g _ hn => hs g (fun e => hn (.inl e)), fun g hg => .inl hg⟩
  have := h.setTx hl ht rfl hK (hA.recell hb hs e1 e2 e3 e4 e5 e6)
  rwa [setTx_self hl] at this
theorem EnAt.noReads (h : EnAt w L E) {i : Nat} {l : TxL} {t : Tx} (hl : L.txs[i]? = some l) (ht : E.txs[i]? = some t) :
    EnAt (w.setCell ⟨l.b, 9, none⟩ (.slice none 0 0)) (L.setTx i { l with rv := .slice none 0 0 }) (E.setTx i { t with reads := [] }) ∧ KeptO L.own (L.setTx i { l with rv := .slice none 0 0 }).own w (w.setCell ⟨l.b, 9, none⟩ (.slice none 0 0)) := by
  have hA := h.txs i l t hl ht
  have hb := setCell_at (o := 9) (v := .slice none 0 0) hA.blk
  rw [txCells_reads _ _ _ _ []] at hb
  have hs : ∀ g, g ≠ l.b → (w.setCell ⟨l.b, 9, none⟩ (.slice none 0 0)).heap[g]? = w.heap[g]? := fun g hne => heap_setCell_other w ⟨l.b, 9, none⟩ g _ hne
  have hK : KeptO l.own ({ l with rv := .slice none 0 0 } : TxL).own w (w.setCell ⟨l.b, 9, none⟩ (.slice none 0 0)) := ⟨rfl, rfl, rfl, by simp, fun g _ hn => hs g (fun e => hn (.inl e)), fun g hg => by
    rcases hg with h | h | h | h | h
    · exact .inl (.inl h)
    · exact .inl (.inr (.inl h))
    · exact .inl (.inr (.inr (.inl h)))
    · exact .inl (.inr (.inr (.inr (.inl h))))
    · cases h⟩
  exact h.setTx hl ht rfl hK ⟨hb, hA.va.same (hs _ hA.ne_va.symm), by simpa [readOps, opsV] using World.ownsRow_nil _ 0 90 4, hA.ah.same (hs _ hA.ne_ah.symm), hA.be.same (hs _ hA.ne_be.symm), hA.d1, hA.d2, hA.d3, hA.sl, hA.vk, hA.aN, hA.bN, hA.wkr⟩
theorem EnAt.row (h : EnAt w L E) {ad : Option Addr} {n cap : Nat} (e : L.av = .slice ad n cap) {j : Nat} {m : TxL} (hm : L.txs[j]? = some m) : ∃ g, ad = some ⟨g, 0, none⟩ ∧ w.cell? ⟨g, j, none⟩ = some (.pointer (some ⟨m.b, 0, none⟩)) := by
  rcases row_slice h.all with ⟨_, e2⟩ | ⟨g, cap', e1, hg, hc⟩
  · have := (List.getElem?_eq_some_iff.1 hm).1; omega
  · rw [e] at e1
    injection e1 with e1
    exact ⟨g, e1, hc j _ (show (L.bs.map ptrV)[j]? = some (ptrV m.b) from by rw [List.getElem?_map, bs_get hm]; rfl)⟩
set_option maxRecDepth 100000 in
set_option maxHeartbeats 2000000 in
theorem lose_any {f : Nat} (hend : EndOk f) (h : EnAt w L E) {i : Nat} {l : TxL} {t : Tx} (hl : L.txs[i]? = some l) (ht : E.txs[i]? = some t) (why : Int) (hks : ∀ l ∈ E.ks, l.length ≤ 100000) {E' : Eng} (hE : endF f (loseE E i why) i 3 = some E') :
    Calls Tryz.prog 101 #[.pointer (some ⟨L.s, 0, none⟩), .pointer (some ⟨l.b, 0, none⟩), .int .i64 why] w fun e w' => e = .returned (.tuple #[]) ∧ EnPost L E' w w' := by
  have hA := h.txs i l t hl ht
  have c4 := hA.c4
  have f4 := hA.free 4
  obtain ⟨h1, k1⟩ := h.setCell hl ht (txCells_why _ l t why) rfl rfl hA.sl rfl rfl hA.wkr
  have ht1 : (E.setTx i { t with why := why }).txs[i]? = some { t with why := why } := setTx_get ht
  obtain ⟨w1, hw1⟩ : ∃ w1, w.setCell ⟨l.b, 4, none⟩ (.int .i64 why) = w1 := ⟨_, rfl⟩
  rw [hw1] at h1 k1
  obtain ⟨E1, hE1⟩ : ∃ E1, E.setTx i { t with why := why } = E1 := ⟨_, rfl⟩
  rw [hE1] at h1 ht1
  have c14 := h1.c14
  obtain ⟨ad, cap, e⟩ := row_form h1.all
  obtain ⟨m, hm⟩ : ∃ m, L.txs.length = m := ⟨_, rfl⟩
  rw [hm] at e
  rw [e] at c14
  have hle := h1.le
  have hlen := h1.len
  rw [hm] at hlen
  have HM := hid hm
  have HAV := hid e
  have H1 := hid h1
  have HL := hid hl
  have HT1 := hid ht1
  have hil : i < E1.txs.length := (List.getElem?_eq_some_iff.1 ht1).1
  have HFIN := hid (show Eng.setTx { E1 with txs := E1.txs.map (freeOf ((i : Int) + 1)) } i { freeOf ((i : Int) + 1) { t with why := why } with reads := [] } = loseE E i why from by
    unfold loseE
    rw [ht]
    simp only
    rw [Eng.upd_some (t := freeOf ((i : Int) + 1) { t with why := why }) (by
      have : (E.txs.set i { t with why := why })[i]? = some { t with why := why } := by rw [← hE1] at ht1; exact ht1
      simp only
      rw [List.getElem?_map, this]; rfl)]
    rw [← hE1]
    rfl)
  have HEE := hid hE
  have hks1 : ∀ l ∈ E1.ks, l.length ≤ 100000 := by rw [← hE1]; exact hks
  have HKS := hid hks1
  have HK1 := hid k1
  have hx : I64 ((i : Int) + 1) := by unfold I64; omega
  clear h hl ht hA h1 ht1 hm e hE hks hks1 k1 hE1
  go_enter Tryz.func101, Tryz.ntmps101
  go_wp2
  go_loopw [17] (fun iv wr => ∃ j : Nat, j ≤ m ∧ iv = .int .i64 j ∧ EnAt wr L { E1 with txs := freeTo ((i : Int) + 1) j E1.txs } ∧ KeptO L.own L.own w1 wr) (fun iv _ => m - (intOf iv).toNat)
  case atStart => exact ⟨0, by omega, rfl, by rw [freeTo_zero]; exact H1.out, KeptO.refl _ _⟩
  case round =>
    obtain ⟨j, hj, rfl, hEr, hK⟩ := hrel
    by_cases hlt : j < m
    · obtain ⟨mm, hmm⟩ : ∃ mm, L.txs[j]? = some mm := ⟨L.txs[j]'(by have := HM.out; omega), List.getElem?_eq_getElem _⟩
      obtain ⟨u, hu, _⟩ := H1.out.getL hmm
      have hu2 := freeTo_get (n := (i : Int) + 1) hu
      obtain ⟨g, rfl, hc⟩ := hEr.row HAV.out hmm
      obtain ⟨w2, r2, e2, w3, r3, e3, k3⟩ := hEr.delBoth hmm hu2 hx 0
      have hst := freeTo_step (n := (i : Int) + 1) hu
      have e3' : EnAt w3 L { E1 with txs := freeTo ((i : Int) + 1) (j + 1) E1.txs } := by rw [hst]; exact e3
      obtain ⟨t0, _, hT0⟩ := hEr.getL HL.out
      obtain ⟨t1, _, hT1⟩ := e2.getL HL.out
      obtain ⟨t2, _, hT2⟩ := e3.getL HL.out
      have n0 := hT0.c0
      have n1 := hT1.c0
      have n2 := hT2.c0
      have hM0 := hEr.txs j mm u hmm hu2
      have a0 := hM0.c20
      have b0 := hM0.c21
      have hM1 := e2.txs j mm _ hmm (setTx_get hu2)
      have a1 := hM1.c20
      have b1 := hM1.c21
      have hM2 := e3.txs j mm _ hmm (setTx_get hu2)
      have a2 := hM2.c20
      have b2 := hM2.c21
      have HF := hid (And.intro e3' (hK.trans k3))
      have hj0 : (0 : Int) ≤ (j : Int) := by omega
      have hj1 : (j : Int) < (m : Int) := by omega
      clear hmm hu hu2 e2 e3 k3 hst e3' hT0 hT1 hT2 hM0 hM1 hM2 hEr hK
      go_wp2
      go_region_held3 (fun W => W.cell? ⟨mm.b, 20, none⟩ = some (.map (some mm.ab)) ∧ W.cell? ⟨l.b, 0, none⟩ = some (.int .i64 ((i : Int) + 1)))
        (first | go_keep | exact ⟨a1, n1⟩)
        (refine step_del (by rfl) _ _ _ _ (by rfl) _ _ (by rfl) (by rfl) r2 ?_)
      go_wp2
      go_region_held3 (fun W => W.cell? ⟨mm.b, 21, none⟩ = some (.map (some mm.hb)) ∧ W.cell? ⟨l.b, 0, none⟩ = some (.int .i64 ((i : Int) + 1)))
        (first | go_keep | exact ⟨b2, n2⟩)
        (refine step_del (by rfl) _ _ _ _ (by rfl) _ _ (by rfl) (by rfl) r3 ?_)
      go_wp2
      go_roundw
      case rel => exact ⟨j + 1, by omega, by go_num, HF.out⟩
      case measure => simp [intOf]; omega
    · obtain rfl : j = m := by omega
      rw [freeTo_all _ _ (by omega)] at hEr
      have htF : ({ E1 with txs := E1.txs.map (freeOf ((i : Int) + 1)) } : Eng).txs[i]? = some (freeOf ((i : Int) + 1) { t with why := why }) := by
        simp only
        rw [List.getElem?_map, HT1.out]; rfl
      obtain ⟨h3, k3⟩ := hEr.noReads HL.out htF
      rw [HFIN.out] at h3
      have hT := hEr.txs i l _ HL.out htF
      have c9 := hT.c9
      have f9 := hT.free 9
      have hbs := bs_setTx (l' := { l with rv := .slice none 0 0 }) HL.out rfl
      have HC := hid (hend _ _ _ _ i l.b 3 h3 (by rw [hbs]; exact bs_get HL.out) (by rw [← HFIN.out]; exact HKS.out) HEE.out)
      have HK3 := hid (And.intro (HK1.out.trans (hK.trans k3)) hbs)
      clear hEr hK htF h3 k3 hT hbs
      go_wp2_with fail
      refine HC.out.mono ?_
      rintro e w4 ⟨rfl, L', hE4, hK4, hs4, hb4⟩
      have HF := hid (show EnPost L E' w w4 from ⟨L', hE4, HK3.out.1.trans hK4, hs4, hb4.trans HK3.out.2⟩)
      clear hE4 hK4 hs4 hb4 HC
      go_wp2
      refine bodyPost_end (results_none rfl _ _ _) rfl ?_
      exact ⟨rfl, HF.out⟩
end Go.Proofs.YtjefgmeejhakbaaGreatDoor

/- The engine's lock table, or its store, is turned. -/
namespace Go.Proofs.YtjefgmeejhakbaaGreatDoor
open Go.RowKit
variable {w w' : World} {L : EnL} {E : Eng}
theorem TabAt.tight {C : Emb} {s N : Nat} {M : LkM} {T : Tab} (h : TabAt C w s N M T) (hg : Good T) (hm : ∀ k x, x ∈ T k → 1 ≤ x ∧ x ≤ 200) : TabAt C w s 201 M T := by
  obtain ⟨hh, wa, ln, r, R⟩ := h
  have hne : ∀ k, T k ≠ [] → 0 ≤ k ∧ k < (201 : Nat) := fun k hk => by have := hg.tidy.rng k hk; omega
  refine ⟨hh, wa, ln, ⟨r.blk, r.mh.upTo 201 (fun k hk => hne k (fun e => hk (by rw [R.h k, e]; rfl))), r.mw.upTo 201 (fun x hx => ?_), r.ml.upTo 201 (fun k hk => hne k (fun e => hk (r.ln0 k (by rw [R.ln k, e]; rfl)))), r.ln0, r.ln1, r.ap, r.d1, r.d2, r.both, fun k => ?_⟩, R⟩
  · have h1 : waitsP T x ≠ -1 := fun e => hx (by rw [(R.wa x).2.2 e]; rfl)
    rcases waits_cases T x with e | ⟨e, _⟩
    · exact (h1 e).elim
    · have := hm _ _ (List.mem_of_mem_tail (mem_of_waits e))
      omega
  · rw [R.ln k]
    have := nodup_le (T k) (upTo 201) (hg.tidy.nod k) (fun x hx => mem_upTo (by have := hm k x hx; omega) (by have := hm k x hx; omega))
    rw [upTo_length] at this
    simp only [List.length_tail]
    omega
theorem Sto.reblk {P P' : Tail} {base s : Nat} {last last' : Int} {vs : List Value} {ks : List (List (Int × Int))} (h : Sto P w base s last vs ks) (hb : w'.heap[s]? = some (.cells (P'.cells last' vs) P'.tt (0, 0))) (hr : ∀ g, InRows vs g → w'.heap[g]? = w.heap[g]?) : Sto P' w' base s last' vs ks :=
  ⟨hb, h.lv, h.lk, fun k v l hv hl => owns_same (h.own k v l hv hl) (fun g hg => hr g ⟨v, List.mem_of_getElem? hv, hg⟩), h.apart, h.sb⟩
theorem TabAt.reblk {C C' : Emb} {s N : Nat} {M : LkM} {T : Tab} (h : TabAt C w s N M T) (hb : w'.heap[s]? = some (.cells (C'.cells (.map M.mh) (.map M.mw) (.map M.ml)) C'.tt (0, 0))) (hr : ∀ g, M.own s g → g ≠ s → w'.heap[g]? = w.heap[g]?) : TabAt C' w' s N M T := by
  obtain ⟨hh, wa, ln, r, R⟩ := h
  refine ⟨hh, wa, ln, ⟨hb, r.mh.same (fun b e => hr b (.inr (.inl e)) (fun e2 => r.map_ne.1 (e2 ▸ e))), r.mw.same (fun b e => hr b (.inr (.inr (.inl e))) (fun e2 => r.map_ne.2.1 (e2 ▸ e))), r.ml.same (fun b e => hr b (.inr (.inr (.inr (.inl e)))) (fun e2 => r.map_ne.2.2 (e2 ▸ e))), r.ln0, fun k hk => ?_, r.ap, r.d1, r.d2, r.both, r.len⟩, R⟩
  obtain ⟨v, hv, ho⟩ := r.ln1 k hk
  exact ⟨v, hv, owns_same ho (fun g hg => hr g (.inr (.inr (.inr (.inr ⟨k, v, hv, hg⟩)))) (r.row_ne hv hg).1)⟩
theorem TabAt.blk {C : Emb} {s N : Nat} {M : LkM} {T : Tab} (h : TabAt C w s N M T) : w.heap[s]? = some (.cells (C.cells (.map M.mh) (.map M.mw) (.map M.ml)) C.tt (0, 0)) := by
  obtain ⟨_, _, _, r, _⟩ := h
  exact r.blk
theorem EnAt.setLock (h : EnAt w L E) {M' : LkM} {N : Nat} {T' : Tab} (hT : TabAt (L.C E.last) w' L.s N M' T') (hK : KeptO (L.M.own L.s) (M'.own L.s) w w') (hg : Good T') (hm : ∀ k x, x ∈ T' k → 1 ≤ x ∧ x ≤ E.txs.length) :
    EnAt w' { L with M := M' } { E with T := T' } ∧ KeptO L.own ({ L with M := M' } : EnL).own w w' := by
  obtain ⟨ρ, T⟩ := h.tag
  have hle := h.le
  have hk : ∀ g, L.own g → ρ g ≠ .eng → ρ g ≠ .lock → w'.heap[g]? = w.heap[g]? := fun g hg h1 h2 => hK.block g (h.own_lt hg) (fun ho => by
    by_cases e : g = L.s
    · exact h1 (by rw [e]; exact T.eng)
    · exact h2 (T.lock g ho e))
  have hblk := hT.blk
  rw [show (L.C E.last) = (({ L with M := M' } : EnL).C E.last) from rfl] at hblk
  refine ⟨⟨h.sto.reblk ?_ (fun g hg => hk g (.inr (.inl hg)) (by rw [T.srow g hg]; exact nofun) (by rw [T.srow g hg]; exact nofun)), hT.tight hg (fun k x hx => by have := hm k x hx; omega), hg, hm,
    owns_same h.all (fun g hg => hk g (.inr (.inr (.inr (.inl hg)))) (by rw [T.all g hg]; exact nofun) (by rw [T.all g hg]; exact nofun)), h.len, h.le,
    h.wr.same (hk _ (.inr (.inr (.inr (.inr (.inl rfl))))) (by rw [T.wr]; exact nofun) (by rw [T.wr]; exact nofun)), owns_same h.com (fun g hg => hk g (.inr (.inr (.inr (.inr (.inr (.inl hg)))))) (by rw [T.com g hg]; exact nofun) (by rw [T.com g hg]; exact nofun)), h.coml,
    fun i l t hl ht => (h.txs i l t hl ht).same (fun g hg => hk g (TxL.own_in (L := L) hl hg) (by rw [T.tx i l g hl hg]; exact nofun) (by rw [T.tx i l g hl hg]; exact nofun)), fun g => if g < w.heap.size then ρ g else .lock, ?_⟩, ?_⟩
  · exact hblk.trans (by rw [← EnL.cells_eq]; rfl)
  · have hlt : ∀ g, L.own g → (if g < w.heap.size then ρ g else Tag.lock) = ρ g := fun g hg => if_pos (h.own_lt hg)
    refine ⟨(hlt _ (.inl rfl)).trans T.eng, fun g hg => (hlt g (.inr (.inl hg))).trans (T.srow g hg), fun g hg hn => ?_, fun g hg => (hlt g (.inr (.inr (.inr (.inl hg))))).trans (T.all g hg), (hlt _ (.inr (.inr (.inr (.inr (.inl rfl)))))).trans T.wr,
      fun g hg => (hlt g (.inr (.inr (.inr (.inr (.inr (.inl hg))))))).trans (T.com g hg), fun j m g hm hg => (hlt g (TxL.own_in (L := L) hm hg)).trans (T.tx j m g hm hg)⟩
    rcases hK.sub g hg with ho | ho
    · exact (hlt g (.inr (.inr (.inl ho)))).trans (T.lock g ho hn)
    · simp only [if_neg (Nat.not_lt.2 ho)]
  · refine ⟨hK.os, hK.tape, hK.output, hK.size, fun g hg hn => hK.block g hg (fun ho => hn (.inr (.inr (.inl ho)))), fun g hg => ?_⟩
    rcases hg with h1 | h1 | h1 | h1 | h1 | h1 | h1
    · exact .inl (.inl h1)
    · exact .inl (.inr (.inl h1))
    · rcases hK.sub g h1 with h2 | h2
      · exact .inl (.inr (.inr (.inl h2)))
      · exact .inr h2
    · exact .inl (.inr (.inr (.inr (.inl h1))))
    · exact .inl (.inr (.inr (.inr (.inr (.inl h1)))))
    · exact .inl (.inr (.inr (.inr (.inr (.inr (.inl h1))))))
    · exact .inl (.inr (.inr (.inr (.inr (.inr (.inr h1))))))
theorem EnAt.setSto (h : EnAt w L E) {last' : Int} {vs' : List Value} {ks' : List (List (Int × Int))} (hS : Sto L.P w' (L.s + 1) L.s last' vs' ks') (hK : Kept L.s L.vs vs' w w') :
    EnAt w' { L with vs := vs' } { E with last := last', ks := ks' } ∧ KeptO L.own ({ L with vs := vs' } : EnL).own w w' := by
  obtain ⟨ρ, T⟩ := h.tag
  have hk : ∀ g, L.own g → ρ g ≠ .eng → ρ g ≠ .srow → w'.heap[g]? = w.heap[g]? := fun g hg h1 h2 => hK.block g (h.own_lt hg) (fun e => h1 (by rw [e]; exact T.eng)) (fun ho => h2 (T.srow g ho))
  have hlv := hS.lv
  refine ⟨⟨hS, h.loc.reblk (C' := ({ L with vs := vs' } : EnL).C last') ?_ (fun g hg hne => hk g (.inr (.inr (.inl hg))) (by rw [T.lock g hg hne]; exact nofun) (by rw [T.lock g hg hne]; exact nofun)), h.good, h.mem,
    owns_same h.all (fun g hg => hk g (.inr (.inr (.inr (.inl hg)))) (by rw [T.all g hg]; exact nofun) (by rw [T.all g hg]; exact nofun)), h.len, h.le,
    h.wr.same (hk _ (.inr (.inr (.inr (.inr (.inl rfl))))) (by rw [T.wr]; exact nofun) (by rw [T.wr]; exact nofun)), owns_same h.com (fun g hg => hk g (.inr (.inr (.inr (.inr (.inr (.inl hg)))))) (by rw [T.com g hg]; exact nofun) (by rw [T.com g hg]; exact nofun)), h.coml,
    fun i l t hl ht => (h.txs i l t hl ht).same (fun g hg => hk g (TxL.own_in (L := L) hl hg) (by rw [T.tx i l g hl hg]; exact nofun) (by rw [T.tx i l g hl hg]; exact nofun)), fun g => if g < w.heap.size then ρ g else .srow, ?_⟩, ?_⟩
  · exact hS.blk.trans (by rw [← EnL.cells_eq]; rfl)
  · have hlt : ∀ g, L.own g → (if g < w.heap.size then ρ g else Tag.srow) = ρ g := fun g hg => if_pos (h.own_lt hg)
    refine ⟨(hlt _ (.inl rfl)).trans T.eng, fun g hg => ?_, fun g hg hn => (hlt g (.inr (.inr (.inl hg)))).trans (T.lock g hg hn), fun g hg => (hlt g (.inr (.inr (.inr (.inl hg))))).trans (T.all g hg), (hlt _ (.inr (.inr (.inr (.inr (.inl rfl)))))).trans T.wr,
      fun g hg => (hlt g (.inr (.inr (.inr (.inr (.inr (.inl hg))))))).trans (T.com g hg), fun j m g hm hg => (hlt g (TxL.own_in (L := L) hm hg)).trans (T.tx j m g hm hg)⟩
    rcases hK.sub g hg with ho | ho
    · exact (hlt g (.inr (.inl ho))).trans (T.srow g ho)
    · simp only [if_neg (Nat.not_lt.2 ho)]
  · refine ⟨hK.os, hK.tape, hK.output, hK.size, fun g hg hn => hK.block g hg (fun e => hn (.inl e)) (fun ho => hn (.inr (.inl ho))), fun g hg => ?_⟩
    rcases hg with h1 | h1 | h1 | h1 | h1 | h1 | h1
    · exact .inl (.inl h1)
    · rcases hK.sub g h1 with h2 | h2
      · exact .inl (.inr (.inl h2))
      · exact .inr h2
    · exact .inl (.inr (.inr (.inl h1)))
    · exact .inl (.inr (.inr (.inr (.inl h1))))
    · exact .inl (.inr (.inr (.inr (.inr (.inl h1)))))
    · exact .inl (.inr (.inr (.inr (.inr (.inr (.inl h1))))))
    · exact .inl (.inr (.inr (.inr (.inr (.inr (.inr h1))))))
end Go.Proofs.YtjefgmeejhakbaaGreatDoor

/- engine.write, end: by one induction. -/
namespace Go.Proofs.YtjefgmeejhakbaaGreatDoor
open Go.RowKit
variable {w w' : World} {L : EnL} {E : Eng}
theorem putAhead_rest (E : Eng) (i j : Nat) : (putAheadP E i j).2.ks = E.ks ∧ (putAheadP E i j).2.T = E.T ∧ (putAheadP E i j).2.last = E.last ∧ (putAheadP E i j).2.wr = E.wr ∧ (putAheadP E i j).2.com = E.com := by
  unfold putAheadP
  split
  · exact ⟨rfl, rfl, rfl, rfl, rfl⟩
  · exact ⟨rfl, rfl, rfl, rfl, rfl⟩
theorem aheadAll_rest (f : Nat → Nat × Nat) : ∀ (js : List Nat) (E : Eng), (aheadAll f js E).2.ks = E.ks ∧ (aheadAll f js E).2.T = E.T ∧ (aheadAll f js E).2.last = E.last ∧ (aheadAll f js E).2.wr = E.wr ∧ (aheadAll f js E).2.com = E.com ∧ (aheadAll f js E).2.txs.length = E.txs.length
  | [], E => ⟨rfl, rfl, rfl, rfl, rfl, rfl⟩
  | j :: r, E => by
    have h1 := putAhead_rest E (f j).1 (f j).2
    have h2 := putAhead_len E (f j).1 (f j).2
    unfold aheadAll
    rcases hp : putAheadP E (f j).1 (f j).2 with ⟨b, E'⟩
    rw [hp] at h1 h2
    cases b with
    | true =>
      have h3 := aheadAll_rest f r E'
      simp only at h1 h2 ⊢
      exact ⟨h3.1.trans h1.1, h3.2.1.trans h1.2.1, h3.2.2.1.trans h1.2.2.1, h3.2.2.2.1.trans h1.2.2.2.1, h3.2.2.2.2.1.trans h1.2.2.2.2, h3.2.2.2.2.2.trans h2⟩
    | false =>
      simp only at h1 h2 ⊢
      exact ⟨h1.1, h1.2.1, h1.2.2.1, h1.2.2.2.1, h1.2.2.2.2, h2⟩
theorem putE_rest (E : Eng) (i : Nat) : (putE E i).2.ks = E.ks ∧ (putE E i).2.T = E.T ∧ (putE E i).2.last = E.last ∧ (putE E i).2.wr = E.wr ∧ (putE E i).2.com = E.com ∧ (putE E i).2.txs.length = E.txs.length := by
  cases ht : E.txs[i]? with
  | none => unfold putE; rw [ht]; exact ⟨rfl, rfl, rfl, rfl, rfl, rfl⟩
  | some t =>
    by_cases hn : t.level ≠ 0 ∧ newerP E t.wk t.start ≠ []
    · rw [putE_new ht hn]; exact ⟨rfl, rfl, rfl, rfl, rfl, rfl⟩
    · rw [putE_ok ht hn]
      have hl := setTx_len E i { t with vals := updT t.vals t.wk (some t.wv) }
      split
      · have h1 := aheadAll_rest (fun j => (j, i)) (thoseP (E.setTx i { t with vals := updT t.vals t.wk (some t.wv) }) (hasReadB t.wk i)) (E.setTx i { t with vals := updT t.vals t.wk (some t.wv) })
        rcases hb : behindP (E.setTx i { t with vals := updT t.vals t.wk (some t.wv) }) i t.wk with ⟨b, E2⟩
        unfold behindP at hb
        rw [hb] at h1
        rw [hl] at h1
        cases b <;> exact h1
      · exact ⟨rfl, rfl, rfl, rfl, rfl, hl⟩
set_option maxRecDepth 100000 in
set_option maxHeartbeats 2000000 in
theorem write_any {f : Nat} (hend : EndOk f) (h : EnAt w L E) {i : Nat} {l : TxL} {t : Tx} (hl : L.txs[i]? = some l) (ht : E.txs[i]? = some t) (hks : ∀ l ∈ E.ks, l.length ≤ 100000) {R : Int × Eng} (hR : writeR (endF f) E i = some R) :
    Calls Tryz.prog 116 #[.pointer (some ⟨L.s, 0, none⟩), .pointer (some ⟨l.b, 0, none⟩)] w fun e w' => e = .returned (.int .i64 R.1) ∧ EnPost L R.2 w w' := by
  have hA := h.txs i l t hl ht
  have c6 := hA.c6
  have c7 := hA.c7
  have HP := hid (putE_any h hl ht hks)
  have hrest := putE_rest E i
  have HL := hid hl
  unfold writeR at hR
  obtain ⟨why, E1, hp⟩ : ∃ why E1, putE E i = (why, E1) := ⟨_, _, rfl⟩
  rw [hp] at HP hR hrest
  simp only at hR hrest
  have HKS := hid (show ∀ l ∈ E1.ks, l.length ≤ 100000 from by rw [hrest.1]; exact hks)
  clear h hl ht hA hp hks hrest
  by_cases h0 : why = 0
  · subst h0
    rw [if_pos rfl] at hR
    injection hR with hR
    subst hR
    go_enter Tryz.func116, Tryz.ntmps116
    go_wp2_with fail
    refine HP.out.mono ?_
    rintro e w1 ⟨rfl, hE, hK⟩
    have HF := hid (show EnPost L E1 w w1 from ⟨L, hE, hK, rfl, rfl⟩)
    clear hE hK HP
    go_wp2
    go_ret
    exact ⟨rfl, HF.out⟩
  · rw [if_neg h0] at hR
    obtain ⟨E2, hE2, rfl⟩ : ∃ E2, endF f (loseE E1 i why) i 3 = some E2 ∧ R = (why, E2) := by
      cases he : endF f (loseE E1 i why) i 3 with
      | none => rw [he] at hR; cases hR
      | some E2 => rw [he] at hR; simp at hR; exact ⟨E2, rfl, hR.symm⟩
    have g1 : (why != 0) = true := by simpa using h0
    have HE2 := hid hE2
    clear hR h0 hE2
    go_enter Tryz.func116, Tryz.ntmps116
    go_wp2_with fail
    refine HP.out.mono ?_
    rintro e w1 ⟨rfl, hE, hK⟩
    simp only at hE
    obtain ⟨t1, ht1, _⟩ := hE.getL HL.out
    have HC := hid (lose_any hend hE HL.out ht1 why HKS.out HE2.out)
    have HK := hid hK
    clear hE hK HP ht1
    go_wp2_with fail
    refine HC.out.mono ?_
    rintro e w2 ⟨rfl, L', hE2, hK2, hs2, hb2⟩
    have HF := hid (show EnPost L E2 w w2 from ⟨L', hE2, HK.out.trans hK2, hs2, hb2⟩)
    clear hE2 hK2 hs2 hb2 HC
    go_wp2
    go_ret
    exact ⟨rfl, HF.out⟩
end Go.Proofs.YtjefgmeejhakbaaGreatDoor

/- base's record: a commit's bytes. -/
namespace Go.Proofs.YtjefgmeejhakbaaGreatDoor
open Go.RowKit
end Go.Proofs.YtjefgmeejhakbaaGreatDoor
