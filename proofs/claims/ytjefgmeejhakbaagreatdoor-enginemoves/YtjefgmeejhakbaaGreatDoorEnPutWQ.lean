/- engine.put. -/
import Derived.Test.YtjefgmeejhakbaaGreatDoorEnPutQ
namespace Go.Proofs.YtjefgmeejhakbaaGreatDoor
open Go.RowKit
variable {w w' : World} {L : EnL} {E : Eng}
theorem TxAt.setVa {n : Int} {l : TxL} {t : Tx} (h : TxAt w n l t) {k : Nat} {V : Int → Option Int} (hs : ∀ g, l.own g → g ≠ l.vb → w'.heap[g]? = w.heap[g]?) (hV : IMap w' l.vb k (fun x => (V x).map (Value.int .i64))) (hk : ∀ x, V x ≠ none → 0 ≤ x ∧ x < 10) : TxAt w' n l { t with vals := V } :=
  ⟨(hs _ (.inl rfl) h.ne_va).trans h.blk, hV.upTo 10 (fun a ha => hk a (fun e => ha (by rw [e]; rfl))), owns_same h.rd (fun g hg => hs g (.inr (.inr (.inr (.inr hg)))) (h.rd_ne hg).2.1), h.ah.same (hs _ (.inr (.inr (.inl rfl))) h.d1.symm), h.be.same (hs _ (.inr (.inr (.inr (.inl rfl)))) h.d2.symm), h.d1, h.d2, h.d3, h.sl, hk, h.aN, h.bN, h.wkr⟩
theorem setTx_self {i : Nat} {l : TxL} (hl : L.txs[i]? = some l) : L.setTx i l = L := by
  obtain ⟨hi, e⟩ := List.getElem?_eq_some_iff.1 hl
  subst e
  unfold EnL.setTx
  rw [List.set_getElem_self hi]
theorem EnAt.putVal (h : EnAt w L E) {i : Nat} {l : TxL} {t : Tx} (hl : L.txs[i]? = some l) (ht : E.txs[i]? = some t) {key : Int} (hk : 0 ≤ key ∧ key < 10) (val : Int) :
    ∃ w', (Instr.mapUpdate 69 (.map (some l.vb)) (.int .i64 key) (.int .i64 val)).run Tryz.prog w = .ok () w' ∧ EnAt w' L (E.setTx i { t with vals := updT t.vals key (some val) }) ∧ KeptO L.own L.own w w' := by
  have hA := h.txs i l t hl ht
  obtain ⟨w', hr, hI, hg⟩ := hA.va.store Tryz.underlying69 (by unfold maxLen; omega) (a := key) (by unfold I64; omega) (.int .i64 val)
  rw [show updT (fun k => (t.vals k).map (Value.int .i64)) key (some (.int .i64 val)) = fun k => (updT t.vals key (some val) k).map (Value.int .i64) from (updT_map t.vals key (some val)).symm] at hI
  have hb : ∀ g, g < w.heap.size → g ≠ l.vb → w'.heap[g]? = w.heap[g]? := fun g hg' hne => hg.block g hg' (fun e => hne (by injection e))
  have hK : KeptO l.own l.own w w' := ⟨hg.os, hg.tape, hg.output, hg.size, fun g hg' hn => hb g hg' (fun e => hn (e ▸ .inr (.inl rfl))), fun g hg => .inl hg⟩
  have hT : TxAt w' ((i : Int) + 1) l { t with vals := updT t.vals key (some val) } := hA.setVa (fun g hg' hne => hb g (hA.own_lt hg') hne) hI (fun x hx => by
    by_cases e : x = key
    · rw [e]; exact hk
    · rw [updT_other _ _ e] at hx; exact hA.vk x hx)
  have := h.setTx hl ht rfl hK hT
  rw [setTx_self hl] at this
  exact ⟨w', hr, this⟩
def PutPost (L : EnL) (R : Int × Eng) (w : World) (e : Ending) (w' : World) : Prop := e = .returned (.int .i64 R.1) ∧ EnAt w' L R.2 ∧ KeptO L.own L.own w w'
theorem putE_ok {i : Nat} {t : Tx} (ht : E.txs[i]? = some t) (hn : ¬ (t.level ≠ 0 ∧ newerP E t.wk t.start ≠ [])) :
    putE E i = if t.level = 2 then (match behindP (E.setTx i { t with vals := updT t.vals t.wk (some t.wv) }) i t.wk with | (true, E2) => ((0 : Int), E2) | (false, E2) => (13, E2)) else (0, E.setTx i { t with vals := updT t.vals t.wk (some t.wv) }) := by
  unfold putE
  rw [ht]
  simp only
  rw [if_neg hn]
  rfl
theorem putE_new {i : Nat} {t : Tx} (ht : E.txs[i]? = some t) (hn : t.level ≠ 0 ∧ newerP E t.wk t.start ≠ []) : putE E i = (10, E) := by
  unfold putE
  rw [ht]
  simp only
  rw [if_pos hn]
theorem KeptO.below_l {o o' : Nat → Prop} {a b c : World} (hB : Below a.heap.size a b) (h : KeptO o o' b c) : KeptO o o' a c := (KeptO.of_below hB).trans h
def boxW (w : World) (key val : Int) : World := w.alloc (.cells #[.int .i64 key, .int .i64 val] 78)
theorem boxW_below (w : World) (key val : Int) : Below w.heap.size w (boxW w key val) := (Below.refl _ w).alloc (Nat.le_refl _) _
theorem boxW_cells (w : World) (key val : Int) : (boxW w key val).cell? ⟨w.heap.size, 0, none⟩ = some (.int .i64 key) ∧ (boxW w key val).cell? ⟨w.heap.size, 1, none⟩ = some (.int .i64 val) :=
  ⟨(cell_of_row _ w.heap.size 0 _ _ (0, 0) (heap_alloc_new w _)).trans rfl, (cell_of_row _ w.heap.size 1 _ _ (0, 0) (heap_alloc_new w _)).trans rfl⟩
theorem EnAt.putIn {W : World} (h : EnAt w L E) {i : Nat} {l : TxL} {t : Tx} (hl : L.txs[i]? = some l) (ht : E.txs[i]? = some t) (key val : Int) (hk : 0 ≤ key ∧ key < 10) (hB : Below (w.heap.size + 1) (boxW w key val) W) :
    ∃ w', (Instr.mapUpdate 69 (.map (some l.vb)) (.int .i64 key) (.int .i64 val)).run Tryz.prog W = .ok () w' ∧ EnAt w' L (E.setTx i { t with vals := updT t.vals key (some val) }) ∧ KeptO L.own L.own w w' ∧
      w'.cell? ⟨l.b, 1, none⟩ = some (.int .i64 t.level) ∧ w'.cell? ⟨l.b, 8, none⟩ = some (.map (some l.vb)) ∧ w'.cell? ⟨w.heap.size, 0, none⟩ = some (.int .i64 key) ∧ w'.cell? ⟨w.heap.size, 1, none⟩ = some (.int .i64 val) := by
  have hsz : (boxW w key val).heap.size = w.heap.size + 1 := by simp [boxW]
  have hBw : Below w.heap.size w W := (boxW_below w key val).trans (hB.mono (by omega))
  obtain ⟨w', hr, hE, hK⟩ := (h.below hBw).putVal hl ht hk val
  have hT := hE.txs i l _ hl (setTx_get ht)
  have hn : ¬ L.own w.heap.size := fun ho => by have := h.own_lt ho; omega
  have hW := hB.size
  have hbox : ∀ o v, (boxW w key val).cell? ⟨w.heap.size, o, none⟩ = some v → w'.cell? ⟨w.heap.size, o, none⟩ = some v := fun o v hv =>
    (World.cell?_of_block (a := ⟨w.heap.size, o, none⟩) (hK.block w.heap.size (by omega) hn)).trans ((hB.cell (p := ⟨w.heap.size, o, none⟩) (by show w.heap.size < _; omega)).trans hv)
  exact ⟨w', hr, hE, KeptO.below_l hBw hK, hT.c1, hT.c8, hbox 0 _ (boxW_cells w key val).1, hbox 1 _ (boxW_cells w key val).2⟩
set_option maxRecDepth 100000 in
set_option maxHeartbeats 2000000 in
theorem put_loose (h : EnAt w L E) {i : Nat} {l : TxL} {t : Tx} (hl : L.txs[i]? = some l) (ht : E.txs[i]? = some t) (h0 : t.level = 0) :
    Calls Tryz.prog 166 #[.pointer (some ⟨L.s, 0, none⟩), .pointer (some ⟨l.b, 0, none⟩), .agg #[.int .i64 t.wk, .int .i64 t.wv]] w (PutPost L (putE E i) w) := by
  have hA := h.txs i l t hl ht
  have hlt := hA.lt
  rw [putE_ok ht (fun e => e.1 h0), if_neg (by rw [h0]; decide)]
  have c1 := hA.c1
  have c8 := hA.c8
  rw [h0] at c1
  have HX := hid (fun q => h.putIn hl ht t.wk t.wv hA.wkr (W := (boxW w t.wk t.wv).drewN (q + 1)) (below_drewN (Below.refl _ _) (q + 1)))
  obtain ⟨key, hkey⟩ : ∃ k, t.wk = k := ⟨_, rfl⟩
  obtain ⟨val, hval⟩ : ∃ k, t.wv = k := ⟨_, rfl⟩
  obtain ⟨E1, hE1⟩ : ∃ E1, E.setTx i { t with vals := updT t.vals t.wk (some t.wv) } = E1 := ⟨_, rfl⟩
  rw [hE1] at HX ⊢
  rw [hkey, hval, h0] at HX
  rw [hkey, hval]
  clear h hl ht hA h0 hkey hval hE1
  go_enter Tryz.func166, Tryz.ntmps166
  go_wp2
  go_quiet (fail)
  go_wp2
  obtain ⟨w2, hr, hE, hK, y1, y8, yk, yv⟩ := HX.out nq
  have HF := hid (And.intro hE hK)
  unfold boxW at hr
  clear hE hK HX
  go_region_held3 (fun W => W.cell? ⟨l.b, 8, none⟩ = some (.map (some l.vb)) ∧ W.cell? ⟨w.heap.size, 0, none⟩ = some (.int .i64 key) ∧ W.cell? ⟨w.heap.size, 1, none⟩ = some (.int .i64 val))
    (first | go_keep | exact ⟨y8, yk, yv⟩)
    (fail)
  go_wp2
  go_ret
  exact ⟨rfl, HF.out⟩
set_option maxRecDepth 100000 in
set_option maxHeartbeats 2000000 in
theorem put_tight (h : EnAt w L E) {i : Nat} {l : TxL} {t : Tx} (hl : L.txs[i]? = some l) (ht : E.txs[i]? = some t) (h0 : t.level ≠ 0) (hks : ∀ l ∈ E.ks, l.length ≤ 100000) :
    Calls Tryz.prog 166 #[.pointer (some ⟨L.s, 0, none⟩), .pointer (some ⟨l.b, 0, none⟩), .agg #[.int .i64 t.wk, .int .i64 t.wv]] w (PutPost L (putE E i) w) := by
  have hA := h.txs i l t hl ht
  have hlt := hA.lt
  have c1 := hA.c1
  have c2 := hA.c2
  have c8 := hA.c8
  have HN := hid (isNewer_any (h.below (below_drewN (boxW_below w t.wk t.wv) 1)) hA.wkr t.start hks)
  have HX := hid (fun W hB => h.putIn hl ht t.wk t.wv hA.wkr (W := W) hB)
  have HBB := hid (fun E1 (h1 : E1 = E.setTx i { t with vals := updT t.vals t.wk (some t.wv) }) w2 (h2 : EnAt w2 L E1) => behind_any h2 hl hA.wkr)
  have hput1 := hid (fun hn : newerP E t.wk t.start ≠ [] => putE_new ht ⟨h0, hn⟩)
  have hput2 := hid (fun hn : newerP E t.wk t.start = [] => putE_ok ht (fun e => e.2 hn))
  have HH := hid h
  obtain ⟨E1, hE1⟩ : ∃ E1, E.setTx i { t with vals := updT t.vals t.wk (some t.wv) } = E1 := ⟨_, rfl⟩
  rw [hE1] at HX hput2 HBB
  obtain ⟨key, hkey⟩ : ∃ k, t.wk = k := ⟨_, rfl⟩
  obtain ⟨val, hval⟩ : ∃ k, t.wv = k := ⟨_, rfl⟩
  obtain ⟨lv, hlv⟩ : ∃ k, t.level = k := ⟨_, rfl⟩
  obtain ⟨st, hst⟩ : ∃ k, t.start = k := ⟨_, rfl⟩
  rw [hkey, hval, hlv] at HX
  rw [hkey] at HBB
  rw [hkey, hst] at hput1 hput2
  rw [hkey, hval, hst] at HN
  rw [hlv] at c1 h0 hput2
  rw [hst] at c2
  rw [hkey, hval]
  obtain ⟨R, hR⟩ : ∃ R, putE E i = R := ⟨_, rfl⟩
  rw [hR] at hput1 hput2 ⊢
  have g1 : (lv != 0) = true := by simpa using h0
  have hbx := boxW_cells w key val
  have hsz : (boxW w key val).heap.size = w.heap.size + 1 := by simp [boxW]
  clear h hl ht hA h0 hkey hval hE1 hlv hst hR hks
  by_cases hnew : newerP E key st = []
  · have hput := hput2.out hnew
    rw [show decide (newerP E key st ≠ []) = false from by simp [hnew]] at HN
    have HPUT := hid hput
    clear hnew hput1 hput2 hput
    go_enter Tryz.func166, Tryz.ntmps166
    go_wp2
    go_region_held3 (fun W => W.cell? ⟨l.b, 1, none⟩ = some (.int .i64 lv) ∧ W.cell? ⟨l.b, 2, none⟩ = some (.int .i64 st) ∧ W.cell? ⟨w.heap.size, 0, none⟩ = some (.int .i64 key))
      (first | go_keep | exact ⟨y1, y2, y3⟩)
      (first | (go_at_call 212
                refine HN.out.mono ?_
                rintro e w1 ⟨rfl, hB1⟩
                have hB2 : Below (w.heap.size + 1) (boxW w key val) w1 := (below_drewN (Below.refl _ _) 1).trans (hsz ▸ hB1)
                have y1 : w1.cell? ⟨l.b, 1, none⟩ = some (.int .i64 lv) := (hB2.cell (p := ⟨l.b, 1, none⟩) (by show l.b < _; omega)).trans (((boxW_below w key val).cell (p := ⟨l.b, 1, none⟩) hlt).trans c1)
                have y2 : w1.cell? ⟨l.b, 2, none⟩ = some (.int .i64 st) := (hB2.cell (p := ⟨l.b, 2, none⟩) (by show l.b < _; omega)).trans (((boxW_below w key val).cell (p := ⟨l.b, 2, none⟩) hlt).trans c2)
                have y3 : w1.cell? ⟨w.heap.size, 0, none⟩ = some (.int .i64 key) := (hB2.cell (p := ⟨w.heap.size, 0, none⟩) (by show w.heap.size < _; omega)).trans hbx.1
                have HB2 := hid hB2
                clear hB1 hB2))
    obtain ⟨w2, hr, hE, hK, z1, z8, zk, zv⟩ := HX.out w1.drew HB2.out.drew
    have x8 : w1.cell? ⟨l.b, 8, none⟩ = some (.map (some l.vb)) := (HB2.out.cell (p := ⟨l.b, 8, none⟩) (by show l.b < _; omega)).trans (((boxW_below w key val).cell (p := ⟨l.b, 8, none⟩) hlt).trans c8)
    have x4 : w1.cell? ⟨w.heap.size, 1, none⟩ = some (.int .i64 val) := (HB2.out.cell (p := ⟨w.heap.size, 1, none⟩) (by show w.heap.size < _; omega)).trans hbx.2
    have HE := hid hE
    have HK := hid hK
    clear hE hK HX
    go_wp2
    go_region_held3 (fun W => W.cell? ⟨l.b, 8, none⟩ = some (.map (some l.vb)) ∧ W.cell? ⟨w.heap.size, 0, none⟩ = some (.int .i64 key) ∧ W.cell? ⟨w.heap.size, 1, none⟩ = some (.int .i64 val))
      (first | go_keep | exact ⟨z8, zk, zv⟩)
      (fail)
    by_cases h2 : lv = 2
    · subst h2
      have HC := hid (HBB.out E1 rfl w2 HE.out)
      have hp := HPUT.out
      rw [if_pos rfl] at hp
      obtain ⟨bb, bE, hbe⟩ : ∃ bb bE, behindP E1 i key = (bb, bE) := ⟨_, _, rfl⟩
      rw [hbe] at HC hp
      have HP := hid hp
      clear hp hbe HBB HPUT
      go_wp2_with fail
      refine HC.out.mono ?_
      rintro e w3 ⟨rfl, hE3, hK3⟩
      have HF := hid (And.intro hE3 (HK.out.trans hK3))
      clear hE3 hK3 HC
      cases bb with
      | true =>
        go_wp2
        go_ret
        rw [HP.out]
        exact ⟨rfl, HF.out⟩
      | false =>
        go_wp2
        go_ret
        rw [HP.out]
        exact ⟨rfl, HF.out⟩
    · have e2 : (lv == 2) = false := by simpa using h2
      have hp := HPUT.out
      rw [if_neg h2] at hp
      have HP := hid hp
      clear h2 hp HBB HPUT
      go_wp2
      go_ret
      rw [HP.out]
      exact ⟨rfl, HE.out, HK.out⟩
  · have hput := hput1.out hnew
    rw [show decide (newerP E key st ≠ []) = true from by simp [hnew]] at HN
    have HPUT := hid hput
    clear hnew hput1 hput2 hput HX HBB c8
    go_enter Tryz.func166, Tryz.ntmps166
    go_wp2
    go_region_held3 (fun W => W.cell? ⟨l.b, 1, none⟩ = some (.int .i64 lv) ∧ W.cell? ⟨l.b, 2, none⟩ = some (.int .i64 st) ∧ W.cell? ⟨w.heap.size, 0, none⟩ = some (.int .i64 key))
      (first | go_keep | exact ⟨y1, y2, y3⟩)
      (first | (go_at_call 212
                refine HN.out.mono ?_
                rintro e w1 ⟨rfl, hB1⟩
                have hB2 : Below (w.heap.size + 1) (boxW w key val) w1 := (below_drewN (Below.refl _ _) 1).trans (hsz ▸ hB1)
                have y1 : w1.cell? ⟨l.b, 1, none⟩ = some (.int .i64 lv) := (hB2.cell (p := ⟨l.b, 1, none⟩) (by show l.b < _; omega)).trans (((boxW_below w key val).cell (p := ⟨l.b, 1, none⟩) hlt).trans c1)
                have y2 : w1.cell? ⟨l.b, 2, none⟩ = some (.int .i64 st) := (hB2.cell (p := ⟨l.b, 2, none⟩) (by show l.b < _; omega)).trans (((boxW_below w key val).cell (p := ⟨l.b, 2, none⟩) hlt).trans c2)
                have y3 : w1.cell? ⟨w.heap.size, 0, none⟩ = some (.int .i64 key) := (hB2.cell (p := ⟨w.heap.size, 0, none⟩) (by show w.heap.size < _; omega)).trans hbx.1
                have HB2 := hid hB2
                clear hB1 hB2))
    go_wp2
    go_ret
    rw [HPUT.out]
    have hBw : Below w.heap.size w w1 := (boxW_below w key val).trans (HB2.out.mono (by omega))
    exact ⟨rfl, HH.out.below hBw, KeptO.of_below hBw⟩
theorem putE_any (h : EnAt w L E) {i : Nat} {l : TxL} {t : Tx} (hl : L.txs[i]? = some l) (ht : E.txs[i]? = some t) (hks : ∀ l ∈ E.ks, l.length ≤ 100000) :
    Calls Tryz.prog 166 #[.pointer (some ⟨L.s, 0, none⟩), .pointer (some ⟨l.b, 0, none⟩), .agg #[.int .i64 t.wk, .int .i64 t.wv]] w (PutPost L (putE E i) w) := by
  by_cases h0 : t.level = 0
  · exact put_loose h hl ht h0
  · exact put_tight h hl ht h0 hks
end Go.Proofs.YtjefgmeejhakbaaGreatDoor
