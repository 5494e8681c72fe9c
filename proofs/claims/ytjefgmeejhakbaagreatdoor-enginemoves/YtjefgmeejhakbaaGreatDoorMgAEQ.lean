/- Small EkDel EkLeave: put together for a claim. -/
import Derived.Test.YtjefgmeejhakbaaGreatDoorMgAAQ
import Derived.WalkKit
import Derived.WalkSpells
import Derived.Test.YtjefgmeejhakbaaGreatDoorMgABQ
import Derived.Test.YtjefgmeejhakbaaGreatDoorEkWaitQ
/- The contracts of the small functions: pick, isKey, wrong. -/
namespace Go.Proofs.YtjefgmeejhakbaaGreatDoor
open Go.RowKit
def keyB (k : Int) : Bool := decide (0 ≤ k ∧ k < 10)
set_option maxHeartbeats 400000 in
theorem isKey_any (k : Int) (w : World) :
    Calls Tryz.prog 159 #[.int .i64 k] w fun e w' => e = .returned (.bool (keyB k)) ∧ w' = w := by
  by_cases h1 : 0 ≤ k
  · by_cases h2 : k < 10
    · have h : keyB k = true := by simp [keyB, h1, h2]
      rw [h]
      go_enter Tryz.func159, Tryz.ntmps159
      go_wp2
      go_ret
      exact ⟨rfl, rfl⟩
    · have h : keyB k = false := by simp [keyB, h2]
      rw [h]
      go_enter Tryz.func159, Tryz.ntmps159
      go_wp2
      go_ret
      exact ⟨rfl, rfl⟩
  · have h : keyB k = false := by simp [keyB, h1]
    rw [h]
    go_enter Tryz.func159, Tryz.ntmps159
    go_wp2
    go_ret
    exact ⟨rfl, rfl⟩
set_option maxHeartbeats 400000 in
theorem wrong_good (k v : Int) (w : World) (h1 : keyB k = true) (h2 : -1099511627776 ≤ v) (h3 : v ≤ 1099511627776) :
    Calls Tryz.prog 131 #[.agg #[.int .i64 k, .int .i64 v]] w fun e w' => e = .returned (.int .i64 0) ∧ Below w.heap.size w w' := by
  go_enter Tryz.func131, Tryz.ntmps131
  go_wp2_with (go_at_call 159; refine (isKey_any _ _).mono ?_; rintro e w' ⟨rfl, rfl⟩)
  go_ret
  exact ⟨rfl, (Below.refl _ _).alloc (Nat.le_refl _) _⟩
end Go.Proofs.YtjefgmeejhakbaaGreatDoor

/- slices.DeleteFunc with leave's closure. -/
namespace Go.Proofs.YtjefgmeejhakbaaGreatDoor
open Go.Shelf Go.RowKit Go.Lib Go.Sort
theorem gives_leave (tx x : Int) (B : Nat) (W : World) (hc : W.cell? ⟨B, 0, none⟩ = some (.int .i64 tx)) :
    FnGives Tryz.prog 239 #[.pointer (some ⟨B, 0, none⟩)] #[.int .i64 x] (.bool (x == tx)) W := by
  show Calls Tryz.prog 239 #[.int .i64 x, .pointer (some ⟨B, 0, none⟩)] W _
  go_enter Tryz.func239, Tryz.ntmps239
  go_wp2
  all_goals (go_ret; exact ⟨rfl, 0, rfl⟩)
theorem pred_leave (tx : Int) (B : Nat) (w : World) (hB : B < w.heap.size) (hcell : w.cell? ⟨B, 0, none⟩ = some (.int .i64 tx)) :
    PredAt Tryz.prog 239 #[.pointer (some ⟨B, 0, none⟩)] (Value.int .i64) (fun x => x == tx) w :=
  fun W x hb => gives_leave tx x B W ((hb.cell (p := ⟨B, 0, none⟩) hB).trans hcell)
theorem over_leave (tx : Int) (B blk off size : Nat) (w : World) (hB : B < w.heap.size) (hne : B ≠ blk) (hcell : w.cell? ⟨B, 0, none⟩ = some (.int .i64 tx)) :
    PredOver Tryz.prog 239 #[.pointer (some ⟨B, 0, none⟩)] (Value.int .i64) (fun x => x == tx) blk off size w :=
  fun n os dk x _ => gives_leave tx x B _ (by
    unfold sortWorld
    rw [cell?_grow _ _ _ (by show B < (putRow _ _ _ _ _).heap.size; rw [size_putRow]; exact hB), cell?_putRow_other _ _ blk off _ _ (Or.inl hne)]
    exact hcell)
theorem ekPutCells_take (l : List Int) (z : Nat) (cur : Array Value) (h : l.length + z ≤ cur.size) : (putCells (Value.int .i64) 0 (l ++ List.replicate z 0).toArray cur).toList.take l.length = intsV l := by
  apply List.ext_getElem?
  intro j
  rw [List.getElem?_take]
  by_cases hj : j < l.length
  · rw [if_pos hj]
    have hjc : j < cur.size := by omega
    simp only [putCells, Array.toList_mapIdx, List.getElem?_mapIdx, Array.getElem?_toList, Array.getElem?_eq_getElem hjc, Option.map_some]
    rw [if_pos ⟨Nat.zero_le _, by simp; omega⟩]
    have e : (l ++ List.replicate z 0).toArray[j - 0]! = l[j] := by
      rw [Nat.sub_zero, getElem!_pos _ j (by simp; omega)]
      simp [List.getElem_append_left hj]
    rw [e, intsV_get (List.getElem?_eq_getElem hj)]
  · rw [if_neg hj, List.getElem?_eq_none (by rw [intsV_length]; omega)]
theorem heap_putRow (w : World) (g q : Nat) (d : Array Int) (cur : Array Value) (t : TypeId) (fr : Nat × Nat) (h : w.heap[g]? = some (.cells cur t fr)) :
    (putRow (Value.int .i64) (Sort.ahead w q) g 0 d).heap[g]? = some (.cells (putCells (Value.int .i64) 0 d cur) t fr) := by
  show ((Sort.ahead w q).heap.modify g _)[g]? = _
  rw [Array.getElem?_modify, if_pos rfl]
  show (w.heap[g]?).map _ = _
  rw [h]
  rfl
theorem ekHeap_putRow_other (w : World) (g q k : Nat) (d : Array Int) (h : k ≠ g) :
    (putRow (Value.int .i64) (Sort.ahead w q) g 0 d).heap[k]? = w.heap[k]? := by
  show ((Sort.ahead w q).heap.modify g _)[k]? = _
  rw [Array.getElem?_modify, if_neg (fun e => h e.symm)]
  rfl
theorem del_any (g cap B : Nat) (l : List Int) (tx : Int) (w : World) (ho : w.ownsRow 0 3 1 (.slice (some ⟨g, 0, none⟩) l.length cap) l.length (intsV l)) (hc : w.cell? ⟨B, 0, none⟩ = some (.int .i64 tx)) (hBg : B ≠ g) (hlen : l.length ≤ 1000000) :
    Calls Tryz.prog 238 #[.slice (some ⟨g, 0, none⟩) l.length cap, .func (.func 239) #[] #[.pointer (some ⟨B, 0, none⟩)]] w fun e w' =>
      e = .returned (.slice (some ⟨g, 0, none⟩) (l.filter (fun x => x != tx)).length cap) ∧ w'.ownsRow 0 3 1 (.slice (some ⟨g, 0, none⟩) (l.filter (fun x => x != tx)).length cap) (l.filter (fun x => x != tx)).length (intsV (l.filter (fun x => x != tx))) ∧ w.grownBy w' (some g) := by
  have hB := World.block_lt_of_cell? w _ hc
  rcases ho.2 with ⟨e, _⟩ | ⟨g', cap', cur, e, hb0, hg, hnc, hcm, hcs, htake⟩
  · cases e
  · cases e
    have hcells := ho.cells (g := g) rfl
    have eg : ∀ args w, (callFunc 239 args).run Tryz.prog w = .ok (.enter 239 args) w := enters_of Tryz.func239 (by kernel_rfl) rfl
    have hH : Holds (Value.int .i64) w g 0 l.toArray := by
      intro j hj
      have hj' : j < l.length := by simpa using hj
      refine ⟨?_, frozen_of_row w g _ _ _ hg⟩
      have := hcells j _ (intsV_get (List.getElem?_eq_getElem hj'))
      rw [addr_add] at this
      rw [Nat.zero_add, this, getElem!_pos _ j hj]
      simp
    have hcon := AnyE.slices_DeleteFunc Tryz.l10 (Value.int .i64) (fun _ => rfl) (fun x => x == tx) 239 #[.pointer (some ⟨B, 0, none⟩)] eg 0 Tryz.zeroValue3 g 0 cap l.toArray w
      (pred_leave tx B w hB hc) (over_leave tx B g 0 l.toArray.size w hB hBg hc) hH (by simp; omega) (by simpa using hnc)
    have hcon2 : Calls Tryz.prog 238 #[.slice (some ⟨g, 0, none⟩) l.length cap, .func (.func 239) #[] #[.pointer (some ⟨B, 0, none⟩)]] w _ := hcon
    refine hcon2.mono ?_
    rintro e w' ⟨rfl, q, rfl⟩
    have hfl : (l.filter (fun x => x != tx)).length ≤ l.length := List.length_filter_le _ _
    refine ⟨rfl, ⟨by rw [intsV_length]; omega, .inr ⟨g, cap, _, rfl, Nat.zero_le _, heap_putRow w g q _ cur _ _ hg, by omega, hcm, ?_, ?_⟩⟩, ⟨rfl, rfl, rfl, ?_, fun k _ hk => ekHeap_putRow_other w g q k _ (fun e => hk (by rw [e]))⟩⟩
    · simpa [putCells] using hcs
    · rw [Nat.mul_one]
      have e2 : (l.filter (fun x => x != tx)).length = (l.filter (fun x => !x == tx)).length := rfl
      exact ekPutCells_take _ _ cur (by simp; omega)
    · show w.heap.size ≤ ((Sort.ahead w q).heap.modify g _).size
      rw [Array.size_modify]
      exact Nat.le_refl _
end Go.Proofs.YtjefgmeejhakbaaGreatDoor

/- (*Table).leave. -/
namespace Go.Proofs.YtjefgmeejhakbaaGreatDoor
open Go.RowKit
variable {C : Emb}
set_option maxRecDepth 100000 in
set_option maxHeartbeats 2000000 in
theorem leave_none (s N : Nat) (M : LkM) (h wa : Int → Option Int) (ln : Int → List Int) (tx : Int) (w : World) (r : Raw C w s N M h wa ln) (hx : I64 tx) (hw : wa tx = none) :
    Calls Tryz.prog 207 #[.pointer (some ⟨s, C.o, none⟩), .int .i64 tx] w fun e w' => e = .returned (.tuple #[]) ∧ Below w.heap.size w w' := by
  have hA : Below w.heap.size w (w.alloc (.cells #[.int .i64 tx] 3)) := (Below.refl _ _).alloc (Nat.le_refl _) _
  have hs := r.lt
  have c1 := r.c1
  have hl : ∀ q, (Instr.lookup 69 (.map M.mw) (.int .i64 tx) true).run Tryz.prog ((w.alloc (.cells #[.int .i64 tx] 3)).drewN q) = .ok (.tuple #[.int .i64 0, .bool false]) ((w.alloc (.cells #[.int .i64 tx] 3)).drewN q) := fun q => (by
    have := ((r.below hA).below (below_drewN (Below.refl _ _) q)).lookW hx
    rw [hw] at this
    exact this)
  clear r hw
  go_enter Tryz.func207, Tryz.ntmps207
  go_wp2
  go_quiet (fail)
  go_wp2
  refine bodyPost_ret (results_none rfl _ _ _) rfl ?_
  exact ⟨rfl, below_drewN hA _⟩
theorem leave_end {w w1 : World} {s N n g cap b : Nat} {M : LkM} {h wa : Int → Option Int} {ln : Int → List Int} {k : Int} {l : List Int} (r : Raw C w s N M h wa ln) (hb : M.ml = some b) (hk : I64 k) (hN : N ≤ 1000000)
    (hv : M.lv k = some (.slice (some ⟨g, 0, none⟩) n cap)) (ho : w1.ownsRow 0 3 1 (.slice (some ⟨g, 0, none⟩) l.length cap) l.length (intsV l)) (hgr : w.grownBy w1 (some g)) (hl : l.length ≤ (ln k).length) :
    w1.cell? ⟨s, C.o + 2, none⟩ = some (.map (some b)) ∧
    (l = [] → ∃ w3, (Builtin.delete_ #[157, 3] 0 #[.map (some b), .int .i64 k]).run Tryz.prog w1 = .ok (.tuple #[]) w3 ∧ ∃ M', Raw C w3 s (N + 1) M' h wa (updT ln k l) ∧ KeptO (M.own s) (M'.own s) w w3) ∧
    (l ≠ [] → ∃ w3, (Instr.mapUpdate 157 (.map (some b)) (.int .i64 k) (.slice (some ⟨g, 0, none⟩) l.length cap)).run Tryz.prog w1 = .ok () w3 ∧ ∃ M', Raw C w3 s (N + 1) M' h wa (updT ln k l) ∧ KeptO (M.own s) (M'.own s) w w3) := by
  have hbl := r.ml.lt hb
  have hlen := r.len k
  have hB : ∀ i, i < w.heap.size → (∀ v, M.lv k = some v → v.ownBlock ≠ some i) → w1.heap[i]? = w.heap[i]? := fun i hi hn =>
    hgr.block i hi (fun e => by cases e; exact hn _ hv rfl)
  have hI : IMap w b N M.lv := MapIs.at (hb ▸ r.ml)
  have hI1 := hI.same (hB b hbl (fun v hv e => (r.row_ne hv e).2.2.2 hb))
  refine ⟨?_, fun hn => ?_, fun hn => ?_⟩
  · refine (World.cell?_of_block (a := ⟨s, C.o + 2, none⟩) (hB s r.lt (fun v hv e => (r.row_ne hv e).1 rfl))).trans ?_
    rw [r.c2, hb]
  · obtain ⟨w3, hrun, hI3, hg3⟩ := hI1.del Tryz.underlying157 hk 0
    exact ⟨w3, hrun, _, r.turnL (N' := N + 1) (u := none) (l := l) hb (Nat.le_succ _) hB hgr.size ⟨hgr.os, hgr.tape, hgr.output⟩ (.inl ⟨hn, rfl⟩) (by omega) (hI3.mono (Nat.le_succ _)) hg3⟩
  · obtain ⟨w3, hrun, hI3, hg3⟩ := hI1.store Tryz.underlying157 (by unfold maxLen; omega) hk (.slice (some ⟨g, 0, none⟩) l.length cap)
    exact ⟨w3, hrun, _, r.turnL (N' := N + 1) (l := l) hb (Nat.le_succ _) hB hgr.size ⟨hgr.os, hgr.tape, hgr.output⟩ (.inr ⟨hn, _, rfl, ho, fun g' e => .inl ⟨_, hv, e⟩⟩) (by omega) hI3 hg3⟩
set_option maxRecDepth 100000 in
set_option maxHeartbeats 4000000 in
theorem leave_some (s N : Nat) (M : LkM) (h wa : Int → Option Int) (ln : Int → List Int) (tx k : Int) (w : World) (r : Raw C w s N M h wa ln) (hx : I64 tx) (hk : I64 k) (hw : wa tx = some k) (hn : ln k ≠ []) (hN : N ≤ 100000) :
    Calls Tryz.prog 207 #[.pointer (some ⟨s, C.o, none⟩), .int .i64 tx] w fun e w' => e = .returned (.tuple #[]) ∧
      ∃ M', Raw C w' s (N + 1) M' h (updT wa tx none) (updT ln k ((ln k).filter (fun x => x != tx))) ∧ KeptO (M.own s) (M'.own s) w w' := by
  obtain ⟨b1, hm, _⟩ := r.mw.imap (a := tx) (by rw [hw]; simp)
  obtain ⟨v0, hv0, ho0⟩ := r.ln1 k hn
  obtain ⟨b2, hml, _⟩ := r.ml.imap (a := k) (by rw [hv0]; simp)
  have hA : Below w.heap.size w (w.alloc (.cells #[.int .i64 tx] 3)) := (Below.refl _ _).alloc (Nat.le_refl _) _
  have hs := r.lt
  have c1 := r.c1
  rw [hm] at c1
  have hl : ∀ q, (Instr.lookup 69 (.map (some b1)) (.int .i64 tx) true).run Tryz.prog ((w.alloc (.cells #[.int .i64 tx] 3)).drewN q) = .ok (.tuple #[.int .i64 k, .bool true]) ((w.alloc (.cells #[.int .i64 tx] 3)).drewN q) := fun q => by
    have := ((r.below hA).below (below_drewN (Below.refl _ _) q)).lookW hx
    rw [hw, hm] at this
    exact this
  have HA := hid hA
  have HR := hid r
  clear hw r hA
  go_enter Tryz.func207, Tryz.ntmps207
  go_wp2
  go_quiet (fail)
  have hB1 := below_drewN HA.out (nq + 1)
  have r1 := HR.out.below hB1
  have hcB : (w.alloc (.cells #[.int .i64 tx] 3)).heap[w.heap.size]? = some (.cells #[.int .i64 tx] 3 (0, 0)) := heap_alloc_new w _
  clear hl
  obtain ⟨W, hW⟩ : ∃ W, (w.alloc (.cells #[.int .i64 tx] 3)).drewN nq = W := ⟨_, rfl⟩
  have hcB1 : W.heap[w.heap.size]? = some (.cells #[.int .i64 tx] 3 (0, 0)) := by rw [← hW]; exact ((below_drewN (Below.refl (w.heap.size + 1) _) nq).block _ (Nat.lt_succ_self _)).trans hcB
  have r1 : Raw C W.drew s N M h wa ln := by rw [← hW]; exact r1
  have hB1 : Below w.heap.size w W.drew := by rw [← hW]; exact hB1
  rw [hW]
  clear hW hcB c1
  have c1 := r1.c1
  rw [hm] at c1
  have cB : W.cell? ⟨w.heap.size, 0, none⟩ = some (.int .i64 tx) := (cell_of_row _ _ 0 _ 3 (0, 0) hcB1).trans rfl
  obtain ⟨w2, hrun, hI, hg⟩ := (MapIs.at (show MapIs W.drew (some b1) N _ from hm ▸ r1.mw)).del Tryz.underlying69 hx 0
  obtain ⟨r2, k2⟩ := r1.turnW (wa' := updT wa tx none) hm (Nat.le_refl N) (by rw [updT_map]; exact hI) hg
  have hBb : w.heap.size ≠ b1 := by have := HR.out.mw.lt hm; omega
  have hcB2 : w2.heap[w.heap.size]? = some (.cells #[.int .i64 tx] 3 (0, 0)) := (hg.block w.heap.size (Array.getElem?_eq_some_iff.1 hcB1).1 (fun e => hBb (by cases e; rfl))).trans hcB1
  have cB2 : w2.cell? ⟨w.heap.size, 0, none⟩ = some (.int .i64 tx) := (cell_of_row _ _ 0 _ 3 (0, 0) hcB2).trans rfl
  have c12 := r2.c1
  rw [hm] at c12
  have c22 := r2.c2
  rw [hml] at c22
  have hl2 := r2.lookL hk
  rw [hml, hv0] at hl2
  simp only [Option.getD_some] at hl2
  have HR2 := hid r2
  have HB1 := hid hB1
  have HK2 := hid k2
  clear r1 hI hg r2 k2 hB1 hcB1 hcB2
  go_wp2
  go_region_held3 (fun W => W.cell? ⟨s, C.o + 1, none⟩ = some (.map (some b1)) ∧ W.cell? ⟨w.heap.size, 0, none⟩ = some (.int .i64 tx))
    (first
      | go_keep
      | exact ⟨c12, cB2⟩)
    (refine step_del (by rfl) _ _ _ _ (by rfl) _ _ (by rfl) (by rfl) hrun ?_)
  rcases row_slice ho0 with ⟨_, e0⟩ | ⟨g, cap, rfl, hgl, _⟩
  · exact (hn (List.eq_nil_of_length_eq_zero e0)).elim
  clear hrun c12 c1 cB
  have hlen := HR2.out.len k
  have hgB : w.heap.size ≠ g := by omega
  have ho2 := (HR2.out.row hv0).2
  go_wp2_with fail
  refine (del_any g cap w.heap.size (ln k) tx _ ho2 cB2 hgB (by omega)).mono ?_
  rintro e w3 ⟨rfl, ho3, hg3⟩
  have hfl : ((ln k).filter (fun x => x != tx)).length ≤ (ln k).length := List.length_filter_le _ _
  obtain ⟨c3, hE, hF⟩ := leave_end HR2.out hml hk (by omega) hv0 ho3 hg3 hfl
  have HKK := hid ((KeptO.of_below (o := M.own s) HB1.out).trans HK2.out)
  clear hl2 c22 ho2 cB2 hgB ho3 hg3 hm hml hv0 ho0
  obtain ⟨l, hle⟩ : ∃ l, (ln k).filter (fun x => x != tx) = l := ⟨_, rfl⟩
  rw [hle] at hE hF hfl ⊢
  have HL := hid hle
  clear hle
  by_cases hl0 : l = []
  · obtain ⟨w4, hrun, hpost⟩ := hE hl0
    have HP := hid hpost
    have e1 : (((l.length : Nat) : Int) == 0) = true := by simp [hl0]
    clear hE hF hpost hl0
    go_wp2_with (at_delete; refine wpList_del (by rfl) _ _ _ _ (by rfl) _ _ (by rfl) (by rfl) hrun ?_)
    refine bodyPost_ret (results_none rfl _ _ _) rfl ?_
    rw [HL.out]
    obtain ⟨M', hM, hK'⟩ := HP.out
    exact ⟨rfl, M', hM, HKK.out.trans hK'⟩
  · obtain ⟨w4, hrun, hpost⟩ := hF hl0
    have HP := hid hpost
    have e1 : (((l.length : Nat) : Int) == 0) = false := by simp [hl0]
    clear hE hF hpost hl0
    go_wp2
    refine bodyPost_end (results_none rfl _ _ _) rfl ?_
    rw [HL.out]
    obtain ⟨M', hM, hK'⟩ := HP.out
    exact ⟨rfl, M', hM, HKK.out.trans hK'⟩
end Go.Proofs.YtjefgmeejhakbaaGreatDoor
