/- transaction.noteRead. -/
import Derived.Test.YtjefgmeejhakbaaGreatDoorEnAowQ
import Derived.Deep.RegionHeld3
namespace Go.Proofs.YtjefgmeejhakbaaGreatDoor
open Go.RowKit
variable {w w' : World} {L : EnL} {E : Eng}
theorem info90 : (Tryz.prog.info? 90).map (fun i => (i.zero, i.size, i.bytes)) = some (some (.agg #[.int .i64 0, .int .i64 0, .bool false, .int .i64 0]), 4, 32) := by kernel_rfl
theorem txCells_setSeen (n : Int) (l : TxL) (t : Tx) {k : Nat} (hk : k < t.seen.length) (b : Bool) : (txCells n l t).setIfInBounds (10 + k) (.bool b) = txCells n l { t with seen := t.seen.set k b } := by
  unfold txCells
  rw [List.setIfInBounds_toArray, show 10 + k = k + 1 + 1 + 1 + 1 + 1 + 1 + 1 + 1 + 1 + 1 from by omega]
  simp only [List.set_cons_succ]
  rw [List.set_append_left _ _ (by simpa using hk), List.map_set]
theorem TxAt.noted {n : Int} {l : TxL} {t : Tx} (hA : TxAt w n l t) {w1 : World} {gg cap m k : Nat} {frm : Int} (hk : k < 10) (hm : t.reads.length = m)
    (hown : w1.ownsRow 0 90 4 (.slice (some ⟨gg, 0, none⟩) (m + 1) cap) (m + 1) (opsV (readOps n t.reads) ++ [.int .i64 n, .int .i64 (k : Int), .bool false, .int .i64 frm]))
    (hos : w1.os = w.os ∧ w1.tape = w.tape ∧ w1.output = w.output) (hsz : w.heap.size ≤ w1.heap.size) (hb : ∀ g, g < w.heap.size → l.rv.ownBlock ≠ some g → w1.heap[g]? = w.heap[g]?) (hat : l.rv.ownBlock = some gg ∨ w.heap.size ≤ gg) :
    TxAt ((w1.setCell ⟨l.b, 9, none⟩ (.slice (some ⟨gg, 0, none⟩) (m + 1) cap)).setCell ⟨l.b, 10 + k, none⟩ (.bool true)) n { l with rv := .slice (some ⟨gg, 0, none⟩) (m + 1) cap } (noteReadP t (k : Int) frm) ∧
      KeptO l.own ({ l with rv := .slice (some ⟨gg, 0, none⟩) (m + 1) cap } : TxL).own w ((w1.setCell ⟨l.b, 9, none⟩ (.slice (some ⟨gg, 0, none⟩) (m + 1) cap)).setCell ⟨l.b, 10 + k, none⟩ (.bool true)) := by
  have hbl := hA.lt
  have hfb : ∀ {g}, l.rv.ownBlock = some g → g ≠ l.b := fun hg => (hA.rd_ne hg).1
  have hne : l.rv.ownBlock ≠ some l.b := fun e => hfb e rfl
  have hgb : gg ≠ l.b := by
    rcases hat with h | h
    · exact hfb h
    · omega
  have h1 : w1.heap[l.b]? = some (.cells (txCells n l t) 183 (0, 0)) := (hb l.b hbl hne).trans hA.blk
  have h2 := setCell_at (o := 9) (v := .slice (some ⟨gg, 0, none⟩) (m + 1) cap) h1
  rw [txCells_reads _ _ _ _ (t.reads ++ [((k : Int), frm)])] at h2
  have h3 := setCell_at (o := 10 + k) (v := .bool true) h2
  rw [txCells_setSeen _ _ _ (by show k < t.seen.length; rw [hA.sl]; exact hk)] at h3
  have ho : ∀ g, g ≠ l.b → ((w1.setCell ⟨l.b, 9, none⟩ (.slice (some ⟨gg, 0, none⟩) (m + 1) cap)).setCell ⟨l.b, 10 + k, none⟩ (.bool true)).heap[g]? = w1.heap[g]? := fun g hg =>
    (heap_setCell_other _ ⟨l.b, 10 + k, none⟩ g _ hg).trans (heap_setCell_other _ ⟨l.b, 9, none⟩ g _ hg)
  have hmap : ∀ {g N : Nat} {f : Int → Option Value}, IMap w g N f → IMap ((w1.setCell ⟨l.b, 9, none⟩ (.slice (some ⟨gg, 0, none⟩) (m + 1) cap)).setCell ⟨l.b, 10 + k, none⟩ (.bool true)) g N f := fun hI =>
    hI.same ((ho _ (hI.ne hA.blk)).trans (hb _ hI.lt (fun e => by
      obtain ⟨cur, hc⟩ := owns_typ hA.rd e
      exact hI.ne hc rfl)))
  refine ⟨⟨?_, hmap hA.va, ?_, hmap hA.ah, hmap hA.be, hA.d1, hA.d2, hA.d3, ?_, hA.vk, hA.aN, hA.bN, hA.wkr⟩, ?_, ?_, ?_, ?_, fun g hg hn => ?_, fun g hg => ?_⟩
  · rw [h3]
    unfold noteReadP
    rw [Int.toNat_natCast]
  · have : (noteReadP t (k : Int) frm).reads = t.reads ++ [((k : Int), frm)] := rfl
    rw [this, List.length_append]
    simp only [List.length_singleton]
    rw [hm, show readOps n (t.reads ++ [((k : Int), frm)]) = readOps n t.reads ++ [(n, (k : Int), false, frm)] from by simp [readOps], opsV_append]
    exact owns_same hown (fun g hg => ho g (by
      have : gg = g := by simpa [Value.ownBlock] using hg
      rw [← this]; exact hgb))
  · show (t.seen.set _ _).length = 10
    rw [List.length_set]; exact hA.sl
  · exact hos.1
  · exact hos.2.1
  · exact hos.2.2
  · simpa using hsz
  · exact (ho g (fun e => hn (.inl e))).trans (hb g hg (fun e => hn (.inr (.inr (.inr (.inr e))))))
  · rcases hg with h | h | h | h | h
    · exact .inl (.inl h)
    · exact .inl (.inr (.inl h))
    · exact .inl (.inr (.inr (.inl h)))
    · exact .inl (.inr (.inr (.inr (.inl h))))
    · have : gg = g := by simpa [Value.ownBlock] using h
      subst this
      rcases hat with h | h
      · exact .inl (.inr (.inr (.inr (.inr h))))
      · exact .inr h
set_option maxRecDepth 100000 in
set_option maxHeartbeats 2000000 in
theorem noteRead_any {n : Int} {l : TxL} {t : Tx} (hA : TxAt w n l t) {k : Nat} (hk : k < 10) (frm : Int) (hr : t.reads.length ≤ 1000000000) :
    Calls Tryz.prog 113 #[.pointer (some ⟨l.b, 0, none⟩), .int .i64 (k : Int), .int .i64 frm] w fun e w' => e = .returned (.tuple #[]) ∧ ∃ rv, TxAt w' n { l with rv := rv } (noteReadP t (k : Int) frm) ∧ KeptO l.own ({ l with rv := rv } : TxL).own w w' := by
  obtain ⟨i0, hi0, hz0, hz1, hz2⟩ := info_parts info90
  have c0 := hA.c0
  have c9 := hA.c9
  have hblk := hA.blk
  have hbl := hA.lt
  have hsl := hA.sl
  have hrd := hA.rd
  have hbo : ∀ g, l.rv.ownBlock = some g → g ≠ l.b := fun g hg => (hA.rd_ne hg).1
  have hk0 : (0 : Int) ≤ (k : Int) := by omega
  have hk1 : (k : Int) < 10 := by omega
  obtain ⟨ad, cap, hrv⟩ := row_form hrd
  have f9 := hA.free 9
  have HA := hid hA
  have HRD := hid hrd
  have HBO := hid hbo
  have HRV := hid hrv
  rw [hrv] at c9 hrd
  obtain ⟨m, hm⟩ : ∃ m, t.reads.length = m := ⟨_, rfl⟩
  rw [hm] at c9 hrd hr
  have hrd2 := hrd.drew
  have HRD2 := hid hrd2
  have hfar : some l.b ≠ (Value.slice ad m cap).ownBlock := fun e => by
    have := hbo l.b (by rw [hrv, hm]; exact e.symm)
    exact this rfl
  have HFAR := hid hfar
  clear hA hrd hbo hrv hrd2 hfar
  go_enter Tryz.func113, Tryz.ntmps113
  go_wp2
  go_region_law
    (refine step_append_lies _ (by rfl) _ _ _ (by rfl) 0 90 i0 _ 4 32 Tryz.underlying22 hi0 hz0 hz1 hz2 rfl (by omega) (.slice ad m cap) m (opsV (readOps n t.reads)) (by rfl) (HRD2.out.alloc _)
        ⟨w.heap.size, 0, none⟩ 1 1 [.int .i64 n, .int .i64 (k : Int), .bool false, .int .i64 frm] (by rfl) (by rfl) (World.news_of_block (cs := #[.int .i64 n, .int .i64 (k : Int), .bool false, .int .i64 frm]) (t := 90) (fr := (0, 0)) (heap_alloc_new w.drew _)) (by simp [Value.oneCell'])
        (by omega) (by unfold maxLen; omega) (by omega) (by simp) (w.heap.size + 1) (by simp) ?_; intro gg cap' w1 hown1 hgrow hat hlt
     have hbk : w1.heap[l.b]? = w.heap[l.b]? := (hgrow.block l.b (by simp; omega) HFAR.out).trans (Below.heap_alloc w _ l.b hbl)
     have y0 : w1.cell? ⟨l.b, 0, none⟩ = some (.int .i64 n) := (World.cell?_of_block (a := ⟨l.b, 0, none⟩) hbk).trans c0
     have c2 : w1.cell? ⟨l.b, 9, none⟩ = some (.slice ad m cap) := (World.cell?_of_block (a := ⟨l.b, 9, none⟩) hbk).trans c9
     have f2 : w1.frozen? ⟨l.b, 9, none⟩ = false := (World.frozen?_of_block (a := ⟨l.b, 9, none⟩) hbk).trans f9)
  all_goals
    obtain ⟨sb, hsb⟩ : ∃ sb, t.seen[k]? = some sb := ⟨t.seen[k]'(by omega), List.getElem?_eq_getElem _⟩
    have hb1 := setCell_at (o := 9) (v := .slice (some ⟨gg, 0, none⟩) (m + 1) cap') (hbk.trans hblk)
    rw [txCells_reads _ _ _ _ (t.reads ++ [((k : Int), frm)])] at hb1
    have s1 : (w1.setCell ⟨l.b, 9, none⟩ (.slice (some ⟨gg, 0, none⟩) (m + 1) cap')).cell? ⟨l.b, 10 + k, none⟩ = some (.bool sb) := (cell_of_row _ l.b (10 + k) _ _ (0, 0) hb1).trans (txCells_seen _ _ _ hsb)
    have s2 : (w1.setCell ⟨l.b, 9, none⟩ (.slice (some ⟨gg, 0, none⟩) (m + 1) cap')).frozen? ⟨l.b, 10 + k, none⟩ = false := by simp [World.frozen?, hb1]
    have hown2 : l.rv.ownBlock = (Value.slice ad m cap).ownBlock := by rw [HRV.out, hm]
    have hN := HA.out.noted hk hm hown1 ⟨hgrow.os, hgrow.tape, hgrow.output⟩ (by have := hgrow.size; simp at this; omega)
      (fun g hg hne => (hgrow.block g (by simp; omega) (fun e => hne (by rw [hown2]; exact e.symm))).trans (Below.heap_alloc w _ g hg)) (by
        rcases hat with h | h
        · exact .inl (by rw [hown2]; exact h)
        · exact .inr (by omega))
    have HN := hid hN
    clear hN hsb hb1 hown2 hown1 hgrow hat hlt hbk y0 c2 f2
    go_wp2
    refine bodyPost_end (results_none rfl _ _ _) rfl ?_
    exact ⟨rfl, _, HN.out⟩
end Go.Proofs.YtjefgmeejhakbaaGreatDoor
