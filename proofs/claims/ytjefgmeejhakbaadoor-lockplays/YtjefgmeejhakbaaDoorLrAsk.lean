/- (*interleafref.Table).Ask. -/
import Derived.Test.YtjefgmeejhakbaaDoorLrMem
namespace Go.Proofs.YtjefgmeejhakbaaDoor
open Go.RowKit

/-- A new row laid in for a key. -/
theorem RTab.put {w w1 : World} {base r : Nat} {vs : List Value} {T : Tab} {k : Nat} {v : Value} {l : List Int} (h : RTab w base r vs T) (hk : k < 10) (hB : Below w.heap.size w w1) (hbase : base ≤ w.heap.size)
    (ho : w1.ownsRow w.heap.size 3 1 v l.length (intsV l)) (hn : l = [] → v = .slice none 0 0) :
    RTab (w1.setCell ⟨r, k, none⟩ v) base r (vs.set k v) (updT T k l) ∧ KeptR r vs (vs.set k v) w (w1.setCell ⟨r, k, none⟩ v) := by
  have hr := h.lt
  have hbb : ∀ b, b ≠ r → (w1.setCell ⟨r, k, none⟩ v).heap[b]? = w1.heap[b]? := fun b hb => heap_setCell_other w1 ⟨r, k, none⟩ b v hb
  have hrb := h.rb
  refine ⟨⟨?_, by simp [h.lv], fun j u hu => ?_, fun j u hu hj => ?_, h.rb⟩, ⟨hB.os, hB.tape, hB.output, by simpa using hB.size, fun b hb hne => (hbb b hne).trans (hB.block b hb), fun g hg => ?_⟩⟩
  · refine (heap_setCell_same w1 r k _ 75 v ((hB.block r hr).trans h.blk)).trans ?_
    simp
  · by_cases e : j = k
    · subst e
      rw [updT_same]
      rw [List.getElem?_set_self (by rw [h.lv]; exact hk)] at hu
      cases hu
      exact owns_same (owns_base ho hbase) (fun g hg => hbb g (by have := (ho.lt g hg).1; omega))
    · rw [updT_other _ _ (by omega)]
      rw [List.getElem?_set_ne (fun e2 => e e2.symm)] at hu
      have hou := h.own j u hu
      exact owns_same hou (fun g hg => (hbb g (by have := (hou.lt g hg).1; omega)).trans (hB.block g (hou.lt g hg).2))
  · by_cases e : j = k
    · subst e
      rw [updT_same] at hj
      rw [List.getElem?_set_self (by rw [h.lv]; exact hk)] at hu
      cases hu
      exact hn hj
    · rw [updT_other _ _ (by omega)] at hj
      rw [List.getElem?_set_ne (fun e2 => e e2.symm)] at hu
      exact h.nl j u hu hj
  · rcases hg with e | ⟨u, hu, hgu⟩
    · exact .inl (.inl e)
    · rcases List.mem_or_eq_of_mem_set hu with hu | rfl
      · exact .inl (.inr ⟨u, hu, hgu⟩)
      · exact .inr (ho.lt g hgu).1

/-- What the document's Ask leaves. -/
def RAskPost (base r : Nat) (vs : List Value) (p : Bool × Int × Tab) (w : World) (e : Ending) (w' : World) : Prop :=
  e = .returned (.tuple #[.bool p.1, .int .i64 p.2.1]) ∧ ∃ vs', RTab w' base r vs' p.2.2 ∧ KeptR r vs vs' w w'

set_option maxRecDepth 100000 in
set_option maxHeartbeats 8000000 in
theorem rask_new (base r : Nat) (vs : List Value) (T : Tab) (tx : Int) (j : Nat) (w : World) (h : RTab w base r vs T) (hT : Tidy0 T) (hj : j < 10) (htx : 1 ≤ tx) (hbase : base ≤ w.heap.size) (hlen : ∀ k, (T k).length ≤ 100000)
    (hw : waitsP T tx = -1) (hn : T j = []) :
    Calls Tryd.prog 27 #[.pointer (some ⟨r, 0, none⟩), .int .i64 tx, .int .i64 (j : Int)] w (RAskPost base r vs (true, 0, updT T j [tx]) w) := by
  obtain ⟨i0, hi0, hz0, hz1, hz2⟩ := info_parts info3
  have hin : inB (j : Int) 0 9 = true := by simp [inB]; omega
  have hcw := rwaits_any base r vs T tx w h hT (fun k => by have := hlen k; omega)
  have hch := rholds_any base r vs T (j : Int) w h hT
  rw [hw] at hcw
  rw [(holds_zero hT).2 hn] at hch
  obtain ⟨v, hv, ho⟩ := h.at hj
  have cv := h.cell hv
  have hv0 := h.nl j v hv hn
  subst hv0
  have fv := h.free j
  have hr := h.lt
  have HCW := hid hcw
  have HCH := hid hch
  have HR := hid h
  have g3 : ¬ tx < 1 := by omega
  have e0 : ((0 : Int) == tx) = false := by simp; omega
  have hj0 : (0 : Int) ≤ (j : Int) := by omega
  have hj1 : (j : Int) < 10 := by omega
  clear hcw hch h hT hw hn ho hv hlen
  go_enter Tryd.func27, Tryd.ntmps27
  go_wp2_with (first
    | (go_at_call 48; refine (in_any _ _ _ _).mono ?_; rintro e w' ⟨rfl, rfl⟩)
    | (go_at_call 32; refine HCW.out.mono ?_; rintro e w' ⟨rfl, rfl⟩)
    | (go_at_call 34; refine HCH.out.mono ?_; rintro e w' ⟨rfl, rfl⟩))
  refine wp_loop_rounds 1 ?_
  rw [rounds_succ]
  have hO1 := hid (World.ownsRow_made (base := w'.heap.size) (e := 3) (size := 1) w' #[] 0 (Nat.le_refl _) (by simp [maxLen]) rfl)
  have hO3 := hid (World.ownsRow_made (base := w'.heap.size) (e := 3) (size := 1) (w'.alloc (.cells #[.int .i64 tx] 3)) #[] 0 (by simp) (by simp [maxLen]) rfl)
  have hN2 := hid (show ((w'.alloc (.cells #[] 3)).alloc (.cells #[.int .i64 tx] 3)).heap[w'.heap.size + 1]? = some (.cells #[.int .i64 tx] 3) by have := heap_alloc_new (w'.alloc (.cells #[] 3)) (.cells #[.int .i64 tx] 3); rwa [World.size_alloc] at this)
  have hN3 := hid (show ((w'.alloc (.cells #[.int .i64 tx] 3)).alloc (.cells #[] 3)).heap[w'.heap.size]? = some (.cells #[.int .i64 tx] 3) from (Below.heap_alloc _ _ w'.heap.size (by simp)).trans (heap_alloc_new w' _))
  go_wp2
  go_region_law
    (first
      | (refine step_append_lies _ (by rfl) _ _ _ (by rfl) w'.heap.size 3 i0 _ 1 8 Tryd.underlying49 hi0 hz0 hz1 hz2 rfl (by omega) (.slice (some ⟨w'.heap.size, 0, none⟩) 0 0) 0 [] (by rfl) ((hO1.out.alloc (.cells #[.int .i64 tx] 3)).drew) ⟨w'.heap.size + 1, 0, none⟩ 1 1 [.int .i64 tx] (by rfl) (by rfl) (World.news_of_block (cs := #[.int .i64 tx]) (t := 3) (fr := (0, 0)) hN2.out) (by simp [Value.oneCell']) (by omega) (by unfold maxLen; omega) (by omega) (by simp <;> omega) (w'.heap.size + 1 + 1) (by simp) ?_
         intro g2 cap2 w2 hown2 hgrow2 hat2 hlt2
         have hBB2 : Below w'.heap.size w' w2 := (((((Below.refl _ w').alloc (Nat.le_refl _) _).alloc (by simp) _).drew)).grown hgrow2 (by simp <;> omega) (fun k e => by cases e; simp)
         have fR2 : w2.frozen? ⟨r, j, none⟩ = false := (hBB2.frozen (p := ⟨r, j, none⟩) hr).trans fv
         have cR2 : w2.cell? ⟨r, j, none⟩ = some (.slice none 0 0) := (hBB2.cell (p := ⟨r, j, none⟩) hr).trans cv)
      | (refine step_append_lies _ (by rfl) _ _ _ (by rfl) w'.heap.size 3 i0 _ 1 8 Tryd.underlying49 hi0 hz0 hz1 hz2 rfl (by omega) (.slice (some ⟨w'.heap.size + 1, 0, none⟩) 0 0) 0 [] (by rfl) (by have := hO3.out.drew; rw [World.size_alloc] at this; exact this) ⟨w'.heap.size, 0, none⟩ 1 1 [.int .i64 tx] (by rfl) (by rfl) (World.news_of_block (cs := #[.int .i64 tx]) (t := 3) (fr := (0, 0)) hN3.out) (by simp [Value.oneCell']) (by omega) (by unfold maxLen; omega) (by omega) (by simp <;> omega) (w'.heap.size + 1 + 1) (by simp) ?_
         intro g2 cap2 w2 hown2 hgrow2 hat2 hlt2
         have hBB2 : Below w'.heap.size w' w2 := (((((Below.refl _ w').alloc (Nat.le_refl _) _).alloc (by simp) _).drew)).grown hgrow2 (by simp <;> omega) (fun k e => by cases e; simp)
         have fR2 : w2.frozen? ⟨r, j, none⟩ = false := (hBB2.frozen (p := ⟨r, j, none⟩) hr).trans fv
         have cR2 : w2.cell? ⟨r, j, none⟩ = some (.slice none 0 0) := (hBB2.cell (p := ⟨r, j, none⟩) hr).trans cv)
      | fail)
  all_goals
    have HF := hid (HR.out.put (k := j) (l := [tx]) hj hBB2 hbase (by simpa [intsV] using hown2) (by simp))
    clear hown2 hgrow2 hat2 hBB2 fR2 cR2 cv fv
    go_wp2
    go_ret2
    exact ⟨rfl, _, HF.out⟩

end Go.Proofs.YtjefgmeejhakbaaDoor
