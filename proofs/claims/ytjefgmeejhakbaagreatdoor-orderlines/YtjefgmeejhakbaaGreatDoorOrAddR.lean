/- (*writers).add. -/
import Derived.Test.YtjefgmeejhakbaaGreatDoorOrKeysR
namespace Go.Proofs.YtjefgmeejhakbaaGreatDoor
open Go.RowKit
theorem firstV_known {s : List Int} {x : Int} {i : Nat} (h : firstAt x s = some i) : firstV (s ++ [x]) = firstV s := by
  funext y
  unfold firstV
  rw [firstAt_append]
  cases hy : firstAt y s with
  | some j => rfl
  | none =>
    have : x ≠ y := fun e => by subst e; rw [h] at hy; cases hy
    simp [this]
theorem firstV_new {s : List Int} {x : Int} (h : firstAt x s = none) : firstV (s ++ [x]) = updT (firstV s) x (some (.int .i64 (s.length : Nat))) := by
  funext y
  by_cases e : y = x
  · subst e
    rw [updT_same]
    unfold firstV
    rw [firstAt_append, h]
    simp
  · rw [updT_other _ _ e]
    unfold firstV
    rw [firstAt_append]
    cases hy : firstAt y s with
    | some j => rfl
    | none => simp [show x ≠ y from fun e2 => e e2.symm]
theorem updN_id {α : Type} {f : Nat → α} {k : Nat} {v : α} (h : f k = v) : updN f k v = f := by
  funext j
  by_cases e : j = k
  · subst e; rw [updN_same, h]
  · rw [updN_other _ _ e]
theorem firstV_nil : firstV [] = fun _ => none := by funext y; rfl
section
variable {w wz w4 : World} {K : Nat} {av : Nat → Value} {mv : Nat → Option Nat} {S : Nat → List Int} {k b : Nat} {x : Int} {a : Value}
structure AddMid (w wz : World) (K : Nat) (av : Nat → Value) (mv : Nat → Option Nat) (S : Nat → List Int) (k b : Nat) (x : Int) : Prop where
  blk : wz.heap[K]? = some (.cells (keyCells av (updN mv k (some b))) 133 (0, 0))
  keep : ∀ c, c < w.heap.size → c ≠ K → mv k ≠ some c → wz.heap[c]? = w.heap[c]?
  size : w.heap.size ≤ wz.heap.size
  oses : wz.os = w.os ∧ wz.tape = w.tape ∧ wz.output = w.output
  map : IMap wz b (S k ++ [x]).length (firstV (S k ++ [x]))
  old : mv k = some b ∨ w.heap.size ≤ b
theorem AddMid.row (m : AddMid w wz K av mv S k b x) (h : KeysAt w K av mv S) (hk : k < 10) : wz.ownsRow 0 3 1 (av k) (S k).length (intsV (S k)) :=
  owns_same (h.row k hk) (fun g e => m.keep g ((h.row k hk).lt g e).2 (fun e2 => h.rowNe hk (e2 ▸ e)) (h.mapRow hk hk e))
theorem AddMid.c0 (m : AddMid w wz K av mv S k b x) (hk : k < 10) : wz.cell? ⟨K, k * 2, none⟩ = some (av k) := (cell_of_row wz K (k * 2) _ _ (0, 0) m.blk).trans (keyCells_even av _ hk)
theorem AddMid.app (m : AddMid w wz K av mv S k b x) (h : KeysAt w K av mv S) (hk : k < 10) {r : Option Nat} (hr : r = (av k).ownBlock) (hg : (wz.alloc (.cells #[.int .i64 x] 3)).grownBy w4 r) :
    w4.heap[K]? = some (.cells (keyCells av (updN mv k (some b))) 133 (0, 0)) ∧ w4.cell? ⟨K, k * 2, none⟩ = some (av k) ∧ w4.frozen? ⟨K, k * 2, none⟩ = false := by
  subst hr
  have hK : K < wz.heap.size := (Array.getElem?_eq_some_iff.1 m.blk).1
  have h1 : w4.heap[K]? = some (.cells (keyCells av (updN mv k (some b))) 133 (0, 0)) :=
    (hg.block K (by simp; omega) (fun e => h.rowNe hk e.symm)).trans ((Below.heap_alloc _ _ K hK).trans m.blk)
  exact ⟨h1, (cell_of_row w4 K (k * 2) _ _ (0, 0) h1).trans (keyCells_even av _ hk), by simp [World.frozen?, h1]⟩
theorem AddMid.done (m : AddMid w wz K av mv S k b x) (h : KeysAt w K av mv S) (hk : k < 10) {r : Option Nat} (hr : r = (av k).ownBlock) (hg : (wz.alloc (.cells #[.int .i64 x] 3)).grownBy w4 r)
    (ho : w4.ownsRow 0 3 1 a (S k ++ [x]).length (intsV (S k ++ [x]))) (ha : ∀ g, a.ownBlock = some g → (av k).ownBlock = some g ∨ w.heap.size ≤ g) :
    KeysAt (w4.setCell ⟨K, k * 2, none⟩ a) K (updN av k a) (updN mv k (some b)) (updN S k (S k ++ [x])) ∧ KeptO (keysOwn K av mv) (keysOwn K (updN av k a) (updN mv k (some b))) w (w4.setCell ⟨K, k * 2, none⟩ a) := by
  subst hr
  obtain ⟨h1, _, _⟩ := m.app h hk rfl hg
  have hgs := hg.size
  have hsz : wz.heap.size ≤ w4.heap.size := by simp at hgs; omega
  have hne : ∀ g, a.ownBlock = some g → g ≠ K := fun g e e2 => by
    rcases ha g e with e3 | e3
    · exact h.rowNe hk (e2 ▸ e3)
    · have := h.lt; omega
  have hbz : b < wz.heap.size := m.map.lt
  have hbK : b ≠ K := m.map.ne m.blk
  have hbr : (av k).ownBlock ≠ some b := fun e => by
    rcases m.row h hk with ⟨_, ⟨e2, _⟩ | ⟨g', cap, cur, e2, _, hc, _⟩⟩
    · rw [e2] at e; cases e
    · rw [e2] at e; cases e; exact m.map.ne hc rfl
  refine h.turn hk ?_ (owns_same ho (fun g e => heap_setCell_other w4 ⟨K, k * 2, none⟩ g a (hne g e))) (.inr ⟨b, rfl, ?_⟩) ⟨fun e => (by cases e), fun e => (by simp at e)⟩ ?_ (by simp; have := m.size; omega) ⟨hg.os.trans m.oses.1, hg.tape.trans m.oses.2.1, hg.output.trans m.oses.2.2⟩ ha (fun c e => (by cases e; exact m.old))
  · rw [← keyCells_setA]
    exact heap_setCell_same w4 K (k * 2) _ _ a h1
  · refine m.map.same ?_
    exact (heap_setCell_other w4 ⟨K, k * 2, none⟩ b a hbK).trans ((hg.block b (by simp; omega) (fun e => hbr e.symm)).trans (Below.heap_alloc _ _ b hbz))
  · intro c hc hcK hcr hcm
    have hcz : c < wz.heap.size := Nat.lt_of_lt_of_le hc m.size
    exact (heap_setCell_other w4 ⟨K, k * 2, none⟩ c a hcK).trans ((hg.block c (by simp; omega) (fun e => hcr e.symm)).trans ((Below.heap_alloc _ _ c hcz).trans (m.keep c hc hcK hcm)))
end
set_option maxRecDepth 100000 in
set_option maxHeartbeats 1000000 in
theorem add_same (K k : Nat) (av : Nat → Value) (mv : Nat → Option Nat) (S : Nat → List Int) (x : Int) (w : World) (h : KeysAt w K av mv S) (hk : k < 10) (hn : (S k).length ≤ 100000) (hl : (S k).getLast? = some x) :
    Calls Tryz.prog 122 #[.pointer (some ⟨K, k * 2, none⟩), .int .i64 x] w fun e w' => e = .returned (.tuple #[]) ∧ w' = w := by
  have hne : S k ≠ [] := fun e => by rw [e] at hl; cases hl
  have hpos : 0 < (S k).length := List.length_pos_iff.2 hne
  obtain ⟨n, hnn⟩ : ∃ n, (S k).length = n + 1 := ⟨(S k).length - 1, by omega⟩
  have c0 := h.c0 hk
  rcases row_slice (h.row k hk) with ⟨_, e0⟩ | ⟨g, cap, e, _, hc⟩
  · omega
  · have cl := hc n (.int .i64 x) (intsV_get (by rw [List.getLast?_eq_getElem?, hnn] at hl; exact hl))
    rw [e, hnn] at c0
    clear h hc hl e
    go_enter Tryz.func122, Tryz.ntmps122
    go_wp2
    refine bodyPost_ret (results_none rfl _ _ _) rfl ?_
    exact ⟨rfl, rfl⟩
set_option maxRecDepth 100000 in
set_option maxHeartbeats 400000 in
theorem add_old (K k b : Nat) (av : Nat → Value) (mv : Nat → Option Nat) (S : Nat → List Int) (x : Int) (w : World) (h : KeysAt w K av mv S) (hk : k < 10) (hn : (S k).length ≤ 100000) (hx : I64 x) (hl : (S k).getLast? ≠ some x) (hb : mv k = some b) :
    Calls Tryz.prog 122 #[.pointer (some ⟨K, k * 2, none⟩), .int .i64 x] w fun e w' => e = .returned (.tuple #[]) ∧ ∃ av' mv', KeysAt w' K av' mv' (updN S k (S k ++ [x])) ∧ KeptO (keysOwn K av mv) (keysOwn K av' mv') w w' := by
  obtain ⟨i0, hi0, hz0, hz1, hz2⟩ := info_parts info3
  have hne : S k ≠ [] := fun e => by rw [(h.nil k hk).2 e] at hb; cases hb
  have hpos : 0 < (S k).length := List.length_pos_iff.2 hne
  obtain ⟨n, hnn⟩ : ∃ n, (S k).length = n + 1 := ⟨(S k).length - 1, by omega⟩
  have c0 := h.c0 hk
  have c1 := h.c1 hk
  have he := eqlSome b
  have hI : IMap w b (S k).length (firstV (S k)) := MapIs.at (hb ▸ h.map k hk)
  have hlk := hI.look Tryz.underlying69 (zeroI w) hx
  obtain ⟨y, hy⟩ : ∃ y, (S k)[n]? = some y := ⟨(S k)[n], List.getElem?_eq_getElem (by omega)⟩
  have hyx : (y == x) = false := by
    rw [List.getLast?_eq_getElem?, hnn, Nat.add_sub_cancel, hy] at hl
    simpa using hl
  rw [hb] at c1
  rcases row_slice (h.row k hk) with ⟨_, e0⟩ | ⟨g, cap, e, _, hc⟩
  · omega
  · have cl := hc n (.int .i64 y) (intsV_get hy)
    have HE := hid e
    rw [e, hnn] at c0
    have HH := hid h
    have HN := hid hnn
    cases hf : firstAt x (S k) with
    | some i =>
      have hlk2 : (Instr.lookup 69 (.map (some b)) (.int .i64 x) true).run Tryz.prog w = .ok (.tuple #[.int .i64 (i : Nat), .bool true]) w := by rw [hlk]; simp [firstV, hf]
      have hm : AddMid w w K av mv S k b x := ⟨by rw [updN_id hb]; exact h.blk, fun _ _ _ _ => rfl, Nat.le_refl _, ⟨rfl, rfl, rfl⟩, by rw [firstV_known hf]; exact hI.mono (by simp), .inl hb⟩
      have HM := hid hm
      have hro := hm.row h hk
      rw [e, hnn] at hro
      have HRow := hid hro
      have hn2 : n ≤ 100000 := by omega
      clear h hc hl hlk hI hm hy hf e hro hnn hpos hn hne
      go_enter Tryz.func122, Tryz.ntmps122
      go_wp2_with (at_builtin; refine wpList_append_lies _ rfl _ _ _ rfl 0 3 i0 _ 1 8 Tryz.underlying29 hi0 hz0 hz1 hz2 rfl (by omega) (.slice (some ⟨g, 0, none⟩) (n + 1) cap) (n + 1) (intsV (S k)) rfl (HRow.out.alloc _) ⟨w.heap.size, 0, none⟩ 1 1 [.int .i64 x] rfl rfl (World.news_of_block (cs := #[.int .i64 x]) (t := 3) (fr := (0, 0)) (heap_alloc_new w _)) (by simp [Value.oneCell']) (by omega) (by unfold maxLen; omega) (by omega) (by simp) (w.heap.size + 1) (by simp) ?_; intro g4 cap4 w4 ho4 hgrow4 hat4 hlt4; have hap := HM.out.app HH.out hk (by rw [HE.out]; rfl) hgrow4; have ca := hap.2.1; have fa := hap.2.2; rw [HE.out, HN.out] at ca; clear hap)
      refine bodyPost_end (results_none rfl _ _ _) rfl ?_
      have hms := HM.out.size
      have hd := HM.out.done HH.out hk (by rw [HE.out]; rfl) hgrow4 (a := .slice (some ⟨g4, 0, none⟩) (n + 1 + 1) cap4) (by rw [List.length_append, HN.out, intsV_append]; exact ho4) (fun g' e => (by
        cases e
        rcases hat4 with e | e
        · exact .inl (by rw [HE.out]; exact e)
        · exact .inr (by show w.heap.size ≤ g4; omega)))
      exact ⟨rfl, _, _, hd⟩
    | none =>
      have hlk2 : (Instr.lookup 69 (.map (some b)) (.int .i64 x) true).run Tryz.prog w = .ok (.tuple #[.int .i64 0, .bool false]) w := by rw [hlk]; simp [firstV, hf]
      obtain ⟨w1, hrun, hI1, hg1⟩ := hI.store Tryz.underlying69 (by unfold maxLen; omega) hx (.int .i64 ((S k).length : Nat))
      have hkp : ∀ c, c < w.heap.size → c ≠ b → w1.heap[c]? = w.heap[c]? := fun c hc hne => hg1.block c hc (fun e => hne (by cases e; rfl))
      have hm : AddMid w w1 K av mv S k b x := ⟨by
          rw [updN_id hb]; exact (hkp K h.lt (fun e => h.mapNe hk (by rw [hb, e]))).trans h.blk,
        fun c hc _ hcm => hkp c hc (fun e => hcm (by rw [hb, e])), hg1.size, ⟨hg1.os, hg1.tape, hg1.output⟩, by rw [firstV_new hf]; exact hI1.mono (by simp), .inl hb⟩
      have c01 := hm.c0 hk
      rw [e, hnn] at c01
      rw [hnn] at hrun
      have hrun2 : (Instr.mapUpdate 69 (.map (some b)) (.int .i64 x) (.int .i64 ((n : Int) + 1))).run Tryz.prog w = .ok () w1 := hrun
      have HM := hid hm
      have hro := hm.row h hk
      rw [e, hnn] at hro
      have HRow := hid hro
      have hn2 : n ≤ 100000 := by omega
      clear h hc hl hlk hI hm hy hf e hro hnn hpos hn hne hI1 hg1 hkp hrun
      go_enter Tryz.func122, Tryz.ntmps122
      go_wp2_with (at_builtin; refine wpList_append_lies _ rfl _ _ _ rfl 0 3 i0 _ 1 8 Tryz.underlying29 hi0 hz0 hz1 hz2 rfl (by omega) (.slice (some ⟨g, 0, none⟩) (n + 1) cap) (n + 1) (intsV (S k)) rfl (HRow.out.alloc _) ⟨w1.heap.size, 0, none⟩ 1 1 [.int .i64 x] rfl rfl (World.news_of_block (cs := #[.int .i64 x]) (t := 3) (fr := (0, 0)) (heap_alloc_new w1 _)) (by simp [Value.oneCell']) (by omega) (by unfold maxLen; omega) (by omega) (by simp) (w1.heap.size + 1) (by simp) ?_; intro g4 cap4 w4 ho4 hgrow4 hat4 hlt4; have hap := HM.out.app HH.out hk (by rw [HE.out]; rfl) hgrow4; have ca := hap.2.1; have fa := hap.2.2; rw [HE.out, HN.out] at ca; clear hap)
      refine bodyPost_end (results_none rfl _ _ _) rfl ?_
      have hms := HM.out.size
      have hd := HM.out.done HH.out hk (by rw [HE.out]; rfl) hgrow4 (a := .slice (some ⟨g4, 0, none⟩) (n + 1 + 1) cap4) (by rw [List.length_append, HN.out, intsV_append]; exact ho4) (fun g' e => (by
        cases e
        rcases hat4 with e | e
        · exact .inl (by rw [HE.out]; exact e)
        · exact .inr (by show w.heap.size ≤ g4; omega)))
      exact ⟨rfl, _, _, hd⟩
set_option maxRecDepth 100000 in
set_option maxHeartbeats 400000 in
theorem add_new (K k : Nat) (av : Nat → Value) (mv : Nat → Option Nat) (S : Nat → List Int) (x : Int) (w : World) (h : KeysAt w K av mv S) (hk : k < 10) (hx : I64 x) (hb : mv k = none) :
    Calls Tryz.prog 122 #[.pointer (some ⟨K, k * 2, none⟩), .int .i64 x] w fun e w' => e = .returned (.tuple #[]) ∧ ∃ av' mv', KeysAt w' K av' mv' (updN S k (S k ++ [x])) ∧ KeptO (keysOwn K av mv) (keysOwn K av' mv') w w' := by
  obtain ⟨i0, hi0, hz0, hz1, hz2⟩ := info_parts info3
  have hS : S k = [] := (h.nil k hk).1 hb
  have c0 := h.c0 hk
  have c1 := h.c1 hk
  have f1 := h.free (k * 2 + 1)
  have he := eqlNil
  rw [hb] at c1
  obtain ⟨ad, cap, e⟩ := row_form (h.row k hk)
  rw [hS] at e
  simp only [List.length_nil] at e
  rw [e] at c0
  have HE := hid e
  have HS := hid hS
  have HH := hid h
  have hK := h.lt
  have hbn : (w.setCell ⟨K, k * 2 + 1, none⟩ (.map (some w.heap.size))).heap.size = w.heap.size := by simp
  have hI := IMap.made (w.setCell ⟨K, k * 2 + 1, none⟩ (.map (some w.heap.size)))
  rw [hbn] at hI
  have hlk := hI.look Tryz.underlying69 (zeroI _) hx
  simp only [Option.getD_none, Option.isSome_none] at hlk
  obtain ⟨w1, hrun, hI1, hg1⟩ := hI.store Tryz.underlying69 (by unfold maxLen; omega) hx (.int .i64 0)
  have hkp : ∀ c, c < w.heap.size → c ≠ K → w1.heap[c]? = w.heap[c]? := fun c hc hne =>
    (hg1.block c (by simp; omega) (fun e => by cases e; omega)).trans ((Below.heap_alloc _ _ c (by simpa using hc)).trans (heap_setCell_other w ⟨K, k * 2 + 1, none⟩ c _ hne))
  have hmb : w1.heap[K]? = some (.cells (keyCells av (updN mv k (some w.heap.size))) 133 (0, 0)) := by
    refine (hg1.block K (by simp; omega) (fun e => by cases e; omega)).trans ((Below.heap_alloc _ _ K (by simpa using hK)).trans ((heap_setCell_same w K (k * 2 + 1) _ 133 _ h.blk).trans ?_))
    rw [keyCells_setM]
  have hfn : firstV (S k ++ [x]) = updT (fun _ => none) x (some (.int .i64 0)) := by
    rw [firstV_new (by rw [hS]; rfl), hS, firstV_nil]; rfl
  have hg1s := hg1.size
  have hm : AddMid w w1 K av mv S k w.heap.size x := ⟨hmb, fun c hc hcK _ => hkp c hc hcK, by simp at hg1s; omega, ⟨hg1.os, hg1.tape, hg1.output⟩, by rw [hfn]; exact hI1.mono (by simp), .inr (Nat.le_refl _)⟩
  have c01 := hm.c0 hk
  rw [e] at c01
  have HM := hid hm
  have hro := hm.row h hk
  rw [e, hS] at hro
  have HRow := hid hro
  have hmm := @run_makeMap Tryz.prog
  clear h hI hm e hro hI1 hg1 hkp hmb hfn hS
  go_enter Tryz.func122, Tryz.ntmps122
  go_wp2_with (at_builtin; refine wpList_append_lies _ rfl _ _ _ rfl 0 3 i0 _ 1 8 Tryz.underlying29 hi0 hz0 hz1 hz2 rfl (by omega) (.slice ad 0 cap) 0 (intsV []) rfl (HRow.out.alloc _) ⟨w1.heap.size, 0, none⟩ 1 1 [.int .i64 x] rfl rfl (World.news_of_block (cs := #[.int .i64 x]) (t := 3) (fr := (0, 0)) (heap_alloc_new w1 _)) (by simp [Value.oneCell']) (by omega) (by unfold maxLen; omega) (by omega) (by simp) (w1.heap.size + 1) (by simp) ?_; intro g4 cap4 w4 ho4 hgrow4 hat4 hlt4; have hap := HM.out.app HH.out hk (by rw [HE.out]) hgrow4; have ca := hap.2.1; have fa := hap.2.2; rw [HE.out] at ca; clear hap)
  refine bodyPost_end (results_none rfl _ _ _) rfl ?_
  have hms := HM.out.size
  have hd := HM.out.done HH.out hk (by rw [HE.out]) hgrow4 (a := .slice (some ⟨g4, 0, none⟩) (0 + 1) cap4) (by rw [HS.out]; exact ho4) (fun g' e => (by
    cases e
    rcases hat4 with e | e
    · exact .inl (by rw [HE.out]; exact e)
    · exact .inr (by show w.heap.size ≤ g4; omega)))
  exact ⟨rfl, _, _, hd⟩
theorem add_any (K k : Nat) (av : Nat → Value) (mv : Nat → Option Nat) (S : Nat → List Int) (x : Int) (w : World) (h : KeysAt w K av mv S) (hk : k < 10) (hn : (S k).length ≤ 100000) (hx : I64 x) :
    Calls Tryz.prog 122 #[.pointer (some ⟨K, k * 2, none⟩), .int .i64 x] w fun e w' => e = .returned (.tuple #[]) ∧ ∃ av' mv', KeysAt w' K av' mv' (updN S k (wAdd (S k) x)) ∧ KeptO (keysOwn K av mv) (keysOwn K av' mv') w w' := by
  unfold wAdd
  by_cases hl : (S k).getLast? = some x
  · rw [if_pos hl]
    refine (add_same K k av mv S x w h hk hn hl).mono ?_
    rintro e w' ⟨rfl, rfl⟩
    exact ⟨rfl, av, mv, by rw [updN_id rfl]; exact h, KeptO.refl _ _⟩
  · rw [if_neg hl]
    cases hb : mv k with
    | none => exact add_new K k av mv S x w h hk hx hb
    | some b => exact add_old K k b av mv S x w h hk hn hx hl hb
end Go.Proofs.YtjefgmeejhakbaaGreatDoor
