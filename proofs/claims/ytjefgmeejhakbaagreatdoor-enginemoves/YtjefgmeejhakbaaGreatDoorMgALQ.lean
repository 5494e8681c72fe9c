/- EnNew EnSweep EnBegin EnAdd: put together for a claim. -/
import Derived.Test.YtjefgmeejhakbaaGreatDoorMgAKQ
/- engine.New, Sweep. -/
namespace Go.Proofs.YtjefgmeejhakbaaGreatDoor
open Go.RowKit
variable {w w' : World} {L : EnL} {E : Eng}
def eng0 : Eng := ⟨0, List.replicate 10 [], fun _ => [], [], fun _ => none, [], 0⟩
def enL0 (s wb : Nat) : EnL := ⟨s, List.replicate 10 (.slice none 0 0), noM, .slice none 0 0, wb, .slice none 0 0, []⟩
def enCells0 (wb : Nat) : Array Value := #[.int .i64 0, .slice none 0 0, .slice none 0 0, .slice none 0 0, .slice none 0 0, .slice none 0 0, .slice none 0 0, .slice none 0 0, .slice none 0 0, .slice none 0 0, .slice none 0 0, .map none, .map none, .map none, .slice none 0 0, .map (some wb), .slice none 0 0]
theorem good0 : Good (fun _ => []) := ⟨⟨fun _ h => (h rfl).elim, fun _ _ h => (by cases h), fun _ => List.Pairwise.nil, fun _ _ _ h => (by cases h)⟩, fun _ => 0, fun _ _ h => (by cases h)⟩
theorem enAt0 {s wb : Nat} (hs : w.heap[s]? = some (.cells (enCells0 wb) 162 (0, 0))) (hI : IMap w wb 0 (fun _ => none)) : EnAt w (enL0 s wb) eng0 := by
  have hne : wb ≠ s := hI.ne hs
  have hrep : ∀ {k : Nat} {v : Value}, (List.replicate 10 (Value.slice none 0 0))[k]? = some v → v = .slice none 0 0 := fun {k v} h => by
    rw [List.getElem?_replicate] at h
    split at h
    · injection h with h; exact h.symm
    · cases h
  refine ⟨⟨hs, rfl, rfl, fun k v l hv hl => ?_, fun i j v u g hv _ hg _ => ?_, Nat.lt_succ_self _⟩, ⟨_, _, _, Raw.zero (C := (enL0 s wb).C 0) hs |>.mono (Nat.zero_le _), ?_⟩, good0, fun k x h => (by cases h), ?_, rfl, by decide, hI, ?_, fun i h => (by cases h), fun i l t hl _ => (by cases hl), ⟨fun g => if g = s then .eng else .wr, ?_⟩⟩
  · rw [hrep hv]
    have : l = [] := by
      rw [show eng0.ks = List.replicate 10 [] from rfl, List.getElem?_replicate] at hl
      split at hl
      · injection hl with hl; exact hl.symm
      · cases hl
    subst this
    show w.ownsRow (s + 1) 199 2 (.slice none 0 0) 0 []
    exact World.ownsRow_nil w (s + 1) 199 2
  · rw [hrep hv] at hg; cases hg
  · exact ⟨fun _ => rfl, fun x => by
      have : waitsP (fun _ => []) x = -1 := (waits_none_iff good0.tidy).2 (fun k h => by cases h)
      exact ⟨this.symm, fun _ => this, fun _ => rfl⟩, fun _ => rfl⟩
  · simpa [enL0, EnL.bs] using World.ownsRow_nil w 0 179 1
  · simpa [enL0, EnL.bs, eng0] using World.ownsRow_nil w 0 179 1
  · refine ⟨by simp [enL0], fun g hg => ?_, fun g hg hn => ?_, fun g hg => (by cases hg), by simp [enL0, hne], fun g hg => (by cases hg), fun i l g hl _ => (by cases hl)⟩
    · obtain ⟨v, hv, hg⟩ := hg
      rw [List.eq_of_mem_replicate hv] at hg
      cases hg
    · rcases hg with h1 | h1 | h1 | h1 | ⟨_, _, h1, _⟩
      · exact (hn h1).elim
      · cases h1
      · cases h1
      · cases h1
      · cases h1
set_option maxRecDepth 100000 in
set_option maxHeartbeats 1000000 in
theorem new_any (w : World) : Calls Tryz.prog 19 #[] w fun e w' => ∃ L, e = .returned (.pointer (some ⟨L.s, 0, none⟩)) ∧ EnAt w' L eng0 ∧ Below w.heap.size w w' ∧ ∀ g, L.own g → w.heap.size ≤ g := by
  have hI := IMap.made w
  have h2 : ((w.alloc (.map #[] 0)).alloc (.cells (enCells0 w.heap.size) 162)).heap[w.heap.size + 1]? = some (.cells (enCells0 w.heap.size) 162 (0, 0)) := by
    have := heap_alloc_new (w.alloc (.map #[] 0)) (.cells (enCells0 w.heap.size) 162)
    rwa [World.size_alloc] at this
  have HE := hid (enAt0 h2 (hI.same (Below.heap_alloc _ _ w.heap.size (by simp))))
  have HB := hid (show Below w.heap.size w ((w.alloc (.map #[] 0)).alloc (.cells (enCells0 w.heap.size) 162)) from ((Below.refl _ w).alloc (Nat.le_refl _) _).alloc (by simp) _)
  have hmm := @run_makeMap Tryz.prog
  clear hI h2
  go_enter Tryz.func19, Tryz.ntmps19
  go_wp2
  go_ret
  refine ⟨enL0 (w.heap.size + 1) w.heap.size, rfl, HE.out, HB.out, fun g hg => ?_⟩
  rcases hg with h1 | h1 | h1 | h1 | h1 | h1 | ⟨_, h1, _⟩
  · rw [h1]; exact Nat.le_succ _
  · obtain ⟨v, hv, hg⟩ := h1
    rw [List.eq_of_mem_replicate hv] at hg
    cases hg
  · rcases h1 with h1 | h1 | h1 | h1 | ⟨_, _, h1, _⟩
    · rw [h1]; exact Nat.le_succ _
    · cases h1
    · cases h1
    · cases h1
    · cases h1
  · cases h1
  · rw [h1]; exact Nat.le_refl _
  · cases h1
  · cases h1
end Go.Proofs.YtjefgmeejhakbaaGreatDoor

/- engine.Sweep. -/
namespace Go.Proofs.YtjefgmeejhakbaaGreatDoor
open Go.RowKit
variable {w w' : World} {L : EnL} {E : Eng}
def leastOf (E : Eng) (js : List Nat) (m : Int) : Int := js.foldl (fun m j => match E.txs[j]? with
  | some t => if t.level ≠ 0 then min m t.start else m
  | none => m) m
def liveOnes (E : Eng) : List Nat := thoseP E (fun _ t => liveB t.state)
def leastE (E : Eng) : Int := leastOf E (liveOnes E) E.last
def sweepE (E : Eng) : Eng := { E with ks := E.ks.map (sweepL (leastE E)) }
set_option maxRecDepth 100000 in
set_option maxHeartbeats 2000000 in
theorem sweepE_any (h : EnAt w L E) (hf : Fits E) :
    Calls Tryz.prog 82 #[.pointer (some ⟨L.s, 0, none⟩)] w fun e w' => e = .returned (.int .i64 (sweepN (leastE E) E.ks : Nat)) ∧ EnPost L (sweepE E) w w' := by
  have HL := hid (last_any _ _ _ _ _ w h.sto)
  have HT := hid (those_lives h (fun _ t => liveB t.state) (fun W hW i l t hl ht => (lives_any l.b t.state W ((h.below hW).txs i l t hl ht).c3).mono (fun e w' hh => ⟨hh.1, 0, hh.2⟩)))
  have hjl : (liveOnes E).length ≤ 200 := by
    have := thoseN_len E (fun _ t => liveB t.state) E.txs.length
    rw [thoseN_all] at this
    have := h.le
    unfold liveOnes
    omega
  have HJ := hid (show ∀ j ∈ liveOnes E, ∃ t, E.txs[j]? = some t from fun j hj => by
    obtain ⟨t, ht, _⟩ := mem_thoseP hj
    exact ⟨t, ht⟩)
  have HSW := hid (fun W (hB : Below w.heap.size w W) t => sweep_any _ _ _ t _ _ W (h.below hB).sto (by have := (h.below hB).sto.lt; omega) (fun l hl => Nat.le_trans (hf.len l hl) (by omega)))
  have HH := hid h
  unfold sweepE leastE
  rw [show thoseP E (fun _ t => liveB t.state) = liveOnes E from rfl] at HT
  obtain ⟨js, hjs⟩ : ∃ js, liveOnes E = js := ⟨_, rfl⟩
  rw [hjs] at HT hjl HJ ⊢
  obtain ⟨lz, hlz⟩ : ∃ lz, E.last = lz := ⟨_, rfl⟩
  rw [hlz] at HL ⊢
  have HLZ := hid hlz
  clear h hf hjs hlz
  go_enter Tryz.func82, Tryz.ntmps82
  go_wp2_with fail
  refine HL.out.mono ?_
  rintro e w1 ⟨rfl, hw1⟩
  rw [hw1]
  clear hw1 w1
  go_wp2_with fail
  refine HT.out.mono ?_
  rintro e w1 ⟨v, rfl, ho, hB1⟩
  obtain ⟨ad, cap, rfl⟩ := row_form ho
  have hadg : Hid (∀ j x, js[j]? = some x → ∃ g, ad = some ⟨g, 0, none⟩ ∧ w1.cell? ⟨g, j, none⟩ = some (.pointer (some ⟨L.bs[x]?.getD 0, 0, none⟩))) := fun j x hx => by
    rcases row_slice ho with ⟨e1, e2⟩ | ⟨g, cap', e1, hg, hc⟩
    · have := (List.getElem?_eq_some_iff.1 hx).1; omega
    · injection e1 with e1
      exact ⟨g, e1, hc j _ (show (L.ptrs js)[j]? = some (ptrV (L.bs[x]?.getD 0)) from by simp [EnL.ptrs, hx])⟩
  have HB1 := hid hB1
  have HE1 := hid (HH.out.below hB1)
  clear ho hB1 HT
  go_wp2
  go_loop [3, 13] (fun mv iv => ∃ (j : Nat) (m : Int), j ≤ js.length ∧ iv = .int .i64 j ∧ mv = .int .i64 m ∧ leastOf E (js.drop j) m = leastOf E js lz) (fun _ iv => js.length - (intOf iv).toNat)
  case atStart => exact ⟨0, lz, by omega, rfl, rfl, by simp⟩
  case round =>
    obtain ⟨j, m, hj, rfl, rfl, hrest⟩ := hrel
    by_cases hlt : j < js.length
    · obtain ⟨x, hx⟩ : ∃ x, js[j]? = some x := ⟨js[j], List.getElem?_eq_getElem hlt⟩
      obtain ⟨g, rfl, hgc⟩ := hadg.out j x hx
      obtain ⟨t, ht⟩ := HJ.out x (List.mem_of_getElem? hx)
      obtain ⟨l, hl, hA⟩ := HE1.out.get ht
      rw [bs_get hl] at hgc
      simp only [Option.getD_some] at hgc
      have c1 := hA.c1
      have c2 := hA.c2
      have hdrop : js.drop j = x :: js.drop (j + 1) := by
        rw [List.drop_eq_getElem_cons hlt]
        congr 1
        rw [List.getElem?_eq_getElem hlt] at hx
        injection hx
      rw [hdrop] at hrest
      have hstep : leastOf E (x :: js.drop (j + 1)) m = leastOf E (js.drop (j + 1)) (if t.level ≠ 0 then min m t.start else m) := by
        unfold leastOf
        rw [List.foldl_cons, ht]
      rw [hstep] at hrest
      obtain ⟨lv, hlv⟩ : ∃ lv, t.level = lv := ⟨_, rfl⟩
      obtain ⟨st, hst⟩ : ∃ st, t.start = st := ⟨_, rfl⟩
      rw [hlv] at c1 hrest
      rw [hst] at c2 hrest
      have hj0 : (0 : Int) ≤ (j : Int) := by omega
      have hj1 : (j : Int) < (js.length : Int) := by omega
      by_cases h0 : lv = 0
      · subst h0
        rw [if_neg (by simp)] at hrest
        have HR := hid hrest
        clear hx ht hl hA hdrop hrest hstep hlv hst
        go_wp2
        go_round
        case rel => exact ⟨j + 1, m, by omega, by go_num, rfl, HR.out⟩
        case measure => simp [intOf]; omega
      · have g0 : (lv != 0) = true := by simpa using h0
        rw [if_pos h0] at hrest
        have HR := hid hrest
        clear hx ht hl hA hdrop hrest hstep hlv hst h0
        go_wp2
        go_round
        case rel => exact ⟨j + 1, min m st, by omega, by go_num, rfl, HR.out⟩
        case measure => simp [intOf]; omega
    · rw [List.drop_of_length_le (by omega)] at hrest
      have hfin : m = leastOf E js lz := by simpa [leastOf] using hrest
      have HF := hid hfin
      have HC := hid (HSW.out w1 HB1.out m)
      clear hrest hfin
      go_wp2_with fail
      refine HC.out.mono ?_
      rintro e w2 ⟨rfl, vs', hS, hK⟩
      obtain ⟨h3, k3⟩ := HE1.out.setSto hS hK
      have HP := hid (show EnPost L { E with ks := E.ks.map (sweepL m) } w w2 from ⟨_, h3, KeptO.below_l HB1.out k3, rfl, rfl⟩)
      clear hS hK h3 k3 HC
      go_wp2
      go_ret
      rw [← HF.out]
      exact ⟨rfl, by have := HP.out; rw [HLZ.out] at this; exact this⟩
end Go.Proofs.YtjefgmeejhakbaaGreatDoor

/- engine.newTransaction; one more transaction. -/
namespace Go.Proofs.YtjefgmeejhakbaaGreatDoor
open Go.RowKit
variable {w w' : World} {L : EnL} {E : Eng}
def newTx (level start : Int) : Tx := ⟨level, start, 0, 0, 0, 0, 0, fun _ => none, [], List.replicate 10 false, fun _ => false, fun _ => false⟩
def newL (B : Nat) : TxL := ⟨B + 3, B, .slice none 0 0, B + 1, B + 2⟩
def newCells (n level start : Int) (B : Nat) : Array Value := #[.int .i64 n, .int .i64 level, .int .i64 start, .int .i64 0, .int .i64 0, .int .i64 0, .int .i64 0, .int .i64 0, .map (some B), .slice none 0 0, .bool false, .bool false, .bool false, .bool false, .bool false, .bool false, .bool false, .bool false, .bool false, .bool false, .map (some (B + 1)), .map (some (B + 2))]
def newW (w : World) (n level start : Int) : World := (((w.alloc (.map #[] 0)).alloc (.map #[] 0)).alloc (.map #[] 0)).alloc (.cells (newCells n level start w.heap.size) 183)
theorem newW_at (w : World) (n level start : Int) : TxAt (newW w n level start) n (newL w.heap.size) (newTx level start) ∧ Below w.heap.size w (newW w n level start) := by
  have s1 : (w.alloc (.map #[] 0)).heap.size = w.heap.size + 1 := by simp
  have s2 : ((w.alloc (.map #[] 0)).alloc (.map #[] 0)).heap.size = w.heap.size + 2 := by simp
  have s3 : (((w.alloc (.map #[] 0)).alloc (.map #[] 0)).alloc (.map #[] 0)).heap.size = w.heap.size + 3 := by simp
  have m1 := IMap.made w
  have m2 := IMap.made (w.alloc (.map #[] 0))
  have m3 := IMap.made ((w.alloc (.map #[] 0)).alloc (.map #[] 0))
  rw [s1] at m2
  rw [s2] at m3
  have m1' : IMap (newW w n level start) w.heap.size 0 (fun _ => none) := m1.same (((Below.heap_alloc _ _ _ (by rw [s3]; omega)).trans (Below.heap_alloc _ _ _ (by rw [s2]; omega))).trans (Below.heap_alloc _ _ _ (by rw [s1]; omega)))
  have m2' : IMap (newW w n level start) (w.heap.size + 1) 0 (fun _ => none) := m2.same ((Below.heap_alloc _ _ _ (by rw [s3]; omega)).trans (Below.heap_alloc _ _ _ (by rw [s2]; omega)))
  have m3' : IMap (newW w n level start) (w.heap.size + 2) 0 (fun _ => none) := m3.same (Below.heap_alloc _ _ _ (by rw [s3]; omega))
  have hb := heap_alloc_new (((w.alloc (.map #[] 0)).alloc (.map #[] 0)).alloc (.map #[] 0)) (.cells (newCells n level start w.heap.size) 183)
  rw [s3] at hb
  refine ⟨⟨hb, m1'.mono (Nat.zero_le _), ?_, m2'.mono (Nat.zero_le _), m3'.mono (Nat.zero_le _), ?_, ?_, ?_, rfl, fun _ h => (h rfl).elim, fun _ h => (by cases h), fun _ h => (by cases h), ?_⟩, ?_⟩
  · exact World.ownsRow_nil _ 0 90 4
  · show w.heap.size ≠ w.heap.size + 1; omega
  · show w.heap.size ≠ w.heap.size + 2; omega
  · show w.heap.size + 1 ≠ w.heap.size + 2; omega
  · show (0 : Int) ≤ 0 ∧ (0 : Int) < 10; omega
  · exact ((((Below.refl _ w).alloc (Nat.le_refl _) _).alloc (by rw [s1]; omega) _).alloc (by rw [s2]; omega) _).alloc (by rw [s3]; omega) _
set_option maxRecDepth 100000 in
set_option maxHeartbeats 1000000 in
theorem newTx_any (w : World) (n level start : Int) :
    Calls Tryz.prog 110 #[.int .i64 n, .int .i64 level, .int .i64 start] w fun e w' => e = .returned (.pointer (some ⟨w.heap.size + 3, 0, none⟩)) ∧ w' = newW w n level start := by
  have hmm := @run_makeMap Tryz.prog
  go_enter Tryz.func110, Tryz.ntmps110
  go_wp2
  go_ret
  exact ⟨rfl, rfl⟩
end Go.Proofs.YtjefgmeejhakbaaGreatDoor

/- One more transaction. -/
namespace Go.Proofs.YtjefgmeejhakbaaGreatDoor
open Go.RowKit
variable {w w' : World} {L : EnL} {E : Eng}
theorem bs_snoc (L : EnL) (l : TxL) (v : Value) : ({ L with av := v, txs := L.txs ++ [l] } : EnL).bs = L.bs ++ [l.b] := by simp [EnL.bs]
theorem EnAt.addTx (h : EnAt w L E) {l : TxL} {t : Tx} {w2 : World} {gg cap m : Nat} (hm : L.txs.length = m) (hm2 : m < 200)
    (hown : w2.ownsRow 0 179 1 (.slice (some ⟨gg, 0, none⟩) (m + 1) cap) (m + 1) (L.bs.map ptrV ++ [.pointer (some ⟨l.b, 0, none⟩)]))
    (hT : TxAt w2 ((m : Int) + 1) l t) (hnew : ∀ g, l.own g → w.heap.size ≤ g) (hgl : ¬ l.own gg)
    (hos : w2.os = w.os ∧ w2.tape = w.tape ∧ w2.output = w.output) (hsz : w.heap.size ≤ w2.heap.size) (hb : ∀ g, g < w.heap.size → L.av.ownBlock ≠ some g → w2.heap[g]? = w.heap[g]?) (hat : L.av.ownBlock = some gg ∨ w.heap.size ≤ gg) :
    EnAt (w2.setCell ⟨L.s, 14, none⟩ (.slice (some ⟨gg, 0, none⟩) (m + 1) cap)) { L with av := .slice (some ⟨gg, 0, none⟩) (m + 1) cap, txs := L.txs ++ [l] } { E with txs := E.txs ++ [t] } ∧
      KeptO L.own ({ L with av := .slice (some ⟨gg, 0, none⟩) (m + 1) cap, txs := L.txs ++ [l] } : EnL).own w (w2.setCell ⟨L.s, 14, none⟩ (.slice (some ⟨gg, 0, none⟩) (m + 1) cap)) := by
  obtain ⟨ρ, T⟩ := h.tag
  have hsl := h.sto.lt
  have hlen := h.len
  have hcs : L.av.ownBlock ≠ some L.s := fun e => by have h1 := T.all _ e; rw [T.eng] at h1; cases h1
  have hgs : gg ≠ L.s := by
    rcases hat with h1 | h1
    · exact fun e => hcs (e ▸ h1)
    · omega
  have hblk := setCell_at (o := 14) (v := .slice (some ⟨gg, 0, none⟩) (m + 1) cap) ((hb L.s hsl hcs).trans h.sto.blk)
  rw [P_set14 L E.last h.lv] at hblk
  have ho : ∀ g, g ≠ L.s → (w2.setCell ⟨L.s, 14, none⟩ (.slice (some ⟨gg, 0, none⟩) (m + 1) cap)).heap[g]? = w2.heap[g]? := fun g hg => heap_setCell_other _ ⟨L.s, 14, none⟩ g _ hg
  have hk : ∀ g, L.own g → ρ g ≠ .eng → ρ g ≠ .all → (w2.setCell ⟨L.s, 14, none⟩ (.slice (some ⟨gg, 0, none⟩) (m + 1) cap)).heap[g]? = w.heap[g]? := fun g hg h1 h2 =>
    (ho g (fun e => h1 (by rw [e]; exact T.eng))).trans (hb g (h.own_lt hg) (fun e => h2 (T.all g e)))
  have hls : ∀ g, l.own g → g ≠ L.s := fun g hg e => by have := hnew g hg; omega
  have hgx : ∀ {g}, (Value.slice (some ⟨gg, 0, none⟩) (m + 1) cap).ownBlock = some g → gg = g := fun hg => by simpa [Value.ownBlock] using hg
  have hbs : ({ L with av := .slice (some ⟨gg, 0, none⟩) (m + 1) cap, txs := L.txs ++ [l] } : EnL).bs = L.bs ++ [l.b] := bs_snoc L l _
  refine ⟨⟨h.sto.reblk hblk (fun g hg => hk g (.inr (.inl hg)) (by rw [T.srow g hg]; exact nofun) (by rw [T.srow g hg]; exact nofun)),
    h.loc.reblk (C' := ({ L with av := .slice (some ⟨gg, 0, none⟩) (m + 1) cap, txs := L.txs ++ [l] } : EnL).C E.last) (hblk.trans (by rw [← EnL.cells_eq]; rfl)) (fun g hg hne => hk g (.inr (.inr (.inl hg))) (by rw [T.lock g hg hne]; exact nofun) (by rw [T.lock g hg hne]; exact nofun)), h.good, ?_, ?_, ?_, ?_,
    h.wr.same (hk _ (.inr (.inr (.inr (.inr (.inl rfl))))) (by rw [T.wr]; exact nofun) (by rw [T.wr]; exact nofun)), ?_, ?_, ?_, fun g => if g < w.heap.size then ρ g else if g = gg then .all else .tx m, ?_⟩, ?_⟩
  · intro k x hx
    have := h.mem k x hx
    simp only [List.length_append, List.length_singleton]
    omega
  · rw [hbs, List.map_append, show ({ L with av := .slice (some ⟨gg, 0, none⟩) (m + 1) cap, txs := L.txs ++ [l] } : EnL).txs.length = m + 1 from by simp [hm]]
    exact owns_same hown (fun g hg => ho g (by rw [← hgx hg]; exact hgs))
  · simp [hlen]
  · simp only [List.length_append, List.length_singleton]; omega
  · have hE : (E.com.map fun i => ptrV (({ L with av := .slice (some ⟨gg, 0, none⟩) (m + 1) cap, txs := L.txs ++ [l] } : EnL).bs[i]?.getD 0)) = E.com.map fun i => ptrV (L.bs[i]?.getD 0) := by
      refine List.map_congr_left (fun i hi => ?_)
      have h1 := h.coml i hi
      rw [hbs, List.getElem?_append_left (by simp [EnL.bs]; omega)]
    show World.ownsRow _ 0 _ 1 L.cv E.com.length (E.com.map fun i => ptrV (({ L with av := .slice (some ⟨gg, 0, none⟩) (m + 1) cap, txs := L.txs ++ [l] } : EnL).bs[i]?.getD 0))
    rw [hE]
    exact owns_same h.com (fun g hg => hk g (.inr (.inr (.inr (.inr (.inr (.inl hg)))))) (by rw [T.com g hg]; exact nofun) (by rw [T.com g hg]; exact nofun))
  · intro i hi
    have := h.coml i hi
    simp only [List.length_append, List.length_singleton]; omega
  · intro i x u hx hu
    rcases Nat.lt_or_ge i m with hi | hi
    · simp only [] at hx hu
      rw [List.getElem?_append_left (by omega)] at hx
      rw [List.getElem?_append_left (by omega)] at hu
      exact (h.txs i x u hx hu).same (fun g hg => hk g (TxL.own_in (L := L) hx hg) (by rw [T.tx i x g hx hg]; exact nofun) (by rw [T.tx i x g hx hg]; exact nofun))
    · simp only [] at hx hu
      rw [List.getElem?_append_right (by omega)] at hx hu
      have hi2 : i = m := by
        have := (List.getElem?_eq_some_iff.1 hx).1
        simp at this
        omega
      subst hi2
      rw [show i - L.txs.length = 0 from by omega] at hx
      rw [show i - E.txs.length = 0 from by omega] at hu
      simp at hx hu
      subst hx hu
      exact hT.same (fun g hg => ho g (hls g hg))
  · have hlt : ∀ g, L.own g → (if g < w.heap.size then ρ g else if g = gg then Tag.all else .tx m) = ρ g := fun g hg => if_pos (h.own_lt hg)
    refine ⟨(hlt _ (.inl rfl)).trans T.eng, fun g hg => (hlt g (.inr (.inl hg))).trans (T.srow g hg), fun g hg hn => (hlt g (.inr (.inr (.inl hg)))).trans (T.lock g hg hn), fun g hg => ?_, (hlt _ (.inr (.inr (.inr (.inr (.inl rfl)))))).trans T.wr,
      fun g hg => (hlt g (.inr (.inr (.inr (.inr (.inr (.inl hg))))))).trans (T.com g hg), fun j x g hx hg => ?_⟩
    · have := hgx hg
      subst this
      rcases hat with h1 | h1
      · exact (hlt gg (.inr (.inr (.inr (.inl h1))))).trans (T.all gg h1)
      · simp only [if_neg (Nat.not_lt.2 h1), if_pos]
    · rcases Nat.lt_or_ge j m with hi | hi
      · simp only [] at hx
        rw [List.getElem?_append_left (by omega)] at hx
        exact (hlt g (TxL.own_in (L := L) hx hg)).trans (T.tx j x g hx hg)
      · simp only [] at hx
        rw [List.getElem?_append_right (by omega)] at hx
        have hi2 : j = m := by
          have := (List.getElem?_eq_some_iff.1 hx).1
          simp at this
          omega
        subst hi2
        rw [show j - L.txs.length = 0 from by omega] at hx
        simp at hx
        subst hx
        have h1 := hnew g hg
        have h2 : g ≠ gg := fun e => hgl (e ▸ hg)
        simp only [if_neg (Nat.not_lt.2 h1), if_neg h2]
  · refine ⟨hos.1, hos.2.1, hos.2.2, by simpa using hsz, fun g hg hn => (ho g (fun e => hn (.inl e))).trans (hb g hg (fun e => hn (.inr (.inr (.inr (.inl e)))))), fun g hg => ?_⟩
    rcases hg with h1 | h1 | h1 | h1 | h1 | h1 | ⟨x, hx, h1⟩
    · exact .inl (.inl h1)
    · exact .inl (.inr (.inl h1))
    · exact .inl (.inr (.inr (.inl h1)))
    · have := hgx h1
      subst this
      rcases hat with h2 | h2
      · exact .inl (.inr (.inr (.inr (.inl h2))))
      · exact .inr h2
    · exact .inl (.inr (.inr (.inr (.inr (.inl h1)))))
    · exact .inl (.inr (.inr (.inr (.inr (.inr (.inl h1))))))
    · rcases List.mem_append.1 hx with h2 | h2
      · exact .inl (.inr (.inr (.inr (.inr (.inr (.inr ⟨x, h2, h1⟩))))))
      · rw [List.mem_singleton.1 h2] at h1
        exact .inr (hnew g h1)
end Go.Proofs.YtjefgmeejhakbaaGreatDoor
