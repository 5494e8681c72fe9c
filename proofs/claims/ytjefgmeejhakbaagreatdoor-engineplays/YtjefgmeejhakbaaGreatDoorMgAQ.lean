/- EnSweep EnBegin EnAdd FeMem FdDoc: put together for a claim. -/
import Derived.Test.YtjefgmeejhakbaaGreatDoorMgAP
import Derived.Test.YtjefgmeejhakbaaGreatDoorFsInst
import Derived.Test.YtjefgmeejhakbaaGreatDoorFtDrop
import Derived.Test.YtjefgmeejhakbaaGreatDoorEnHist
import Derived.Test.YtjefgmeejhakbaaGreatDoorMgAG
/- engine.Sweep. -/
namespace Go.Proofs.YtjefgmeejhakbaaGreatDoor
open Go.RowKit
variable {w w' : World} {L : EnL} {E : Eng}
def leastOf (E : Eng) (js : List Nat) (m : Int) : Int := js.foldl (fun m j => match E.txs[j]? with
  | some t => if t.level ≠ 0 then min m t.start else m
  | none => m) m
def liveOnes (E : Eng) : List Nat := thoseP E (fun _ t => liveB t.state)
def leastE (E : Eng) : Int := leastOf E (liveOnes E) E.last
def sweepE (E : Eng) : Eng := { E with ks := E.ks.map (sweepL (leastE E)) }
set_option maxRecDepth 100000 in
set_option maxHeartbeats 2000000 in
theorem sweepE_any (h : EnAt w L E) (hf : Fits E) :
    Calls Tryz.prog 82 #[.pointer (some ⟨L.s, 0, none⟩)] w fun e w' => e = .returned (.int .i64 (sweepN (leastE E) E.ks : Nat)) ∧ EnPost L (sweepE E) w w' := by
  have HL := hid (last_any _ _ _ _ _ w h.sto)
  have HT := hid (those_lives h (fun _ t => liveB t.state) (fun W hW i l t hl ht => (lives_any l.b t.state W ((h.below hW).txs i l t hl ht).c3).mono (fun e w' hh => ⟨hh.1, 0, hh.2⟩)))
  have hjl : (liveOnes E).length ≤ 200 := by
    have := thoseN_len E (fun _ t => liveB t.state) E.txs.length
    rw [thoseN_all] at this
    have := h.le
    unfold liveOnes
    omega
  have HJ := hid (show ∀ j ∈ liveOnes E, ∃ t, E.txs[j]? = some t from fun j hj => by
    obtain ⟨t, ht, _⟩ := mem_thoseP hj
    exact ⟨t, ht⟩)
  have HSW := hid (fun W (hB : Below w.heap.size w W) t => sweep_any _ _ _ t _ _ W (h.below hB).sto (by have := (h.below hB).sto.lt; omega) (fun l hl => Nat.le_trans (hf.len l hl) (by omega)))
  have HH := hid h
  unfold sweepE leastE
  rw [show thoseP E (fun _ t => liveB t.state) = liveOnes E from rfl] at HT
  obtain ⟨js, hjs⟩ : ∃ js, liveOnes E = js := ⟨_, rfl⟩
  rw [hjs] at HT hjl HJ ⊢
  obtain ⟨lz, hlz⟩ : ∃ lz, E.last = lz := ⟨_, rfl⟩
  rw [hlz] at HL ⊢
  have HLZ := hid hlz
  clear h hf hjs hlz
  go_enter Tryz.func82, Tryz.ntmps82
  go_wp2_with fail
  refine HL.out.mono ?_
  rintro e w1 ⟨rfl, hw1⟩
  rw [hw1]
  clear hw1 w1
  go_wp2_with fail
  refine HT.out.mono ?_
  rintro e w1 ⟨v, rfl, ho, hB1⟩
  obtain ⟨ad, cap, rfl⟩ := row_form ho
  have hadg : Hid (∀ j x, js[j]? = some x → ∃ g, ad = some ⟨g, 0, none⟩ ∧ w1.cell? ⟨g, j, none⟩ = some (.pointer (some ⟨L.bs[x]?.getD 0, 0, none⟩))) := fun j x hx => by
    rcases row_slice ho with ⟨e1, e2⟩ | ⟨g, cap', e1, hg, hc⟩
    · have := (List.getElem?_eq_some_iff.1 hx).1; omega
    · injection e1 with e1
      exact ⟨g, e1, hc j _ (show (L.ptrs js)[j]? = some (ptrV (L.bs[x]?.getD 0)) from by simp [EnL.ptrs, hx])⟩
  have HB1 := hid hB1
  have HE1 := hid (HH.out.below hB1)
  clear ho hB1 HT
  go_wp2
  go_loop [3, 13] (fun mv iv => ∃ (j : Nat) (m : Int), j ≤ js.length ∧ iv = .int .i64 j ∧ mv = .int .i64 m ∧ leastOf E (js.drop j) m = leastOf E js lz) (fun _ iv => js.length - (intOf iv).toNat)
  case atStart => exact ⟨0, lz, by omega, rfl, rfl, by simp⟩
  case round =>
    obtain ⟨j, m, hj, rfl, rfl, hrest⟩ := hrel
    by_cases hlt : j < js.length
    · obtain ⟨x, hx⟩ : ∃ x, js[j]? = some x := ⟨js[j], List.getElem?_eq_getElem hlt⟩
      obtain ⟨g, rfl, hgc⟩ := hadg.out j x hx
      obtain ⟨t, ht⟩ := HJ.out x (List.mem_of_getElem? hx)
      obtain ⟨l, hl, hA⟩ := HE1.out.get ht
      rw [bs_get hl] at hgc
      simp only [Option.getD_some] at hgc
      have c1 := hA.c1
      have c2 := hA.c2
      have hdrop : js.drop j = x :: js.drop (j + 1) := by
        rw [List.drop_eq_getElem_cons hlt]
        congr 1
        rw [List.getElem?_eq_getElem hlt] at hx
        injection hx
      rw [hdrop] at hrest
      have hstep : leastOf E (x :: js.drop (j + 1)) m = leastOf E (js.drop (j + 1)) (if t.level ≠ 0 then min m t.start else m) := by
        unfold leastOf
        rw [List.foldl_cons, ht]
      rw [hstep] at hrest
      obtain ⟨lv, hlv⟩ : ∃ lv, t.level = lv := ⟨_, rfl⟩
      obtain ⟨st, hst⟩ : ∃ st, t.start = st := ⟨_, rfl⟩
      rw [hlv] at c1 hrest
      rw [hst] at c2 hrest
      have hj0 : (0 : Int) ≤ (j : Int) := by omega
      have hj1 : (j : Int) < (js.length : Int) := by omega
      by_cases h0 : lv = 0
      · subst h0
        rw [if_neg (by simp)] at hrest
        have HR := hid hrest
        clear hx ht hl hA hdrop hrest hstep hlv hst
        go_wp2
        go_round
        case rel => exact ⟨j + 1, m, by omega, by go_num, rfl, HR.out⟩
        case measure => simp [intOf]; omega
      · have g0 : (lv != 0) = true := by simpa using h0
        rw [if_pos h0] at hrest
        have HR := hid hrest
        clear hx ht hl hA hdrop hrest hstep hlv hst h0
        go_wp2
        go_round
        case rel => exact ⟨j + 1, min m st, by omega, by go_num, rfl, HR.out⟩
        case measure => simp [intOf]; omega
    · rw [List.drop_of_length_le (by omega)] at hrest
      have hfin : m = leastOf E js lz := by simpa [leastOf] using hrest
      have HF := hid hfin
      have HC := hid (HSW.out w1 HB1.out m)
      clear hrest hfin
      go_wp2_with fail
      refine HC.out.mono ?_
      rintro e w2 ⟨rfl, vs', hS, hK⟩
      obtain ⟨h3, k3⟩ := HE1.out.setSto hS hK
      have HP := hid (show EnPost L { E with ks := E.ks.map (sweepL m) } w w2 from ⟨_, h3, KeptO.below_l HB1.out k3, rfl, rfl⟩)
      clear hS hK h3 k3 HC
      go_wp2
      go_ret
      rw [← HF.out]
      exact ⟨rfl, by have := HP.out; rw [HLZ.out] at this; exact this⟩
end Go.Proofs.YtjefgmeejhakbaaGreatDoor

/- engine.newTransaction; one more transaction. -/
namespace Go.Proofs.YtjefgmeejhakbaaGreatDoor
open Go.RowKit
variable {w w' : World} {L : EnL} {E : Eng}
def newTx (level start : Int) : Tx := ⟨level, start, 0, 0, 0, 0, 0, fun _ => none, [], List.replicate 10 false, fun _ => false, fun _ => false⟩
def newL (B : Nat) : TxL := ⟨B + 3, B, .slice none 0 0, B + 1, B + 2⟩
def newCells (n level start : Int) (B : Nat) : Array Value := #[.int .i64 n, .int .i64 level, .int .i64 start, .int .i64 0, .int .i64 0, .int .i64 0, .int .i64 0, .int .i64 0, .map (some B), .slice none 0 0, .bool false, .bool false, .bool false, .bool false, .bool false, .bool false, .bool false, .bool false, .bool false, .bool false, .map (some (B + 1)), .map (some (B + 2))]
def newW (w : World) (n level start : Int) : World := (((w.alloc (.map #[] 0)).alloc (.map #[] 0)).alloc (.map #[] 0)).alloc (.cells (newCells n level start w.heap.size) 183)
theorem newW_at (w : World) (n level start : Int) : TxAt (newW w n level start) n (newL w.heap.size) (newTx level start) ∧ Below w.heap.size w (newW w n level start) := by
  have s1 : (w.alloc (.map #[] 0)).heap.size = w.heap.size + 1 := by simp
  have s2 : ((w.alloc (.map #[] 0)).alloc (.map #[] 0)).heap.size = w.heap.size + 2 := by simp
  have s3 : (((w.alloc (.map #[] 0)).alloc (.map #[] 0)).alloc (.map #[] 0)).heap.size = w.heap.size + 3 := by simp
  have m1 := IMap.made w
  have m2 := IMap.made (w.alloc (.map #[] 0))
  have m3 := IMap.made ((w.alloc (.map #[] 0)).alloc (.map #[] 0))
  rw [s1] at m2
  rw [s2] at m3
  have m1' : IMap (newW w n level start) w.heap.size 0 (fun _ => none) := m1.same (((Below.heap_alloc _ _ _ (by rw [s3]; omega)).trans (Below.heap_alloc _ _ _ (by rw [s2]; omega))).trans (Below.heap_alloc _ _ _ (by rw [s1]; omega)))
  have m2' : IMap (newW w n level start) (w.heap.size + 1) 0 (fun _ => none) := m2.same ((Below.heap_alloc _ _ _ (by rw [s3]; omega)).trans (Below.heap_alloc _ _ _ (by rw [s2]; omega)))
  have m3' : IMap (newW w n level start) (w.heap.size + 2) 0 (fun _ => none) := m3.same (Below.heap_alloc _ _ _ (by rw [s3]; omega))
  have hb := heap_alloc_new (((w.alloc (.map #[] 0)).alloc (.map #[] 0)).alloc (.map #[] 0)) (.cells (newCells n level start w.heap.size) 183)
  rw [s3] at hb
  refine ⟨⟨hb, m1'.mono (Nat.zero_le _), ?_, m2'.mono (Nat.zero_le _), m3'.mono (Nat.zero_le _), ?_, ?_, ?_, rfl, fun _ h => (h rfl).elim, fun _ h => (by cases h), fun _ h => (by cases h), ?_⟩, ?_⟩
  · exact World.ownsRow_nil _ 0 90 4
  · show w.heap.size ≠ w.heap.size + 1; omega
  · show w.heap.size ≠ w.heap.size + 2; omega
  · show w.heap.size + 1 ≠ w.heap.size + 2; omega
  · show (0 : Int) ≤ 0 ∧ (0 : Int) < 10; omega
  · exact ((((Below.refl _ w).alloc (Nat.le_refl _) _).alloc (by rw [s1]; omega) _).alloc (by rw [s2]; omega) _).alloc (by rw [s3]; omega) _
set_option maxRecDepth 100000 in
set_option maxHeartbeats 1000000 in
theorem newTx_any (w : World) (n level start : Int) :
    Calls Tryz.prog 110 #[.int .i64 n, .int .i64 level, .int .i64 start] w fun e w' => e = .returned (.pointer (some ⟨w.heap.size + 3, 0, none⟩)) ∧ w' = newW w n level start := by
  have hmm := @run_makeMap Tryz.prog
  go_enter Tryz.func110, Tryz.ntmps110
  go_wp2
  go_ret
  exact ⟨rfl, rfl⟩
end Go.Proofs.YtjefgmeejhakbaaGreatDoor

/- One more transaction. -/
namespace Go.Proofs.YtjefgmeejhakbaaGreatDoor
open Go.RowKit
variable {w w' : World} {L : EnL} {E : Eng}
theorem bs_snoc (L : EnL) (l : TxL) (v : Value) : ({ L with av := v, txs := L.txs ++ [l] } : EnL).bs = L.bs ++ [l.b] := by simp [EnL.bs]
theorem EnAt.addTx (h : EnAt w L E) {l : TxL} {t : Tx} {w2 : World} {gg cap m : Nat} (hm : L.txs.length = m) (hm2 : m < 200)
    (hown : w2.ownsRow 0 179 1 (.slice (some ⟨gg, 0, none⟩) (m + 1) cap) (m + 1) (L.bs.map ptrV ++ [.pointer (some ⟨l.b, 0, none⟩)]))
    (hT : TxAt w2 ((m : Int) + 1) l t) (hnew : ∀ g, l.own g → w.heap.size ≤ g) (hgl : ¬ l.own gg)
    (hos : w2.os = w.os ∧ w2.tape = w.tape ∧ w2.output = w.output) (hsz : w.heap.size ≤ w2.heap.size) (hb : ∀ g, g < w.heap.size → L.av.ownBlock ≠ some g → w2.heap[g]? = w.heap[g]?) (hat : L.av.ownBlock = some gg ∨ w.heap.size ≤ gg) :
    EnAt (w2.setCell ⟨L.s, 14, none⟩ (.slice (some ⟨gg, 0, none⟩) (m + 1) cap)) { L with av := .slice (some ⟨gg, 0, none⟩) (m + 1) cap, txs := L.txs ++ [l] } { E with txs := E.txs ++ [t] } ∧
      KeptO L.own ({ L with av := .slice (some ⟨gg, 0, none⟩) (m + 1) cap, txs := L.txs ++ [l] } : EnL).own w (w2.setCell ⟨L.s, 14, none⟩ (.slice (some ⟨gg, 0, none⟩) (m + 1) cap)) := by
  obtain ⟨ρ, T⟩ := h.tag
  have hsl := h.sto.lt
  have hlen := h.len
  have hcs : L.av.ownBlock ≠ some L.s := fun e => by have h1 := T.all _ e; rw [T.eng] at h1; cases h1
  have hgs : gg ≠ L.s := by
    rcases hat with h1 | h1
    · exact fun e => hcs (e ▸ h1)
    · omega
  have hblk := setCell_at (o := 14) (v := .slice (some ⟨gg, 0, none⟩) (m + 1) cap) ((hb L.s hsl hcs).trans h.sto.blk)
  rw [P_set14 L E.last h.lv] at hblk
  have ho : ∀ g, g ≠ L.s → (w2.setCell ⟨L.s, 14, none⟩ (.slice (some ⟨gg, 0, none⟩) (m + 1) cap)).heap[g]? = w2.heap[g]? := fun g hg => heap_setCell_other _ ⟨L.s, 14, none⟩ g _ hg
  have hk : ∀ g, L.own g → ρ g ≠ .eng → ρ g ≠ .all → (w2.setCell ⟨L.s, 14, none⟩ (.slice (some ⟨gg, 0, none⟩) (m + 1) cap)).heap[g]? = w.heap[g]? := fun g hg h1 h2 =>
    (ho g (fun e => h1 (by rw [e]; exact T.eng))).trans (hb g (h.own_lt hg) (fun e => h2 (T.all g e)))
  have hls : ∀ g, l.own g → g ≠ L.s := fun g hg e => by have := hnew g hg; omega
  have hgx : ∀ {g}, (Value.slice (some ⟨gg, 0, none⟩) (m + 1) cap).ownBlock = some g → gg = g := fun hg => by simpa [Value.ownBlock] using hg
  have hbs : ({ L with av := .slice (some ⟨gg, 0, none⟩) (m + 1) cap, txs := L.txs ++ [l] } : EnL).bs = L.bs ++ [l.b] := bs_snoc L l _
  refine ⟨⟨h.sto.reblk hblk (fun g hg => hk g (.inr (.inl hg)) (by rw [T.srow g hg]; exact nofun) (by rw [T.srow g hg]; exact nofun)),
    h.loc.reblk (C' := ({ L with av := .slice (some ⟨gg, 0, none⟩) (m + 1) cap, txs := L.txs ++ [l] } : EnL).C E.last) (hblk.trans (by rw [← EnL.cells_eq]; rfl)) (fun g hg hne => hk g (.inr (.inr (.inl hg))) (by rw [T.lock g hg hne]; exact nofun) (by rw [T.lock g hg hne]; exact nofun)), h.good, ?_, ?_, ?_, ?_,
    h.wr.same (hk _ (.inr (.inr (.inr (.inr (.inl rfl))))) (by rw [T.wr]; exact nofun) (by rw [T.wr]; exact nofun)), ?_, ?_, ?_, fun g => if g < w.heap.size then ρ g else if g = gg then .all else .tx m, ?_⟩, ?_⟩
  · intro k x hx
    have := h.mem k x hx
    simp only [List.length_append, List.length_singleton]
    omega
  · rw [hbs, List.map_append, show ({ L with av := .slice (some ⟨gg, 0, none⟩) (m + 1) cap, txs := L.txs ++ [l] } : EnL).txs.length = m + 1 from by simp [hm]]
    exact owns_same hown (fun g hg => ho g (by rw [← hgx hg]; exact hgs))
  · simp [hlen]
  · simp only [List.length_append, List.length_singleton]; omega
  · have hE : (E.com.map fun i => ptrV (({ L with av := .slice (some ⟨gg, 0, none⟩) (m + 1) cap, txs := L.txs ++ [l] } : EnL).bs[i]?.getD 0)) = E.com.map fun i => ptrV (L.bs[i]?.getD 0) := by
      refine List.map_congr_left (fun i hi => ?_)
      have h1 := h.coml i hi
      rw [hbs, List.getElem?_append_left (by simp [EnL.bs]; omega)]
    show World.ownsRow _ 0 _ 1 L.cv E.com.length (E.com.map fun i => ptrV (({ L with av := .slice (some ⟨gg, 0, none⟩) (m + 1) cap, txs := L.txs ++ [l] } : EnL).bs[i]?.getD 0))
    rw [hE]
    exact owns_same h.com (fun g hg => hk g (.inr (.inr (.inr (.inr (.inr (.inl hg)))))) (by rw [T.com g hg]; exact nofun) (by rw [T.com g hg]; exact nofun))
  · intro i hi
    have := h.coml i hi
    simp only [List.length_append, List.length_singleton]; omega
  · intro i x u hx hu
    rcases Nat.lt_or_ge i m with hi | hi
    · simp only [] at hx hu
      rw [List.getElem?_append_left (by omega)] at hx
      rw [List.getElem?_append_left (by omega)] at hu
      exact (h.txs i x u hx hu).same (fun g hg => hk g (TxL.own_in (L := L) hx hg) (by rw [T.tx i x g hx hg]; exact nofun) (by rw [T.tx i x g hx hg]; exact nofun))
    · simp only [] at hx hu
      rw [List.getElem?_append_right (by omega)] at hx hu
      have hi2 : i = m := by
        have := (List.getElem?_eq_some_iff.1 hx).1
        simp at this
        omega
      subst hi2
      rw [show i - L.txs.length = 0 from by omega] at hx
      rw [show i - E.txs.length = 0 from by omega] at hu
      simp at hx hu
      subst hx hu
      exact hT.same (fun g hg => ho g (hls g hg))
  · have hlt : ∀ g, L.own g → (if g < w.heap.size then ρ g else if g = gg then Tag.all else .tx m) = ρ g := fun g hg => if_pos (h.own_lt hg)
    refine ⟨(hlt _ (.inl rfl)).trans T.eng, fun g hg => (hlt g (.inr (.inl hg))).trans (T.srow g hg), fun g hg hn => (hlt g (.inr (.inr (.inl hg)))).trans (T.lock g hg hn), fun g hg => ?_, (hlt _ (.inr (.inr (.inr (.inr (.inl rfl)))))).trans T.wr,
      fun g hg => (hlt g (.inr (.inr (.inr (.inr (.inr (.inl hg))))))).trans (T.com g hg), fun j x g hx hg => ?_⟩
    · have := hgx hg
      subst this
      rcases hat with h1 | h1
      · exact (hlt gg (.inr (.inr (.inr (.inl h1))))).trans (T.all gg h1)
      · simp only [if_neg (Nat.not_lt.2 h1), if_pos]
    · rcases Nat.lt_or_ge j m with hi | hi
      · simp only [] at hx
        rw [List.getElem?_append_left (by omega)] at hx
        exact (hlt g (TxL.own_in (L := L) hx hg)).trans (T.tx j x g hx hg)
      · simp only [] at hx
        rw [List.getElem?_append_right (by omega)] at hx
        have hi2 : j = m := by
          have := (List.getElem?_eq_some_iff.1 hx).1
          simp at this
          omega
        subst hi2
        rw [show j - L.txs.length = 0 from by omega] at hx
        simp at hx
        subst hx
        have h1 := hnew g hg
        have h2 : g ≠ gg := fun e => hgl (e ▸ hg)
        simp only [if_neg (Nat.not_lt.2 h1), if_neg h2]
  · refine ⟨hos.1, hos.2.1, hos.2.2, by simpa using hsz, fun g hg hn => (ho g (fun e => hn (.inl e))).trans (hb g hg (fun e => hn (.inr (.inr (.inr (.inl e)))))), fun g hg => ?_⟩
    rcases hg with h1 | h1 | h1 | h1 | h1 | h1 | ⟨x, hx, h1⟩
    · exact .inl (.inl h1)
    · exact .inl (.inr (.inl h1))
    · exact .inl (.inr (.inr (.inl h1)))
    · have := hgx h1
      subst this
      rcases hat with h2 | h2
      · exact .inl (.inr (.inr (.inr (.inl h2))))
      · exact .inr h2
    · exact .inl (.inr (.inr (.inr (.inr (.inl h1)))))
    · exact .inl (.inr (.inr (.inr (.inr (.inr (.inl h1))))))
    · rcases List.mem_append.1 hx with h2 | h2
      · exact .inl (.inr (.inr (.inr (.inr (.inr (.inr ⟨x, h2, h1⟩))))))
      · rw [List.mem_singleton.1 h2] at h1
        exact .inr (hnew g h1)
end Go.Proofs.YtjefgmeejhakbaaGreatDoor

/- The document's engine: plain, and how it lies in memory. -/
namespace Go.Proofs.YtjefgmeejhakbaaGreatDoor
open Go.RowKit
structure RTx where
  level : Int
  state : Int
  why : Int
  start : Int
  begun : Int
  over : Int
  reads : List (Int × Int × Bool × Int)
  own : List (Int × Int)
  want : Int × Int
  behind : List Nat
  ahead : List Nat
structure REng where
  kept : List (Int × Int × Int)
  last : Int
  T : Tab
  txs : List RTx
  step : Int
  wr : Int → Option Int
  nb : Nat
  hist : List (Int × Int × Bool × Int)
def REng.setTx (E : REng) (i : Nat) (t : RTx) : REng := { E with txs := E.txs.set i t }
structure RTxL where
  b : Nat
  rd : Value
  ow : Value
  bh : Value
  ah : Value
structure REnL where
  R : Nat
  lv : Value
  vs : List Value
  av : Value
  txs : List RTxL
  mb : Nat
  hv : Value
def REnL.bs (L : REnL) : List Nat := L.txs.map RTxL.b
def HdE (A B : REnL) : Prop := A.R = B.R ∧ A.av = B.av
theorem HdE.trans {A B C : REnL} (h : HdE A B) (k : HdE B C) : HdE A C := ⟨h.1.trans k.1, h.2.trans k.2⟩
def REnL.setTx (L : REnL) (i : Nat) (l : RTxL) : REnL := { L with txs := L.txs.set i l }
def rtxCells (l : RTxL) (t : RTx) : Array Value := #[.int .i64 t.level, .int .i64 t.state, .int .i64 t.why, .int .i64 t.start, .int .i64 t.begun, .int .i64 t.over, l.rd, l.ow, .int .i64 t.want.1, .int .i64 t.want.2, l.bh, l.ah]
def ptrsV (bs : List Nat) (is : List Nat) : List Value := is.map (fun i => ptrV (bs[i]?.getD 0))
def RTxL.row (l : RTxL) : Nat → Value
  | 0 => l.rd
  | 1 => l.ow
  | 2 => l.bh
  | _ => l.ah
def RTxL.setRow (l : RTxL) (p : Nat) (v : Value) : RTxL := match p with
  | 0 => { l with rd := v }
  | 1 => { l with ow := v }
  | 2 => { l with bh := v }
  | _ => { l with ah := v }
def rrowT : Nat → TypeId
  | 0 => 90
  | 1 => 78
  | _ => 171
def rrowS : Nat → Nat
  | 0 => 4
  | 1 => 2
  | _ => 1
def RTx.rowN (t : RTx) : Nat → Nat
  | 0 => t.reads.length
  | 1 => t.own.length
  | 2 => t.behind.length
  | _ => t.ahead.length
def RTx.rowV (bs : List Nat) (t : RTx) : Nat → List Value
  | 0 => opsV t.reads
  | 1 => vrow t.own
  | 2 => ptrsV bs t.behind
  | _ => ptrsV bs t.ahead
structure RTxAt (w : World) (bs : List Nat) (l : RTxL) (t : RTx) : Prop where
  blk : w.heap[l.b]? = some (.cells (rtxCells l t) 177 (0, 0))
  row : ∀ p, p < 4 → w.ownsRow 0 (rrowT p) (rrowS p) (l.row p) (t.rowN p) (t.rowV bs p)
theorem RTxAt.rd {w : World} {bs : List Nat} {l : RTxL} {t : RTx} (h : RTxAt w bs l t) : w.ownsRow 0 90 4 l.rd t.reads.length (opsV t.reads) := h.row 0 (by decide)
theorem RTxAt.ow {w : World} {bs : List Nat} {l : RTxL} {t : RTx} (h : RTxAt w bs l t) : w.ownsRow 0 78 2 l.ow t.own.length (vrow t.own) := h.row 1 (by decide)
theorem RTxAt.bh {w : World} {bs : List Nat} {l : RTxL} {t : RTx} (h : RTxAt w bs l t) : w.ownsRow 0 171 1 l.bh t.behind.length (ptrsV bs t.behind) := h.row 2 (by decide)
theorem RTxAt.ah {w : World} {bs : List Nat} {l : RTxL} {t : RTx} (h : RTxAt w bs l t) : w.ownsRow 0 171 1 l.ah t.ahead.length (ptrsV bs t.ahead) := h.row 3 (by decide)
def RTxL.own (l : RTxL) (g : Nat) : Prop := g = l.b ∨ ∃ p, p < 4 ∧ (l.row p).ownBlock = some g
theorem RTxAt.lt {w : World} {bs : List Nat} {l : RTxL} {t : RTx} (h : RTxAt w bs l t) : l.b < w.heap.size := (Array.getElem?_eq_some_iff.1 h.blk).1
theorem RTxAt.own_lt {w : World} {bs : List Nat} {l : RTxL} {t : RTx} (h : RTxAt w bs l t) {g : Nat} (hg : l.own g) : g < w.heap.size := by
  rcases hg with rfl | ⟨p, hp, hg⟩
  · exact h.lt
  · exact ((h.row p hp).lt g hg).2
theorem RTxAt.same {w w' : World} {bs : List Nat} {l : RTxL} {t : RTx} (h : RTxAt w bs l t) (hs : ∀ g, l.own g → w'.heap[g]? = w.heap[g]?) : RTxAt w' bs l t :=
  ⟨(hs _ (.inl rfl)).trans h.blk, fun p hp => owns_same (h.row p hp) (fun g hg => hs g (.inr ⟨p, hp, hg⟩))⟩
theorem RTxAt.below {w w' : World} {bs : List Nat} {l : RTxL} {t : RTx} (h : RTxAt w bs l t) (hB : Below w.heap.size w w') : RTxAt w' bs l t := h.same (fun g hg => hB.block g (h.own_lt hg))
def REnL.tail (L : REnL) (step : Int) : Tail := ⟨L.vs ++ [L.av, .int .i64 step, .map (some L.mb), L.hv], 113⟩
def REnL.emb (L : REnL) (last step : Int) : FEmb := ⟨L.lv, .int .i64 last, [L.av, .int .i64 step, .map (some L.mb), L.hv], 113, by decide⟩
inductive RTag where
  | eng : RTag
  | kept : RTag
  | tab : RTag
  | all : RTag
  | byc : RTag
  | hist : RTag
  | tx : Nat → Nat → RTag
def InVs (vs : List Value) (g : Nat) : Prop := ∃ v ∈ vs, v.ownBlock = some g
structure RTagged (L : REnL) (ρ : Nat → RTag) : Prop where
  eng : ρ L.R = .eng
  kept : ∀ g, L.lv.ownBlock = some g → ρ g = .kept
  tab : ∀ g, InVs L.vs g → ρ g = .tab
  all : ∀ g, L.av.ownBlock = some g → ρ g = .all
  byc : ρ L.mb = .byc
  hist : ∀ g, L.hv.ownBlock = some g → ρ g = .hist
  txb : ∀ (i : Nat) (l : RTxL), L.txs[i]? = some l → ρ l.b = .tx i 4
  txr : ∀ (i : Nat) (l : RTxL) (p g : Nat), L.txs[i]? = some l → p < 4 → (l.row p).ownBlock = some g → ρ g = .tx i p
def REnL.own (L : REnL) (g : Nat) : Prop := g = L.R ∨ L.lv.ownBlock = some g ∨ InVs L.vs g ∨ L.av.ownBlock = some g ∨ g = L.mb ∨ L.hv.ownBlock = some g ∨ ∃ l ∈ L.txs, l.own g
structure REnAt (w : World) (L : REnL) (E : REng) : Prop where
  blk : w.heap[L.R]? = some (.cells (fcells (L.tail E.step) L.lv E.last) 113 (0, 0))
  kept : w.ownsRow (L.R + 1) 235 3 L.lv E.kept.length (krow E.kept)
  knl : E.kept = [] → L.lv = .slice none 0 0
  vl : L.vs.length = 10
  rows : ∀ (k : Nat) (v : Value), L.vs[k]? = some v → w.ownsRow (L.R + 1) 3 1 v (E.T k).length (intsV (E.T k))
  rnl : ∀ (k : Nat) (v : Value), L.vs[k]? = some v → E.T k = [] → v = .slice none 0 0
  all : w.ownsRow (L.R + 1) 171 1 L.av E.txs.length (L.bs.map ptrV)
  len : L.txs.length = E.txs.length
  txs : ∀ (i : Nat) (l : RTxL) (t : RTx), L.txs[i]? = some l → E.txs[i]? = some t → RTxAt w L.bs l t
  wr : IMap w L.mb E.nb (fun k => (E.wr k).map (Value.int .i64))
  hist : w.ownsRow (L.R + 1) 90 4 L.hv E.hist.length (opsV E.hist)
  tag : ∃ ρ, RTagged L ρ
section
variable {w w' : World} {L L' : REnL} {E E' : REng} {ρ : Nat → RTag}
theorem REnAt.sto (h : REnAt w L E) : Ref (L.tail E.step) w (L.R + 1) L.R E.last L.lv E.kept := ⟨h.blk, h.kept, h.knl, Nat.lt_succ_self _⟩
theorem REnAt.tab (h : REnAt w L E) : RTab (L.emb E.last E.step) w (L.R + 1) L.R L.vs E.T := ⟨h.blk, h.vl, h.rows, h.rnl, Nat.lt_succ_self _⟩
theorem REnAt.lt (h : REnAt w L E) : L.R < w.heap.size := (Array.getElem?_eq_some_iff.1 h.blk).1
theorem REnAt.get (h : REnAt w L E) {i : Nat} {t : RTx} (ht : E.txs[i]? = some t) : ∃ l, L.txs[i]? = some l ∧ RTxAt w L.bs l t := by
  have hi : i < L.txs.length := by rw [h.len]; exact (List.getElem?_eq_some_iff.1 ht).1
  exact ⟨L.txs[i], List.getElem?_eq_getElem hi, h.txs i _ t (List.getElem?_eq_getElem hi) ht⟩
theorem REnAt.getL (h : REnAt w L E) {i : Nat} {l : RTxL} (hl : L.txs[i]? = some l) : ∃ t, E.txs[i]? = some t ∧ RTxAt w L.bs l t := by
  have hi : i < E.txs.length := by rw [← h.len]; exact (List.getElem?_eq_some_iff.1 hl).1
  exact ⟨E.txs[i], List.getElem?_eq_getElem hi, h.txs i _ _ hl (List.getElem?_eq_getElem hi)⟩
theorem RTxL.own_in {l : RTxL} {i : Nat} (hl : L.txs[i]? = some l) {g : Nat} (hg : l.own g) : L.own g := .inr (.inr (.inr (.inr (.inr (.inr ⟨l, List.mem_of_getElem? hl, hg⟩)))))
theorem REnAt.vs_lt (h : REnAt w L E) {g : Nat} (hg : InVs L.vs g) : g < w.heap.size := by
  obtain ⟨v, hv, hg⟩ := hg
  obtain ⟨k, hk, rfl⟩ := List.mem_iff_getElem.1 hv
  exact ((h.rows k _ (List.getElem?_eq_getElem hk)).lt g hg).2
theorem REnAt.own_lt (h : REnAt w L E) {g : Nat} (hg : L.own g) : g < w.heap.size := by
  rcases hg with rfl | hg | hg | hg | rfl | hg | ⟨l, hl, hg⟩
  · exact h.lt
  · exact (h.kept.lt g hg).2
  · exact h.vs_lt hg
  · exact (h.all.lt g hg).2
  · exact h.wr.lt
  · exact (h.hist.lt g hg).2
  · obtain ⟨i, hi, rfl⟩ := List.mem_iff_getElem.1 hl
    obtain ⟨t, _, hA⟩ := h.getL (List.getElem?_eq_getElem hi)
    exact hA.own_lt hg
theorem RTagged.txo (T : RTagged L ρ) {i : Nat} {l : RTxL} (hl : L.txs[i]? = some l) {g : Nat} (hg : l.own g) : ∃ p, ρ g = .tx i p := by
  rcases hg with rfl | ⟨p, hp, hg⟩
  · exact ⟨4, T.txb i l hl⟩
  · exact ⟨p, T.txr i l p g hl hp hg⟩
structure RKeeps (L : REnL) (E : REng) (w' : World) (keep : RTag → Prop) : Prop where
  kept : keep .kept → w'.ownsRow (L.R + 1) 235 3 L.lv E.kept.length (krow E.kept)
  rows : keep .tab → ∀ (k : Nat) (v : Value), L.vs[k]? = some v → w'.ownsRow (L.R + 1) 3 1 v (E.T k).length (intsV (E.T k))
  all : keep .all → w'.ownsRow (L.R + 1) 171 1 L.av E.txs.length (L.bs.map ptrV)
  wr : keep .byc → IMap w' L.mb E.nb (fun k => (E.wr k).map (Value.int .i64))
  hist : keep .hist → w'.ownsRow (L.R + 1) 90 4 L.hv E.hist.length (opsV E.hist)
  txs : ∀ (i : Nat) (l : RTxL) (t : RTx), (∀ p, keep (.tx i p)) → L.txs[i]? = some l → E.txs[i]? = some t → RTxAt w' L.bs l t
theorem REnAt.keeps (h : REnAt w L E) (T : RTagged L ρ) (keep : RTag → Prop) (hs : ∀ g, L.own g → keep (ρ g) → w'.heap[g]? = w.heap[g]?) : RKeeps L E w' keep :=
  ⟨fun k => owns_same h.kept (fun g hg => hs g (.inr (.inl hg)) (by rw [T.kept g hg]; exact k)),
    fun k j v hv => owns_same (h.rows j v hv) (fun g hg => hs g (.inr (.inr (.inl ⟨v, List.mem_of_getElem? hv, hg⟩))) (by rw [T.tab g ⟨v, List.mem_of_getElem? hv, hg⟩]; exact k)),
    fun k => owns_same h.all (fun g hg => hs g (.inr (.inr (.inr (.inl hg)))) (by rw [T.all g hg]; exact k)),
    fun k => h.wr.same (hs _ (.inr (.inr (.inr (.inr (.inl rfl))))) (by rw [T.byc]; exact k)),
    fun k => owns_same h.hist (fun g hg => hs g (.inr (.inr (.inr (.inr (.inr (.inl hg)))))) (by rw [T.hist g hg]; exact k)),
    fun i l t k hl ht => (h.txs i l t hl ht).same (fun g hg => hs g (RTxL.own_in hl hg) (by obtain ⟨p, e⟩ := T.txo hl hg; rw [e]; exact k p))⟩
theorem REnAt.same (h : REnAt w L E) (hs : ∀ g, L.own g → w'.heap[g]? = w.heap[g]?) : REnAt w' L E := by
  obtain ⟨ρ, T⟩ := h.tag
  have K := h.keeps T (fun _ => True) (fun g hg _ => hs g hg)
  exact ⟨(hs _ (.inl rfl)).trans h.blk, K.kept trivial, h.knl, h.vl, K.rows trivial, h.rnl, K.all trivial, h.len, fun i l t => K.txs i l t (fun _ => trivial), K.wr trivial, K.hist trivial, ρ, T⟩
theorem REnAt.below (h : REnAt w L E) (hB : Below w.heap.size w w') : REnAt w' L E := h.same (fun g hg => hB.block g (h.own_lt hg))
theorem RTagged.fresh (T : RTagged L ρ) {n : Nat} (hlt : ∀ g, L.own g → g < n) (X : RTag) : RTagged L (fun g => if g < n then ρ g else X) := by
  have e : ∀ g, L.own g → (if g < n then ρ g else X) = ρ g := fun g hg => if_pos (hlt g hg)
  exact ⟨(e _ (.inl rfl)).trans T.eng, fun g hg => (e g (.inr (.inl hg))).trans (T.kept g hg), fun g hg => (e g (.inr (.inr (.inl hg)))).trans (T.tab g hg), fun g hg => (e g (.inr (.inr (.inr (.inl hg))))).trans (T.all g hg),
    (e _ (.inr (.inr (.inr (.inr (.inl rfl)))))).trans T.byc, fun g hg => (e g (.inr (.inr (.inr (.inr (.inr (.inl hg))))))).trans (T.hist g hg), fun i l hl => (e _ (RTxL.own_in hl (.inl rfl))).trans (T.txb i l hl),
    fun i l p g hl hp hg => (e g (RTxL.own_in hl (.inr ⟨p, hp, hg⟩))).trans (T.txr i l p g hl hp hg)⟩
theorem fresh_new {n g : Nat} {X : RTag} (h : n ≤ g) : (if g < n then ρ g else X) = X := if_neg (Nat.not_lt.2 h)
theorem RTxL.row_set (l : RTxL) {p q : Nat} (v : Value) (hp : p < 4) (hq : q < 4) : (l.setRow p v).row q = if q = p then v else l.row q := by
  rcases p with _ | _ | _ | _ | p <;> rcases q with _ | _ | _ | _ | q <;> first | rfl | omega
theorem RTxL.setRow_b (l : RTxL) (p : Nat) (v : Value) : (l.setRow p v).b = l.b := by
  rcases p with _ | _ | _ | p <;> rfl
theorem bs_set {i : Nat} {l l' : RTxL} (hl : L.txs[i]? = some l) (hb : l'.b = l.b) : (L.setTx i l').bs = L.bs := by
  unfold REnL.setTx REnL.bs
  rw [List.map_set, hb]
  refine List.ext_getElem? (fun j => ?_)
  rw [List.getElem?_set]
  split
  · rename_i e
    subst e
    have := (List.getElem?_eq_some_iff.1 hl).1
    rw [if_pos (by simpa using this)]
    simp [hl]
  · rfl
theorem rsetTx_get {i : Nat} {t u : RTx} (h : E.txs[i]? = some u) : (E.setTx i t).txs[i]? = some t := by
  have := (List.getElem?_eq_some_iff.1 h).1
  simp [REng.setTx, this]
theorem rsetTx_ne {i j : Nat} {t : RTx} (h : i ≠ j) : (E.setTx i t).txs[j]? = E.txs[j]? := by simp [REng.setTx, h]
theorem rbs_get {i : Nat} {l : RTxL} (hl : L.txs[i]? = some l) : L.bs[i]? = some l.b := by simp [REnL.bs, hl]
theorem REnAt.setRow (h : REnAt w L E) {i p : Nat} {l : RTxL} {t t' : RTx} {v : Value} (hl : L.txs[i]? = some l) (ht : E.txs[i]? = some t) (hp : p < 4)
    (hblk : w'.heap[l.b]? = some (.cells (rtxCells (l.setRow p v) t') 177 (0, 0))) (hrow : w'.ownsRow 0 (rrowT p) (rrowS p) v (t'.rowN p) (t'.rowV L.bs p))
    (hsub : ∀ g, v.ownBlock = some g → (l.row p).ownBlock = some g ∨ w.heap.size ≤ g) (hoth : ∀ g, g < w.heap.size → g ≠ l.b → (l.row p).ownBlock ≠ some g → w'.heap[g]? = w.heap[g]?)
    (hos : w'.os = w.os ∧ w'.tape = w.tape ∧ w'.output = w.output) (hsz : w.heap.size ≤ w'.heap.size) (hq : ∀ q, q < 4 → q ≠ p → t'.rowN q = t.rowN q ∧ t'.rowV L.bs q = t.rowV L.bs q) :
    REnAt w' (L.setTx i (l.setRow p v)) (E.setTx i t') ∧ KeptO L.own (L.setTx i (l.setRow p v)).own w w' := by
  obtain ⟨ρ, T⟩ := h.tag
  have hi := (List.getElem?_eq_some_iff.1 hl).1
  have hi2 := (List.getElem?_eq_some_iff.1 ht).1
  have hbs : (L.setTx i (l.setRow p v)).bs = L.bs := bs_set hl (RTxL.setRow_b l p v)
  have hA := h.txs i l t hl ht
  have hk : ∀ g, L.own g → (ρ g ≠ .tx i 4 ∧ ρ g ≠ .tx i p) → w'.heap[g]? = w.heap[g]? := fun g hg hn => hoth g (h.own_lt hg) (fun e => hn.1 (e ▸ T.txb i l hl)) (fun e => hn.2 (T.txr i l p g hl hp e))
  have K := h.keeps T (fun a => a ≠ .tx i 4 ∧ a ≠ .tx i p) hk
  have F := T.fresh (n := w.heap.size) (fun g hg => h.own_lt hg) (.tx i p)
  refine ⟨⟨?_, K.kept ⟨by simp, by simp⟩, h.knl, h.vl, K.rows ⟨by simp, by simp⟩, h.rnl, ?_, by simpa [REnL.setTx, REng.setTx] using h.len, fun j m u hm hu => ?_, K.wr ⟨by simp, by simp⟩, K.hist ⟨by simp, by simp⟩, _, ⟨F.eng, F.kept, F.tab, F.all, F.byc, F.hist, fun j m hm => ?_, fun j m q g hm hq4 hg => ?_⟩⟩, hos.1, hos.2.1, hos.2.2, hsz, fun g hg hn => hoth g hg (fun e => hn (RTxL.own_in hl (.inl e))) (fun e => hn (RTxL.own_in hl (.inr ⟨p, hp, e⟩))), fun g hg => ?_⟩
  · exact (hk _ (.inl rfl) (by rw [T.eng]; exact ⟨by simp, by simp⟩)).trans h.blk
  · rw [hbs]
    have := K.all ⟨by simp, by simp⟩
    rw [show (E.setTx i t').txs.length = E.txs.length from by simp [REng.setTx]]
    exact this
  · rw [hbs]
    simp only [REnL.setTx, REng.setTx, List.getElem?_set] at hm hu
    by_cases hij : i = j
    · subst hij
      rw [if_pos rfl, if_pos hi] at hm
      rw [if_pos rfl, if_pos hi2] at hu
      cases hm
      cases hu
      refine ⟨by rw [RTxL.setRow_b]; exact hblk, fun q hq4 => ?_⟩
      rw [RTxL.row_set l v hp hq4]
      by_cases e : q = p
      · subst e
        rw [if_pos rfl]
        exact hrow
      · rw [if_neg e, (hq q hq4 e).1, (hq q hq4 e).2]
        refine owns_same (hA.row q hq4) (fun g hg => hk g (RTxL.own_in hl (.inr ⟨q, hq4, hg⟩)) ?_)
        rw [T.txr i l q g hl hq4 hg]
        exact ⟨fun e2 => by injection e2 with _ e2; omega, fun e2 => by injection e2 with _ e2; exact e e2⟩
    · rw [if_neg hij] at hm hu
      exact K.txs j m u (fun q => ⟨fun e => by injection e with e; exact hij e.symm, fun e => by injection e with e; exact hij e.symm⟩) hm hu
  · simp only [REnL.setTx, List.getElem?_set] at hm
    by_cases hij : i = j
    · subst hij
      rw [if_pos rfl, if_pos hi] at hm
      cases hm
      rw [RTxL.setRow_b]
      exact F.txb i l hl
    · rw [if_neg hij] at hm
      exact F.txb j m hm
  · simp only [REnL.setTx, List.getElem?_set] at hm
    by_cases hij : i = j
    · subst hij
      rw [if_pos rfl, if_pos hi] at hm
      cases hm
      rw [RTxL.row_set l v hp hq4] at hg
      by_cases e : q = p
      · subst e
        rw [if_pos rfl] at hg
        rcases hsub g hg with h1 | h1
        · exact F.txr i l q g hl hq4 h1
        · exact fresh_new h1
      · rw [if_neg e] at hg
        exact F.txr i l q g hl hq4 hg
    · rw [if_neg hij] at hm
      exact F.txr j m q g hm hq4 hg
  · rcases hg with h1 | h1 | h1 | h1 | h1 | h1 | ⟨m, hm, h1⟩
    · exact .inl (.inl h1)
    · exact .inl (.inr (.inl h1))
    · exact .inl (.inr (.inr (.inl h1)))
    · exact .inl (.inr (.inr (.inr (.inl h1))))
    · exact .inl (.inr (.inr (.inr (.inr (.inl h1)))))
    · exact .inl (.inr (.inr (.inr (.inr (.inr (.inl h1))))))
    · rcases List.mem_or_eq_of_mem_set hm with hm | rfl
      · exact .inl (.inr (.inr (.inr (.inr (.inr (.inr ⟨m, hm, h1⟩))))))
      · rcases h1 with h1 | ⟨q, hq4, h1⟩
        · rw [RTxL.setRow_b] at h1
          exact .inl (RTxL.own_in hl (.inl h1))
        · rw [RTxL.row_set l v hp hq4] at h1
          by_cases e : q = p
          · subst e
            rw [if_pos rfl] at h1
            exact (hsub g h1).imp (fun h2 => RTxL.own_in hl (.inr ⟨q, hq4, h2⟩)) id
          · rw [if_neg e] at h1
            exact .inl (RTxL.own_in hl (.inr ⟨q, hq4, h1⟩))
end
end Go.Proofs.YtjefgmeejhakbaaGreatDoor

/- Plain: the document's versions as they came, and of each key its versions: as DocA, DocB, for a store inside an engine. -/
namespace Go.Proofs.YtjefgmeejhakbaaGreatDoor
open Go.RowKit
theorem latN_congr (l m : List (Int × Int)) (t : Int) : ∀ n, (∀ j, j < n → (l[j]?.getD (0, 0)).1 = (m[j]?.getD (0, 0)).1) → latN l t n = latN m t n
  | 0, _ => rfl
  | n + 1, h => by
    simp only [latN]
    rw [h n (by omega), latN_congr l m t n (fun j hj => h j (by omega))]
theorem many_swept (t : Int) (ks : List (List (Int × Int))) : manyP (ks.map (sweepL t)) + sweepN t ks = manyP ks := by
  induction ks with
  | nil => rfl
  | cons l r ih =>
    have hb := lat_bounds l t
    have e : (sweepL t l).length + (lat l t).toNat = l.length := by rw [sweepL, List.length_drop]; omega
    simp only [manyP, sweepN, List.map_cons, List.sum_cons] at *
    omega
theorem snoc_ind {α : Type} {P : List α → Prop} (h0 : P []) (h1 : ∀ l x, P l → P (l ++ [x])) (l : List α) : P l := by
  have : ∀ r : List α, P r.reverse := fun r => by
    induction r with
    | nil => exact h0
    | cons x r ih => rw [List.reverse_cons]; exact h1 _ _ ih
  simpa using this l.reverse
def sub (k : Int) (L : List (Int × Int × Int)) : List (Int × Int) := (L.filter fun x => decide (x.1 = k)).map fun x => x.2
theorem sub_cons (k : Int) (x : Int × Int × Int) (L : List (Int × Int × Int)) : sub k (x :: L) = if x.1 = k then x.2 :: sub k L else sub k L := by
  by_cases h : x.1 = k <;> simp [sub, h]
theorem sub_append (k : Int) (L M : List (Int × Int × Int)) : sub k (L ++ M) = sub k L ++ sub k M := by simp [sub]
theorem mem_sub {k : Int} {p : Int × Int} {L : List (Int × Int × Int)} : p ∈ sub k L ↔ (k, p) ∈ L := by
  simp only [sub, List.mem_map, List.mem_filter, decide_eq_true_eq]
  constructor
  · rintro ⟨⟨a, b⟩, ⟨h1, rfl⟩, rfl⟩; exact h1
  · intro h; exact ⟨(k, p), ⟨h, rfl⟩, rfl⟩
theorem sub_length (k : Int) (L : List (Int × Int × Int)) : (sub k L).length ≤ L.length := by
  rw [sub, List.length_map]; exact List.length_filter_le _ _
def Rises (l : List (Int × Int)) : Prop := l.Pairwise fun a b => a.1 < b.1
theorem Rises.snoc {l : List (Int × Int)} {p : Int × Int} (h : Rises (l ++ [p])) : Rises l ∧ ∀ a ∈ l, a.1 < p.1 := by
  have := List.pairwise_append.1 h
  exact ⟨this.1, fun a ha => this.2.2 a ha p (by simp)⟩
theorem Rises.add {l : List (Int × Int)} {p : Int × Int} (h : Rises l) (hp : ∀ a ∈ l, a.1 < p.1) : Rises (l ++ [p]) :=
  List.pairwise_append.2 ⟨h, by simp, fun a ha b hb => by rw [List.mem_singleton.1 hb]; exact hp a ha⟩
theorem lat_snoc (l : List (Int × Int)) (p : Int × Int) (t : Int) : lat (l ++ [p]) t = if p.1 ≤ t then (l.length : Int) else lat l t := by
  unfold lat
  rw [List.length_append, List.length_singleton]
  simp only [latN]
  rw [show (l ++ [p])[l.length]? = some p by simp, Option.getD_some]
  have : latN (l ++ [p]) t l.length = latN l t l.length := latN_congr _ _ _ _ (fun j hj => by rw [List.getElem?_append_left hj])
  rw [this]
theorem rdP_mem {t : Int} {l : List (Int × Int)} {q : Int × Int} (h : rdP t l = some q) : q ∈ l := by
  unfold rdP at h
  split at h
  · exact List.mem_of_getElem? h
  · cases h
theorem rdP_snoc (t : Int) (l : List (Int × Int)) (p : Int × Int) : rdP t (l ++ [p]) = if p.1 ≤ t then some p else rdP t l := by
  unfold rdP
  rw [lat_snoc]
  by_cases h : p.1 ≤ t
  · rw [if_pos h, if_pos h, if_pos (by omega)]; simp
  · rw [if_neg h, if_neg h]
    have := lat_bounds l t
    split
    · rw [List.getElem?_append_left (by omega)]
    · rfl
def bestT (t : Int) (b : Option (Int × Int)) (x : Int × Int) : Option (Int × Int) := if x.1 ≤ t ∧ (b = none ∨ (b.getD (0, 0)).1 < x.1) then some x else b
theorem best_fold (k t : Int) : ∀ (L : List (Int × Int × Int)) (b : Option (Int × Int)), L.foldl (bestS k t) b = (sub k L).foldl (bestT t) b
  | [], _ => rfl
  | x :: L, b => by
    rw [List.foldl_cons, best_fold k t L, sub_cons]
    by_cases h : x.1 = k
    · rw [if_pos h, List.foldl_cons]
      simp [bestS, bestT, h]
    · rw [if_neg h]
      simp [bestS, h]
theorem best_rises (t : Int) (l : List (Int × Int)) : Rises l → l.foldl (bestT t) none = rdP t l := by
  refine snoc_ind (P := fun l => Rises l → l.foldl (bestT t) none = rdP t l) (fun _ => by simp [rdP, lat, latN]) (fun l p ih h => ?_) l
  obtain ⟨h1, h2⟩ := h.snoc
  rw [List.foldl_append, List.foldl_cons, List.foldl_nil, ih h1, rdP_snoc]
  unfold bestT
  by_cases hp : p.1 ≤ t
  · rw [if_pos hp, if_pos]
    refine ⟨hp, ?_⟩
    cases hq : rdP t l with
    | none => exact .inl rfl
    | some q => exact .inr (by simpa using h2 q (rdP_mem hq))
  · rw [if_neg hp, if_neg (fun e => hp e.1)]
theorem best_sub (k t : Int) (L : List (Int × Int × Int)) (h : Rises (sub k L)) : best k t L = rdP t (sub k L) := by
  rw [← best_rises t _ h]
  exact best_fold k t L none
theorem newsR_sub (k t : Int) : ∀ L : List (Int × Int × Int), newsR k t L = ((sub k L).filter fun x => decide (t < x.1)).map fun x => x.1
  | [] => rfl
  | x :: L => by
    have ih := newsR_sub k t L
    unfold newsR at ih ⊢
    rw [sub_cons]
    by_cases h : x.1 = k
    · by_cases h2 : t < x.2.1 <;> simp [h, h2, ih]
    · simp [h, ih]
theorem later_rises (t : Int) (l : List (Int × Int)) : Rises l → l.filter (fun x => decide (t < x.1)) = l.drop (lat l t + 1).toNat := by
  refine snoc_ind (P := fun l => Rises l → l.filter (fun x => decide (t < x.1)) = l.drop (lat l t + 1).toNat) (fun _ => by simp) (fun l p ih h => ?_) l
  obtain ⟨h1, h2⟩ := h.snoc
  rw [lat_snoc, List.filter_append]
  by_cases hp : p.1 ≤ t
  · rw [if_pos hp, List.drop_of_length_le (by simp), List.filter_eq_nil_iff.2 (fun a ha => by have := h2 a ha; simp; omega)]
    simp; omega
  · have hb := lat_bounds l t
    rw [if_neg hp, ih h1, List.drop_append_of_le_length (by omega)]
    simp; omega
theorem news_sub (k t : Int) (L : List (Int × Int × Int)) (h : Rises (sub k L)) : newsR k t L = ((sub k L).drop (lat (sub k L) t + 1).toNat).map fun x => x.1 := by
  rw [newsR_sub, later_rises t _ h]
theorem news_pair (k t : Int) (L : List (Int × Int × Int)) (h : Rises (sub k L)) : (newsR k t L).Pairwise (· ≤ ·) := by
  rw [newsR_sub]
  refine List.pairwise_map.2 ((h.sublist List.filter_sublist).imp (fun h => ?_))
  omega
theorem latN_le (l : List (Int × Int)) (t : Int) : ∀ m, 0 ≤ latN l t m → (l[(latN l t m).toNat]?.getD (0, 0)).1 ≤ t
  | 0, h => by simp [latN] at h
  | m + 1, h => by
    by_cases hq : (l[m]?.getD (0, 0)).1 ≤ t
    · have e : latN l t (m + 1) = (m : Int) := by rw [latN, if_pos hq]
      rw [e, Int.toNat_natCast]; exact hq
    · have e : latN l t (m + 1) = latN l t m := by rw [latN, if_neg hq]
      rw [e] at h ⊢
      exact latN_le l t m h
theorem keep_rises (t : Int) (l : List (Int × Int)) (h : Rises l) : l.filter (fun x => decide (t < x.1) || (rdP t l == some x)) = sweepL t l := by
  have hb := lat_bounds l t
  have hl := later_rises t l h
  unfold sweepL
  by_cases h0 : 0 ≤ lat l t
  · obtain ⟨m, hm⟩ := Int.eq_ofNat_of_zero_le h0
    have hml : m < l.length := by omega
    have hle := latN_le l t l.length h0
    obtain ⟨q, hq⟩ : ∃ q, l[m]? = some q := ⟨l[m], List.getElem?_eq_getElem hml⟩
    rw [show latN l t l.length = lat l t from rfl, hm, Int.toNat_natCast, hq, Option.getD_some] at hle
    have hr : rdP t l = some q := by rw [rdP, if_pos h0, hm, Int.toNat_natCast, hq]
    rw [hm] at hl ⊢
    rw [Int.toNat_natCast]
    have e0 : l.drop m = q :: l.drop (m + 1) := by rw [List.drop_eq_getElem_cons hml, ← Option.some.inj (hq.symm.trans (List.getElem?_eq_getElem hml))]
    have e1 : l = l.take m ++ (q :: l.drop (m + 1)) := by rw [← e0, List.take_append_drop]
    have hd : l.drop (m + 1) = l.filter (fun x => decide (t < x.1)) := by rw [hl]; congr 1
    have h3 := h
    unfold Rises at h3
    rw [e1, List.pairwise_append] at h3
    rw [hr]
    conv => lhs; rw [e1]
    rw [List.filter_append, List.filter_eq_nil_iff.2, List.nil_append, e0, List.filter_cons, if_pos (by simp)]
    · congr 1
      refine List.filter_eq_self.2 (fun a ha => ?_)
      rw [hd] at ha
      have := (List.mem_filter.1 ha).2
      rw [this]; rfl
    · intro a ha
      have h4 := h3.2.2 a ha q (by simp)
      have hne : q ≠ a := fun e => by rw [e] at h4; omega
      simp [hne]; omega
  · have e : lat l t = -1 := by omega
    rw [e] at hl ⊢
    have hl' : l.filter (fun x => decide (t < x.1)) = l := by rw [hl]; simp
    have ha := List.filter_eq_self.1 hl'
    rw [List.filter_eq_self.2 (fun a h => by rw [ha a h]; rfl)]
    simp
theorem sub_keep (k t : Int) (L : List (Int × Int × Int)) : ∀ M : List (Int × Int × Int), sub k (M.filter (keepB t L)) = (sub k M).filter (fun x => decide (t < x.1) || (best k t L == some x))
  | [] => rfl
  | y :: M => by
    have ih := sub_keep k t L M
    rw [sub_cons, List.filter_cons]
    by_cases h : y.1 = k
    · rw [if_pos h]
      have e : keepB t L y = (decide (t < y.2.1) || (best k t L == some y.2)) := by rw [keepB, h]
      rw [List.filter_cons, ← e]
      split
      · rw [sub_cons, if_pos h, ih]
      · rw [ih]
    · rw [if_neg h]
      split
      · rw [sub_cons, if_neg h, ih]
      · rw [ih]
theorem sub_sweep (k t : Int) (L : List (Int × Int × Int)) (h : Rises (sub k L)) : sub k (refSweep t L) = sweepL t (sub k L) := by
  rw [refSweep, sub_keep, best_sub k t L h, keep_rises t _ h]
structure Doc (last : Int) (ks : List (List (Int × Int))) (L : List (Int × Int × Int)) : Prop where
  lk : ks.length = 10
  eq : ∀ k : Nat, k < 10 → ks[k]? = some (sub k L)
  key : ∀ x ∈ L, inB x.1 0 9 = true
  rise : ∀ k : Int, Rises (sub k L)
  top : ∀ x ∈ L, x.2.1 ≤ last
section
variable {last : Int} {ks : List (List (Int × Int))} {L : List (Int × Int × Int)}
theorem Doc.bound (h : Doc last ks L) : ∀ l ∈ ks, l.length ≤ L.length := fun l hl => by
  obtain ⟨k, hk, rfl⟩ := List.mem_iff_getElem.1 hl
  have h1 := h.eq k (by have := h.lk; omega)
  rw [List.getElem?_eq_getElem hk] at h1
  rw [Option.some.inj h1]
  exact sub_length _ _
theorem Doc.ten (h : Doc last ks L) : ks = [sub 0 L, sub 1 L, sub 2 L, sub 3 L, sub 4 L, sub 5 L, sub 6 L, sub 7 L, sub 8 L, sub 9 L] := by
  refine List.ext_getElem? (fun i => ?_)
  by_cases hi : i < 10
  · rw [h.eq i hi]
    rcases (by omega : i = 0 ∨ i = 1 ∨ i = 2 ∨ i = 3 ∨ i = 4 ∨ i = 5 ∨ i = 6 ∨ i = 7 ∨ i = 8 ∨ i = 9) with rfl | rfl | rfl | rfl | rfl | rfl | rfl | rfl | rfl | rfl <;> rfl
  · rw [List.getElem?_eq_none (by have := h.lk; omega), List.getElem?_eq_none (by simp; omega)]
theorem ten_length : ∀ L : List (Int × Int × Int), (∀ x ∈ L, inB x.1 0 9 = true) → manyP [sub 0 L, sub 1 L, sub 2 L, sub 3 L, sub 4 L, sub 5 L, sub 6 L, sub 7 L, sub 8 L, sub 9 L] = L.length
  | [], _ => rfl
  | x :: L, h => by
    have ih := ten_length L (fun y hy => h y (List.mem_cons_of_mem _ hy))
    have hx := h x (List.mem_cons_self ..)
    simp only [inB, decide_eq_true_eq] at hx
    simp only [manyP, List.map_cons, List.map_nil, List.sum_cons, List.sum_nil, List.length_cons, sub_cons] at ih ⊢
    rcases (by omega : x.1 = 0 ∨ x.1 = 1 ∨ x.1 = 2 ∨ x.1 = 3 ∨ x.1 = 4 ∨ x.1 = 5 ∨ x.1 = 6 ∨ x.1 = 7 ∨ x.1 = 8 ∨ x.1 = 9) with e | e | e | e | e | e | e | e | e | e <;> simp [e] <;> omega
theorem Doc.many (h : Doc last ks L) : manyP ks = L.length := by
  rw [h.ten]
  exact ten_length L h.key
theorem Doc.sweep (h : Doc last ks L) (t : Int) : Doc last (ks.map (sweepL t)) (refSweep t L) where
  lk := by simp [h.lk]
  eq k hk := by rw [List.getElem?_map, h.eq k hk, Option.map_some, sub_sweep _ _ _ (h.rise k)]
  key x hx := h.key x (List.mem_filter.1 hx).1
  rise k := by
    rw [sub_sweep _ _ _ (h.rise k)]
    exact (h.rise k).sublist (List.drop_sublist _ _)
  top x hx := h.top x (List.mem_filter.1 hx).1
theorem Doc.sweepN (h : Doc last ks L) (t : Int) : (L.length : Int) - ((refSweep t L).length : Int) = (sweepN t ks : Nat) := by
  have h1 := h.many
  have h2 := (h.sweep t).many
  have h3 := many_swept t ks
  omega
theorem refSweep_length (t : Int) (L : List (Int × Int × Int)) : (refSweep t L).length ≤ L.length := List.length_filter_le _ _
end
theorem lastN_congr (k : Int) (ws us : List (Int × Int)) : ∀ m, (∀ j, j < m → ws[j]? = us[j]?) → lastN k ws m = lastN k us m
  | 0, _ => rfl
  | m + 1, h => by
    simp only [lastN]
    rw [h m (by omega), lastN_congr k ws us m (fun j hj => h j (by omega))]
def lastFW (k t : Int) (ws : List (Int × Int)) : List (Int × Int) := if 0 ≤ lastN k ws ws.length then [(t, (ws[(lastN k ws ws.length).toNat]?.getD (0, 0)).2)] else []
theorem lastFW_nil (k t : Int) : lastFW k t [] = [] := by simp [lastFW, lastN]
theorem lastFW_snoc (k t : Int) (ws : List (Int × Int)) (p : Int × Int) : lastFW k t (ws ++ [p]) = if p.1 = k then [(t, p.2)] else lastFW k t ws := by
  have hc : lastN k (ws ++ [p]) ws.length = lastN k ws ws.length := lastN_congr _ _ _ _ (fun j hj => List.getElem?_append_left hj)
  have hb := lastN_bounds k ws ws.length
  have he : lastN k (ws ++ [p]) (ws ++ [p]).length = if p.1 = k then (ws.length : Int) else lastN k ws ws.length := by
    rw [List.length_append, List.length_singleton, lastN, show (ws ++ [p])[ws.length]? = some p by simp, Option.getD_some, hc]
  unfold lastFW
  rw [he]
  by_cases h : p.1 = k
  · rw [if_pos h, if_pos h, if_pos (by omega)]; simp
  · rw [if_neg h, if_neg h]
    split
    · rw [List.getElem?_append_left (by omega)]
    · rfl
theorem lastFW_or (k t : Int) (ws : List (Int × Int)) : lastFW k t ws = [] ∨ ∃ y, lastFW k t ws = [(t, y)] := by
  unfold lastFW
  split
  · exact .inr ⟨_, rfl⟩
  · exact .inl rfl
theorem addTo_succ (t : Int) (ws : List (Int × Int)) (j : Nat) : addTo t ws (j + 1) = addTo t ws j ++ (lastFW j t ws).map (fun p => ((j : Int), p)) := by
  rw [addTo, lastFW]
  split <;> simp
theorem sub_one (k : Int) (j : Int) (l : List (Int × Int)) : sub k (l.map fun p => (j, p)) = if j = k then l else [] := by
  induction l with
  | nil => simp [sub]
  | cons p l ih => rw [List.map_cons, sub_cons, ih]; split <;> rfl
theorem sub_addTo (k : Nat) (t : Int) (ws : List (Int × Int)) : ∀ j, sub k (addTo t ws j) = if k < j then lastFW k t ws else []
  | 0 => by simp [addTo, sub]
  | j + 1 => by
    rw [addTo_succ, sub_append, sub_addTo k t ws j, sub_one]
    by_cases h : k = j
    · subst h; simp
    · by_cases h2 : k < j
      · rw [if_pos h2, if_neg (by omega), if_pos (by omega)]; simp
      · rw [if_neg h2, if_neg (by omega), if_neg (by omega)]; simp
theorem mem_addTo (t : Int) (ws : List (Int × Int)) : ∀ (j : Nat) (x : Int × Int × Int), x ∈ addTo t ws j → 0 ≤ x.1 ∧ x.1 < j ∧ x.2.1 = t
  | 0, x, h => by simp [addTo] at h
  | j + 1, x, h => by
    rw [addTo_succ, List.mem_append] at h
    rcases h with h | h
    · have := mem_addTo t ws j x h
      omega
    · obtain ⟨p, hp, rfl⟩ := List.mem_map.1 h
      refine ⟨by simp, by simp; omega, ?_⟩
      rcases lastFW_or j t ws with e | ⟨y, e⟩
      · rw [e] at hp; cases hp
      · rw [e, List.mem_singleton] at hp; rw [hp]
theorem putP_old (t v : Int) (l : List (Int × Int)) (h : ∀ x ∈ l, x.1 < t) : putP t v l = l ++ [(t, v)] := by
  unfold putP
  rw [if_neg]
  intro e
  cases hl : l.getLast? with
  | none => rw [hl] at e; cases e
  | some x =>
    rw [hl] at e
    have h1 := h x (List.mem_of_getLast? hl)
    simp only [Option.map_some, Option.some.injEq] at e
    omega
theorem putP_lastW (k t v : Int) (ws l : List (Int × Int)) (h : ∀ x ∈ l, x.1 < t) : putP t v (l ++ lastFW k t ws) = l ++ [(t, v)] := by
  rcases lastFW_or k t ws with e | ⟨y, e⟩
  · rw [e, List.append_nil]; exact putP_old t v l h
  · rw [e]; exact putP_same t v y l
theorem instP_length (t : Int) (ws : List (Int × Int)) (ks : List (List (Int × Int))) : (instP t ws ks).length = ks.length := by
  refine snoc_ind (P := fun ws => (instP t ws ks).length = ks.length) rfl (fun l x ih => ?_) ws
  obtain ⟨a, v⟩ := x
  rw [instP_snoc, List.length_set, ih]
theorem instP_doc (t : Int) (ks : List (List (Int × Int))) (hk : ks.length = 10) (ht : ∀ l ∈ ks, ∀ x ∈ l, x.1 < t) (k : Nat) (l : List (Int × Int)) (hl : ks[k]? = some l) (ws : List (Int × Int)) :
    (∀ p ∈ ws, Fine p) → (instP t ws ks)[k]? = some (l ++ lastFW k t ws) := by
  refine snoc_ind (P := fun ws => (∀ p ∈ ws, Fine p) → (instP t ws ks)[k]? = some (l ++ lastFW k t ws)) (fun _ => by rw [lastFW_nil, List.append_nil]; exact hl) (fun ws p ih h => ?_) ws
  have ih := ih (fun q hq => h q (List.mem_append_left _ hq))
  obtain ⟨a, v⟩ := p
  obtain ⟨n, e, hn⟩ := keyB_nat (h (a, v) (by simp)).1
  simp only at e
  subst e
  rw [instP_snoc, lastFW_snoc, Int.toNat_natCast]
  by_cases hkn : n = k
  · subst hkn
    have hlen := instP_length t ws ks
    rw [List.getElem?_set_self (by omega), ih, Option.getD_some, if_pos rfl, putP_lastW]
    exact ht l (List.mem_of_getElem? hl)
  · rw [List.getElem?_set_ne hkn, ih, if_neg (by simp; omega)]
section
variable {last : Int} {ks : List (List (Int × Int))} {L : List (Int × Int × Int)}
theorem Doc.inst (h : Doc last ks L) {t : Int} (ht : last < t) {ws : List (Int × Int)} (hf : ∀ p ∈ ws, Fine p) : Doc t (instP t ws ks) (L ++ addTo t ws 10) where
  lk := by rw [instP_length, h.lk]
  eq k hk := by
    rw [sub_append, sub_addTo, if_pos hk]
    refine instP_doc t ks h.lk (fun l hl x hx => ?_) k _ (h.eq k hk) ws hf
    obtain ⟨i, hi, rfl⟩ := List.mem_iff_getElem.1 hl
    have h1 := h.eq i (by have := h.lk; omega)
    rw [List.getElem?_eq_getElem hi] at h1
    rw [Option.some.inj h1] at hx
    have := h.top _ (mem_sub.1 hx)
    simp only at this
    omega
  key x hx := by
    rcases List.mem_append.1 hx with hx | hx
    · exact h.key x hx
    · have := mem_addTo t ws 10 x hx
      simp [inB]; omega
  rise k := by
    rw [sub_append]
    by_cases hk : 0 ≤ k
    · obtain ⟨n, rfl⟩ := Int.eq_ofNat_of_zero_le hk
      have hs := sub_addTo n t ws 10
      have hr := h.rise n
      split at hs
      · rcases lastFW_or n t ws with e | ⟨y, e⟩
        · rw [show sub (n : Int) (addTo t ws 10) = [] from hs.trans e, List.append_nil]; exact hr
        · rw [show sub (n : Int) (addTo t ws 10) = [(t, y)] from hs.trans e]
          refine hr.add (fun a ha => ?_)
          have := h.top _ (mem_sub.1 ha)
          simp only at this ⊢
          omega
      · rw [show sub (n : Int) (addTo t ws 10) = [] from hs, List.append_nil]; exact hr
    · have e : sub k (addTo t ws 10) = [] := by
        refine List.eq_nil_iff_forall_not_mem.2 (fun p hp => ?_)
        have := mem_addTo t ws 10 _ (mem_sub.1 hp)
        simp only at this
        omega
      rw [e, List.append_nil]
      exact h.rise k
  top x hx := by
    rcases List.mem_append.1 hx with hx | hx
    · have := h.top x hx; omega
    · have := mem_addTo t ws 10 x hx; omega
end
def Out (last t : Int) (ws : List (Int × Int)) (c p : Int) : Prop :=
  ((t ≤ last ∨ 1099511627776 < t) ∧ c = 10 ∧ p = -1) ∨
  (last < t ∧ t ≤ 1099511627776 ∧ ∃ (i : Nat) (q : Int × Int), (∀ p ∈ ws.take i, Fine p) ∧ ws[i]? = some q ∧ Bad q c ∧ p = i) ∨
  (last < t ∧ t ≤ 1099511627776 ∧ (∀ p ∈ ws, Fine p) ∧ c = 0 ∧ p = -1)
theorem fine_or_bad (p : Int × Int) : Fine p ∨ ∃ c, Bad p c := by
  by_cases h1 : keyB p.1 = true
  · by_cases h2 : p.2 < -1099511627776 ∨ 1099511627776 < p.2
    · exact .inr ⟨1, .inr ⟨h1, h2, rfl⟩⟩
    · exact .inl ⟨h1, by omega, by omega⟩
  · exact .inr ⟨2, .inl ⟨by simpa using h1, rfl⟩⟩
theorem first_bad : ∀ ws : List (Int × Int), (∀ p ∈ ws, Fine p) ∨ ∃ (i : Nat) (q : Int × Int) (c : Int), (∀ p ∈ ws.take i, Fine p) ∧ ws[i]? = some q ∧ Bad q c
  | [] => .inl (by simp)
  | p :: r => by
    rcases fine_or_bad p with h | ⟨c, h⟩
    · rcases first_bad r with h2 | ⟨i, q, c, h2, h3, h4⟩
      · exact .inl (fun x hx => by rcases List.mem_cons.1 hx with rfl | hx; exact h; exact h2 x hx)
      · refine .inr ⟨i + 1, q, c, fun x hx => ?_, by simpa using h3, h4⟩
        rw [List.take_succ_cons] at hx
        rcases List.mem_cons.1 hx with rfl | hx
        · exact h
        · exact h2 x hx
    · exact .inr ⟨0, p, c, by simp, rfl, h⟩
theorem out_some (last t : Int) (ws : List (Int × Int)) : ∃ c p, Out last t ws c p := by
  by_cases h : t ≤ last ∨ 1099511627776 < t
  · exact ⟨10, -1, .inl ⟨h, rfl, rfl⟩⟩
  · rcases first_bad ws with h2 | ⟨i, q, c, h2, h3, h4⟩
    · exact ⟨0, -1, .inr (.inr ⟨by omega, by omega, h2, rfl, rfl⟩)⟩
    · exact ⟨c, i, .inr (.inl ⟨by omega, by omega, i, q, h2, h3, h4, rfl⟩)⟩
end Go.Proofs.YtjefgmeejhakbaaGreatDoor
