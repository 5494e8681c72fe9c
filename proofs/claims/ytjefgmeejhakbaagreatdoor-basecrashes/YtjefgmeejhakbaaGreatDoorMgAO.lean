/- EnBegin EnAdd BsDisk: put together for a claim. -/
import Derived.Test.YtjefgmeejhakbaaGreatDoorMgAN
import Derived.Test.YtjefgmeejhakbaaGreatDoorBsWr
import Derived.Deep.MidRow
import Derived.Laws.AppendOwnNone
import Derived.ArgAppend
/- engine.newTransaction; one more transaction. -/
namespace Go.Proofs.YtjefgmeejhakbaaGreatDoor
open Go.RowKit

variable {w w' : World} {L : EnL} {E : Eng}
/-- One that has done nothing yet. -/
def newTx (level start : Int) : Tx := ⟨level, start, 0, 0, 0, 0, 0, fun _ => none, [], List.replicate 10 false, fun _ => false, fun _ => false⟩
def newL (B : Nat) : TxL := ⟨B + 3, B, .slice none 0 0, B + 1, B + 2⟩
def newCells (n level start : Int) (B : Nat) : Array Value := #[.int .i64 n, .int .i64 level, .int .i64 start, .int .i64 0, .int .i64 0, .int .i64 0, .int .i64 0, .int .i64 0, .map (some B), .slice none 0 0, .bool false, .bool false, .bool false, .bool false, .bool false, .bool false, .bool false, .bool false, .bool false, .bool false, .map (some (B + 1)), .map (some (B + 2))]
def newW (w : World) (n level start : Int) : World := (((w.alloc (.map #[] 0)).alloc (.map #[] 0)).alloc (.map #[] 0)).alloc (.cells (newCells n level start w.heap.size) 183)
theorem newW_at (w : World) (n level start : Int) : TxAt (newW w n level start) n (newL w.heap.size) (newTx level start) ∧ Below w.heap.size w (newW w n level start) := by
  have s1 : (w.alloc (.map #[] 0)).heap.size = w.heap.size + 1 := by simp
  have s2 : ((w.alloc (.map #[] 0)).alloc (.map #[] 0)).heap.size = w.heap.size + 2 := by simp
  have s3 : (((w.alloc (.map #[] 0)).alloc (.map #[] 0)).alloc (.map #[] 0)).heap.size = w.heap.size + 3 := by simp
  have m1 := IMap.made w
  have m2 := IMap.made (w.alloc (.map #[] 0))
  have m3 := IMap.made ((w.alloc (.map #[] 0)).alloc (.map #[] 0))
  rw [s1] at m2
  rw [s2] at m3
  have m1' : IMap (newW w n level start) w.heap.size 0 (fun _ => none) := m1.same (((Below.heap_alloc _ _ _ (by rw [s3]; omega)).trans (Below.heap_alloc _ _ _ (by rw [s2]; omega))).trans (Below.heap_alloc _ _ _ (by rw [s1]; omega)))
  have m2' : IMap (newW w n level start) (w.heap.size + 1) 0 (fun _ => none) := m2.same ((Below.heap_alloc _ _ _ (by rw [s3]; omega)).trans (Below.heap_alloc _ _ _ (by rw [s2]; omega)))
  have m3' : IMap (newW w n level start) (w.heap.size + 2) 0 (fun _ => none) := m3.same (Below.heap_alloc _ _ _ (by rw [s3]; omega))
  have hb := heap_alloc_new (((w.alloc (.map #[] 0)).alloc (.map #[] 0)).alloc (.map #[] 0)) (.cells (newCells n level start w.heap.size) 183)
  rw [s3] at hb
  refine ⟨⟨hb, m1'.mono (Nat.zero_le _), ?_, m2'.mono (Nat.zero_le _), m3'.mono (Nat.zero_le _), ?_, ?_, ?_, rfl, fun _ h => (h rfl).elim, fun _ h => (by cases h), fun _ h => (by cases h), ?_⟩, ?_⟩
  · exact World.ownsRow_nil _ 0 90 4
  · show w.heap.size ≠ w.heap.size + 1; omega
  · show w.heap.size ≠ w.heap.size + 2; omega
  · show w.heap.size + 1 ≠ w.heap.size + 2; omega
  · show (0 : Int) ≤ 0 ∧ (0 : Int) < 10; omega
  · exact ((((Below.refl _ w).alloc (Nat.le_refl _) _).alloc (by rw [s1]; omega) _).alloc (by rw [s2]; omega) _).alloc (by rw [s3]; omega) _

set_option maxRecDepth 100000 in
set_option maxHeartbeats 1000000 in
theorem newTx_any (w : World) (n level start : Int) :
    Calls Tryz.prog 110 #[.int .i64 n, .int .i64 level, .int .i64 start] w fun e w' => e = .returned (.pointer (some ⟨w.heap.size + 3, 0, none⟩)) ∧ w' = newW w n level start := by
  have hmm := @run_makeMap Tryz.prog
  go_enter Tryz.func110, Tryz.ntmps110
  go_wp2
  go_ret
  exact ⟨rfl, rfl⟩

end Go.Proofs.YtjefgmeejhakbaaGreatDoor

/- One more transaction. -/
namespace Go.Proofs.YtjefgmeejhakbaaGreatDoor
open Go.RowKit

variable {w w' : World} {L : EnL} {E : Eng}
theorem bs_snoc (L : EnL) (l : TxL) (v : Value) : ({ L with av := v, txs := L.txs ++ [l] } : EnL).bs = L.bs ++ [l.b] := by simp [EnL.bs]
/-- One more is begun: from a world w1 in which it lies, by itself, to w2 in which the row of all has grown. -/
theorem EnAt.addTx (h : EnAt w L E) {l : TxL} {t : Tx} {w2 : World} {gg cap m : Nat} (hm : L.txs.length = m) (hm2 : m < 200)
    (hown : w2.ownsRow 0 179 1 (.slice (some ⟨gg, 0, none⟩) (m + 1) cap) (m + 1) (L.bs.map ptrV ++ [.pointer (some ⟨l.b, 0, none⟩)]))
    (hT : TxAt w2 ((m : Int) + 1) l t) (hnew : ∀ g, l.own g → w.heap.size ≤ g) (hgl : ¬ l.own gg)
    (hos : w2.os = w.os ∧ w2.tape = w.tape ∧ w2.output = w.output) (hsz : w.heap.size ≤ w2.heap.size) (hb : ∀ g, g < w.heap.size → L.av.ownBlock ≠ some g → w2.heap[g]? = w.heap[g]?) (hat : L.av.ownBlock = some gg ∨ w.heap.size ≤ gg) :
    EnAt (w2.setCell ⟨L.s, 14, none⟩ (.slice (some ⟨gg, 0, none⟩) (m + 1) cap)) { L with av := .slice (some ⟨gg, 0, none⟩) (m + 1) cap, txs := L.txs ++ [l] } { E with txs := E.txs ++ [t] } ∧
      KeptO L.own ({ L with av := .slice (some ⟨gg, 0, none⟩) (m + 1) cap, txs := L.txs ++ [l] } : EnL).own w (w2.setCell ⟨L.s, 14, none⟩ (.slice (some ⟨gg, 0, none⟩) (m + 1) cap)) := by
  obtain ⟨ρ, T⟩ := h.tag
  have hsl := h.sto.lt
  have hlen := h.len
  have hcs : L.av.ownBlock ≠ some L.s := fun e => by have h1 := T.all _ e; rw [T.eng] at h1; cases h1
  have hgs : gg ≠ L.s := by
    rcases hat with h1 | h1
    · exact fun e => hcs (e ▸ h1)
    · omega
  have hblk := setCell_at (o := 14) (v := .slice (some ⟨gg, 0, none⟩) (m + 1) cap) ((hb L.s hsl hcs).trans h.sto.blk)
  rw [P_set14 L E.last h.lv] at hblk
  have ho : ∀ g, g ≠ L.s → (w2.setCell ⟨L.s, 14, none⟩ (.slice (some ⟨gg, 0, none⟩) (m + 1) cap)).heap[g]? = w2.heap[g]? := fun g hg => heap_setCell_other _ ⟨L.s, 14, none⟩ g _ hg
  have hk : ∀ g, L.own g → ρ g ≠ .eng → ρ g ≠ .all → (w2.setCell ⟨L.s, 14, none⟩ (.slice (some ⟨gg, 0, none⟩) (m + 1) cap)).heap[g]? = w.heap[g]? := fun g hg h1 h2 =>
    (ho g (fun e => h1 (by rw [e]; exact T.eng))).trans (hb g (h.own_lt hg) (fun e => h2 (T.all g e)))
  have hls : ∀ g, l.own g → g ≠ L.s := fun g hg e => by have := hnew g hg; omega
  have hgx : ∀ {g}, (Value.slice (some ⟨gg, 0, none⟩) (m + 1) cap).ownBlock = some g → gg = g := fun hg => by simpa [Value.ownBlock] using hg
  have hbs : ({ L with av := .slice (some ⟨gg, 0, none⟩) (m + 1) cap, txs := L.txs ++ [l] } : EnL).bs = L.bs ++ [l.b] := bs_snoc L l _
  refine ⟨⟨h.sto.reblk hblk (fun g hg => hk g (.inr (.inl hg)) (by rw [T.srow g hg]; exact nofun) (by rw [T.srow g hg]; exact nofun)),
    h.loc.reblk (C' := ({ L with av := .slice (some ⟨gg, 0, none⟩) (m + 1) cap, txs := L.txs ++ [l] } : EnL).C E.last) (hblk.trans (by rw [← EnL.cells_eq]; rfl)) (fun g hg hne => hk g (.inr (.inr (.inl hg))) (by rw [T.lock g hg hne]; exact nofun) (by rw [T.lock g hg hne]; exact nofun)), h.good, ?_, ?_, ?_, ?_,
    h.wr.same (hk _ (.inr (.inr (.inr (.inr (.inl rfl))))) (by rw [T.wr]; exact nofun) (by rw [T.wr]; exact nofun)), ?_, ?_, ?_, fun g => if g < w.heap.size then ρ g else if g = gg then .all else .tx m, ?_⟩, ?_⟩
  · intro k x hx
    have := h.mem k x hx
    simp only [List.length_append, List.length_singleton]
    omega
  · rw [hbs, List.map_append, show ({ L with av := .slice (some ⟨gg, 0, none⟩) (m + 1) cap, txs := L.txs ++ [l] } : EnL).txs.length = m + 1 from by simp [hm]]
    exact owns_same hown (fun g hg => ho g (by rw [← hgx hg]; exact hgs))
  · simp [hlen]
  · simp only [List.length_append, List.length_singleton]; omega
  · have hE : (E.com.map fun i => ptrV (({ L with av := .slice (some ⟨gg, 0, none⟩) (m + 1) cap, txs := L.txs ++ [l] } : EnL).bs[i]?.getD 0)) = E.com.map fun i => ptrV (L.bs[i]?.getD 0) := by
      refine List.map_congr_left (fun i hi => ?_)
      have h1 := h.coml i hi
      rw [hbs, List.getElem?_append_left (by simp [EnL.bs]; omega)]
    show World.ownsRow _ 0 _ 1 L.cv E.com.length (E.com.map fun i => ptrV (({ L with av := .slice (some ⟨gg, 0, none⟩) (m + 1) cap, txs := L.txs ++ [l] } : EnL).bs[i]?.getD 0))
    rw [hE]
    exact owns_same h.com (fun g hg => hk g (.inr (.inr (.inr (.inr (.inr (.inl hg)))))) (by rw [T.com g hg]; exact nofun) (by rw [T.com g hg]; exact nofun))
  · intro i hi
    have := h.coml i hi
    simp only [List.length_append, List.length_singleton]; omega
  · intro i x u hx hu
    rcases Nat.lt_or_ge i m with hi | hi
    · simp only [] at hx hu
      rw [List.getElem?_append_left (by omega)] at hx
      rw [List.getElem?_append_left (by omega)] at hu
      exact (h.txs i x u hx hu).same (fun g hg => hk g (TxL.own_in (L := L) hx hg) (by rw [T.tx i x g hx hg]; exact nofun) (by rw [T.tx i x g hx hg]; exact nofun))
    · simp only [] at hx hu
      rw [List.getElem?_append_right (by omega)] at hx hu
      have hi2 : i = m := by
        have := (List.getElem?_eq_some_iff.1 hx).1
        simp at this
        omega
      subst hi2
      rw [show i - L.txs.length = 0 from by omega] at hx
      rw [show i - E.txs.length = 0 from by omega] at hu
      simp at hx hu
      subst hx hu
      exact hT.same (fun g hg => ho g (hls g hg))
  · have hlt : ∀ g, L.own g → (if g < w.heap.size then ρ g else if g = gg then Tag.all else .tx m) = ρ g := fun g hg => if_pos (h.own_lt hg)
    refine ⟨(hlt _ (.inl rfl)).trans T.eng, fun g hg => (hlt g (.inr (.inl hg))).trans (T.srow g hg), fun g hg hn => (hlt g (.inr (.inr (.inl hg)))).trans (T.lock g hg hn), fun g hg => ?_, (hlt _ (.inr (.inr (.inr (.inr (.inl rfl)))))).trans T.wr,
      fun g hg => (hlt g (.inr (.inr (.inr (.inr (.inr (.inl hg))))))).trans (T.com g hg), fun j x g hx hg => ?_⟩
    · have := hgx hg
      subst this
      rcases hat with h1 | h1
      · exact (hlt gg (.inr (.inr (.inr (.inl h1))))).trans (T.all gg h1)
      · simp only [if_neg (Nat.not_lt.2 h1), if_pos]
    · rcases Nat.lt_or_ge j m with hi | hi
      · simp only [] at hx
        rw [List.getElem?_append_left (by omega)] at hx
        exact (hlt g (TxL.own_in (L := L) hx hg)).trans (T.tx j x g hx hg)
      · simp only [] at hx
        rw [List.getElem?_append_right (by omega)] at hx
        have hi2 : j = m := by
          have := (List.getElem?_eq_some_iff.1 hx).1
          simp at this
          omega
        subst hi2
        rw [show j - L.txs.length = 0 from by omega] at hx
        simp at hx
        subst hx
        have h1 := hnew g hg
        have h2 : g ≠ gg := fun e => hgl (e ▸ hg)
        simp only [if_neg (Nat.not_lt.2 h1), if_neg h2]
  · refine ⟨hos.1, hos.2.1, hos.2.2, by simpa using hsz, fun g hg hn => (ho g (fun e => hn (.inl e))).trans (hb g hg (fun e => hn (.inr (.inr (.inr (.inl e)))))), fun g hg => ?_⟩
    rcases hg with h1 | h1 | h1 | h1 | h1 | h1 | ⟨x, hx, h1⟩
    · exact .inl (.inl h1)
    · exact .inl (.inr (.inl h1))
    · exact .inl (.inr (.inr (.inl h1)))
    · have := hgx h1
      subst this
      rcases hat with h2 | h2
      · exact .inl (.inr (.inr (.inr (.inl h2))))
      · exact .inr h2
    · exact .inl (.inr (.inr (.inr (.inr (.inl h1)))))
    · exact .inl (.inr (.inr (.inr (.inr (.inr (.inl h1))))))
    · rcases List.mem_append.1 hx with h2 | h2
      · exact .inl (.inr (.inr (.inr (.inr (.inr (.inr ⟨x, h2, h1⟩))))))
      · rw [List.mem_singleton.1 h2] at h1
        exact .inr (hnew g h1)

end Go.Proofs.YtjefgmeejhakbaaGreatDoor

/- base's Disk in memory: what was written. -/
namespace Go.Proofs.YtjefgmeejhakbaaGreatDoor
open Go.RowKit

/-- A disk: of each place its bytes; whether the power goes off, and behind how many writes. -/
structure Dsk where
  pl : List (List Int)
  cut : Bool
  left : Int
/-- Bytes, by a slice. -/
def BytesV (w : World) (v : Value) (l : List Int) : Prop := (∀ g, v.ownBlock = some g → g < w.heap.size) ∧ ∃ ad cap, v = .slice ad l.length cap ∧ l.length ≤ cap ∧ ∀ (i : Nat) (x : Int), l[i]? = some x → ∃ g off, ad = some ⟨g, off, none⟩ ∧ w.cell? ⟨g, off + i, none⟩ = some (.int .u8 x)
structure DiskAt (w : World) (d : Nat) (dv : List Value) (D : Dsk) : Prop where
  blk : w.heap[d]? = some (.cells (dv ++ [Value.bool D.cut, Value.int .i64 D.left]).toArray 96 (0, 0))
  lv : dv.length = 250
  lp : D.pl.length = 250
  row : ∀ (i : Nat) (v : Value) (l : List Int), dv[i]? = some v → D.pl[i]? = some l → BytesV w v l
  fin : ∀ l ∈ D.pl, l.length ≤ 200 ∧ ∀ x ∈ l, 0 ≤ x ∧ x < 256
theorem row_bytes {w : World} {v : Value} {l : List Int} (h : BytesV w v l) (hl : ∀ x ∈ l, 0 ≤ x ∧ x < 256) : ∃ ad cap, v = .slice ad l.length cap ∧ l.length ≤ cap ∧ BytesAt w ad l ∧ (0 < l.length → ∃ g off, ad = some ⟨g, off, none⟩ ∧ g < w.heap.size) := by
  obtain ⟨_, ad, cap, e, hc, hx⟩ := h
  refine ⟨ad, cap, e, hc, fun i x hi => ?_, fun h0 => ?_⟩
  · obtain ⟨g, off, e1, h2⟩ := hx i x hi
    exact ⟨hl x (List.mem_of_getElem? hi), g, off, e1, h2⟩
  · obtain ⟨g, off, e1, h1⟩ := hx 0 _ (List.getElem?_eq_getElem h0)
    exact ⟨g, off, e1, World.block_lt_of_cell? w _ h1⟩
theorem bytesV_own {w : World} {base : Nat} {v : Value} {l : List Int} (h : w.ownsRow base 5 1 v l.length (u8V l)) : BytesV w v l := by
  refine ⟨fun g hg => (h.lt g hg).2, ?_⟩
  rcases h.2 with ⟨e, e0⟩ | ⟨g, cap, cur, e, hb, hg, hle, hm, hs, hx⟩
  · exact ⟨none, 0, by rw [e, e0], by omega, fun i x hx => by have := (List.getElem?_eq_some_iff.1 hx).1; omega⟩
  · refine ⟨some ⟨g, 0, none⟩, cap, e, hle, fun i x hi => ⟨g, 0, rfl, ?_⟩⟩
    rcases row_slice h with ⟨e', _⟩ | ⟨g', cap', e', _, hc⟩
    · rw [e] at e'; cases e'
    · rw [e] at e'
      cases e'
      rw [Nat.zero_add]
      exact hc _ _ (u8V_get hi)
theorem BytesV.same {w w' : World} {v : Value} {l : List Int} (h : BytesV w v l) (hz : w.heap.size ≤ w'.heap.size) (hs : ∀ (g o : Nat) (x : Int), v.ownBlock = some g → w.cell? ⟨g, o, none⟩ = some (.int .u8 x) → w'.heap[g]? = w.heap[g]?) : BytesV w' v l := by
  obtain ⟨h0, ad, cap, e, hc, hx⟩ := h
  refine ⟨fun g hg => Nat.lt_of_lt_of_le (h0 g hg) hz, ad, cap, e, hc, fun i x hi => ?_⟩
  obtain ⟨g, off, e1, h2⟩ := hx i x hi
  exact ⟨g, off, e1, (World.cell?_of_block (a := ⟨g, off + i, none⟩) (hs g (off + i) x (by rw [e, e1]; rfl) h2)).trans h2⟩
/-- Blocks that a disk has. -/
def dOwn (d : Nat) (dv : List Value) (g : Nat) : Prop := g = d ∨ ∃ (i : Nat) (v : Value), dv[i]? = some v ∧ v.ownBlock = some g
section
variable {w w' : World} {d : Nat} {dv : List Value} {D : Dsk}
theorem DiskAt.get (h : DiskAt w d dv D) {i : Nat} (hi : i < 250) : ∃ v l, dv[i]? = some v ∧ D.pl[i]? = some l ∧ w.cell? ⟨d, i, none⟩ = some v := by
  refine ⟨dv[i]'(by rw [h.lv]; exact hi), D.pl[i]'(by rw [h.lp]; exact hi), List.getElem?_eq_getElem _, List.getElem?_eq_getElem _, ?_⟩
  refine (cell_of_row w d i _ _ (0, 0) h.blk).trans ?_
  rw [List.getElem?_toArray, List.getElem?_append_left (by rw [h.lv]; exact hi), List.getElem?_eq_getElem]
theorem DiskAt.lt (h : DiskAt w d dv D) : d < w.heap.size := (Array.getElem?_eq_some_iff.1 h.blk).1
theorem DiskAt.same (h : DiskAt w d dv D) (hz : w.heap.size ≤ w'.heap.size) (hs : ∀ g, dOwn d dv g → w'.heap[g]? = w.heap[g]?) : DiskAt w' d dv D :=
  ⟨(hs d (.inl rfl)).trans h.blk, h.lv, h.lp, fun i v l hv hl => (h.row i v l hv hl).same hz (fun g _ _ hg _ => hs g (.inr ⟨i, v, hv, hg⟩)), h.fin⟩
theorem DiskAt.own_lt (h : DiskAt w d dv D) {g : Nat} (hg : dOwn d dv g) : g < w.heap.size := by
  rcases hg with rfl | ⟨i, v, hv, hg⟩
  · exact h.lt
  · have hi : i < 250 := by rw [← h.lv]; exact (List.getElem?_eq_some_iff.1 hv).1
    obtain ⟨_, l, _, hl, _⟩ := h.get hi
    exact (h.row i v l hv hl).1 g hg
theorem DiskAt.below (h : DiskAt w d dv D) (hB : Below w.heap.size w w') : DiskAt w' d dv D := h.same hB.size (fun g hg => hB.block g (h.own_lt hg))

set_option maxRecDepth 100000 in
set_option maxHeartbeats 400000 in
theorem isWritten_any (h : DiskAt w d dv D) {i : Nat} {l : List Int} (hi : i < 250) (hl : D.pl[i]? = some l) :
    Calls Tryz.prog 154 #[.pointer (some ⟨d, 0, none⟩), .int .i64 (i : Int)] w fun e w' => e = .returned (.bool (wholeP l)) ∧ ∃ q, w' = w.drewN q := by
  obtain ⟨v, l', hv, hl', hc⟩ := h.get hi
  rw [hl] at hl'
  cases hl'
  obtain ⟨ad, cap, rfl, hcap, hA, _⟩ := row_bytes (h.row i v l hv hl) (h.fin l (List.mem_of_getElem? hl)).2
  have hle := (h.fin l (List.mem_of_getElem? hl)).1
  have HW := hid (whole_any ad cap l w (by omega) hcap hA)
  have gi0 : (0 : Int) ≤ (i : Int) := by omega
  have gi1 : (i : Int) < 250 := by omega
  clear h hA hv hl
  go_enter Tryz.func154, Tryz.ntmps154
  go_wp2_with fail
  refine HW.out.mono ?_
  rintro e w1 ⟨rfl, q, hq⟩
  rw [hq]
  clear hq w1 HW
  go_wp2
  go_ret
  exact ⟨rfl, q, rfl⟩
end

end Go.Proofs.YtjefgmeejhakbaaGreatDoor
