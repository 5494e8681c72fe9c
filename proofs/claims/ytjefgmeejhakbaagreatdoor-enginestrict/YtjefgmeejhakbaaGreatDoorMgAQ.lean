/- EnBegin EnAdd OrWrit OrPop: put together for a claim. -/
import Derived.Test.YtjefgmeejhakbaaGreatDoorMgAP
import Derived.Test.YtjefgmeejhakbaaGreatDoorOrOps
import Derived.Test.YtjefgmeejhakbaaGreatDoorMgAN
import Derived.Lib.SliceRun
/- engine.newTransaction; one more transaction. -/
namespace Go.Proofs.YtjefgmeejhakbaaGreatDoor
open Go.RowKit

variable {w w' : World} {L : EnL} {E : Eng}
def newTx (level start : Int) : Tx := ⟨level, start, 0, 0, 0, 0, 0, fun _ => none, [], List.replicate 10 false, fun _ => false, fun _ => false⟩
def newL (B : Nat) : TxL := ⟨B + 3, B, .slice none 0 0, B + 1, B + 2⟩
def newCells (n level start : Int) (B : Nat) : Array Value := #[.int .i64 n, .int .i64 level, .int .i64 start, .int .i64 0, .int .i64 0, .int .i64 0, .int .i64 0, .int .i64 0, .map (some B), .slice none 0 0, .bool false, .bool false, .bool false, .bool false, .bool false, .bool false, .bool false, .bool false, .bool false, .bool false, .map (some (B + 1)), .map (some (B + 2))]
def newW (w : World) (n level start : Int) : World := (((w.alloc (.map #[] 0)).alloc (.map #[] 0)).alloc (.map #[] 0)).alloc (.cells (newCells n level start w.heap.size) 183)
theorem newW_at (w : World) (n level start : Int) : TxAt (newW w n level start) n (newL w.heap.size) (newTx level start) ∧ Below w.heap.size w (newW w n level start) := by
  have s1 : (w.alloc (.map #[] 0)).heap.size = w.heap.size + 1 := by simp
  have s2 : ((w.alloc (.map #[] 0)).alloc (.map #[] 0)).heap.size = w.heap.size + 2 := by simp
  have s3 : (((w.alloc (.map #[] 0)).alloc (.map #[] 0)).alloc (.map #[] 0)).heap.size = w.heap.size + 3 := by simp
  have m1 := IMap.made w
  have m2 := IMap.made (w.alloc (.map #[] 0))
  have m3 := IMap.made ((w.alloc (.map #[] 0)).alloc (.map #[] 0))
  rw [s1] at m2
  rw [s2] at m3
  have m1' : IMap (newW w n level start) w.heap.size 0 (fun _ => none) := m1.same (((Below.heap_alloc _ _ _ (by rw [s3]; omega)).trans (Below.heap_alloc _ _ _ (by rw [s2]; omega))).trans (Below.heap_alloc _ _ _ (by rw [s1]; omega)))
  have m2' : IMap (newW w n level start) (w.heap.size + 1) 0 (fun _ => none) := m2.same ((Below.heap_alloc _ _ _ (by rw [s3]; omega)).trans (Below.heap_alloc _ _ _ (by rw [s2]; omega)))
  have m3' : IMap (newW w n level start) (w.heap.size + 2) 0 (fun _ => none) := m3.same (Below.heap_alloc _ _ _ (by rw [s3]; omega))
  have hb := heap_alloc_new (((w.alloc (.map #[] 0)).alloc (.map #[] 0)).alloc (.map #[] 0)) (.cells (newCells n level start w.heap.size) 183)
  rw [s3] at hb
  refine ⟨⟨hb, m1'.mono (Nat.zero_le _), ?_, m2'.mono (Nat.zero_le _), m3'.mono (Nat.zero_le _), ?_, ?_, ?_, rfl, fun _ h => (h rfl).elim, fun _ h => (by cases h), fun _ h => (by cases h), ?_⟩, ?_⟩
  · exact World.ownsRow_nil _ 0 90 4
  · show w.heap.size ≠ w.heap.size + 1; omega
  · show w.heap.size ≠ w.heap.size + 2; omega
  · show w.heap.size + 1 ≠ w.heap.size + 2; omega
  · show (0 : Int) ≤ 0 ∧ (0 : Int) < 10; omega
  · exact ((((Below.refl _ w).alloc (Nat.le_refl _) _).alloc (by rw [s1]; omega) _).alloc (by rw [s2]; omega) _).alloc (by rw [s3]; omega) _

set_option maxRecDepth 100000 in
set_option maxHeartbeats 1000000 in
theorem newTx_any (w : World) (n level start : Int) :
    Calls Tryz.prog 110 #[.int .i64 n, .int .i64 level, .int .i64 start] w fun e w' => e = .returned (.pointer (some ⟨w.heap.size + 3, 0, none⟩)) ∧ w' = newW w n level start := by
  have hmm := @run_makeMap Tryz.prog
  go_enter Tryz.func110, Tryz.ntmps110
  go_wp2
  go_ret
  exact ⟨rfl, rfl⟩

end Go.Proofs.YtjefgmeejhakbaaGreatDoor

/- One more transaction. -/
namespace Go.Proofs.YtjefgmeejhakbaaGreatDoor
open Go.RowKit

variable {w w' : World} {L : EnL} {E : Eng}
theorem bs_snoc (L : EnL) (l : TxL) (v : Value) : ({ L with av := v, txs := L.txs ++ [l] } : EnL).bs = L.bs ++ [l.b] := by simp [EnL.bs]
theorem EnAt.addTx (h : EnAt w L E) {l : TxL} {t : Tx} {w2 : World} {gg cap m : Nat} (hm : L.txs.length = m) (hm2 : m < 200)
    (hown : w2.ownsRow 0 179 1 (.slice (some ⟨gg, 0, none⟩) (m + 1) cap) (m + 1) (L.bs.map ptrV ++ [.pointer (some ⟨l.b, 0, none⟩)]))
    (hT : TxAt w2 ((m : Int) + 1) l t) (hnew : ∀ g, l.own g → w.heap.size ≤ g) (hgl : ¬ l.own gg)
    (hos : w2.os = w.os ∧ w2.tape = w.tape ∧ w2.output = w.output) (hsz : w.heap.size ≤ w2.heap.size) (hb : ∀ g, g < w.heap.size → L.av.ownBlock ≠ some g → w2.heap[g]? = w.heap[g]?) (hat : L.av.ownBlock = some gg ∨ w.heap.size ≤ gg) :
    EnAt (w2.setCell ⟨L.s, 14, none⟩ (.slice (some ⟨gg, 0, none⟩) (m + 1) cap)) { L with av := .slice (some ⟨gg, 0, none⟩) (m + 1) cap, txs := L.txs ++ [l] } { E with txs := E.txs ++ [t] } ∧
      KeptO L.own ({ L with av := .slice (some ⟨gg, 0, none⟩) (m + 1) cap, txs := L.txs ++ [l] } : EnL).own w (w2.setCell ⟨L.s, 14, none⟩ (.slice (some ⟨gg, 0, none⟩) (m + 1) cap)) := by
  obtain ⟨ρ, T⟩ := h.tag
  have hsl := h.sto.lt
  have hlen := h.len
  have hcs : L.av.ownBlock ≠ some L.s := fun e => by have h1 := T.all _ e; rw [T.eng] at h1; cases h1
  have hgs : gg ≠ L.s := by
    rcases hat with h1 | h1
    · exact fun e => hcs (e ▸ h1)
    · omega
  have hblk := setCell_at (o := 14) (v := .slice (some ⟨gg, 0, none⟩) (m + 1) cap) ((hb L.s hsl hcs).trans h.sto.blk)
  rw [P_set14 L E.last h.lv] at hblk
  have ho : ∀ g, g ≠ L.s → (w2.setCell ⟨L.s, 14, none⟩ (.slice (some ⟨gg, 0, none⟩) (m + 1) cap)).heap[g]? = w2.heap[g]? := fun g hg => heap_setCell_other _ ⟨L.s, 14, none⟩ g _ hg
  have hk : ∀ g, L.own g → ρ g ≠ .eng → ρ g ≠ .all → (w2.setCell ⟨L.s, 14, none⟩ (.slice (some ⟨gg, 0, none⟩) (m + 1) cap)).heap[g]? = w.heap[g]? := fun g hg h1 h2 =>
    (ho g (fun e => h1 (by rw [e]; exact T.eng))).trans (hb g (h.own_lt hg) (fun e => h2 (T.all g e)))
  have hls : ∀ g, l.own g → g ≠ L.s := fun g hg e => by have := hnew g hg; omega
  have hgx : ∀ {g}, (Value.slice (some ⟨gg, 0, none⟩) (m + 1) cap).ownBlock = some g → gg = g := fun hg => by simpa [Value.ownBlock] using hg
  have hbs : ({ L with av := .slice (some ⟨gg, 0, none⟩) (m + 1) cap, txs := L.txs ++ [l] } : EnL).bs = L.bs ++ [l.b] := bs_snoc L l _
  refine ⟨⟨h.sto.reblk hblk (fun g hg => hk g (.inr (.inl hg)) (by rw [T.srow g hg]; exact nofun) (by rw [T.srow g hg]; exact nofun)),
    h.loc.reblk (C' := ({ L with av := .slice (some ⟨gg, 0, none⟩) (m + 1) cap, txs := L.txs ++ [l] } : EnL).C E.last) (hblk.trans (by rw [← EnL.cells_eq]; rfl)) (fun g hg hne => hk g (.inr (.inr (.inl hg))) (by rw [T.lock g hg hne]; exact nofun) (by rw [T.lock g hg hne]; exact nofun)), h.good, ?_, ?_, ?_, ?_,
    h.wr.same (hk _ (.inr (.inr (.inr (.inr (.inl rfl))))) (by rw [T.wr]; exact nofun) (by rw [T.wr]; exact nofun)), ?_, ?_, ?_, fun g => if g < w.heap.size then ρ g else if g = gg then .all else .tx m, ?_⟩, ?_⟩
  · intro k x hx
    have := h.mem k x hx
    simp only [List.length_append, List.length_singleton]
    omega
  · rw [hbs, List.map_append, show ({ L with av := .slice (some ⟨gg, 0, none⟩) (m + 1) cap, txs := L.txs ++ [l] } : EnL).txs.length = m + 1 from by simp [hm]]
    exact owns_same hown (fun g hg => ho g (by rw [← hgx hg]; exact hgs))
  · simp [hlen]
  · simp only [List.length_append, List.length_singleton]; omega
  · have hE : (E.com.map fun i => ptrV (({ L with av := .slice (some ⟨gg, 0, none⟩) (m + 1) cap, txs := L.txs ++ [l] } : EnL).bs[i]?.getD 0)) = E.com.map fun i => ptrV (L.bs[i]?.getD 0) := by
      refine List.map_congr_left (fun i hi => ?_)
      have h1 := h.coml i hi
      rw [hbs, List.getElem?_append_left (by simp [EnL.bs]; omega)]
    show World.ownsRow _ 0 _ 1 L.cv E.com.length (E.com.map fun i => ptrV (({ L with av := .slice (some ⟨gg, 0, none⟩) (m + 1) cap, txs := L.txs ++ [l] } : EnL).bs[i]?.getD 0))
    rw [hE]
    exact owns_same h.com (fun g hg => hk g (.inr (.inr (.inr (.inr (.inr (.inl hg)))))) (by rw [T.com g hg]; exact nofun) (by rw [T.com g hg]; exact nofun))
  · intro i hi
    have := h.coml i hi
    simp only [List.length_append, List.length_singleton]; omega
  · intro i x u hx hu
    rcases Nat.lt_or_ge i m with hi | hi
    · simp only [] at hx hu
      rw [List.getElem?_append_left (by omega)] at hx
      rw [List.getElem?_append_left (by omega)] at hu
      exact (h.txs i x u hx hu).same (fun g hg => hk g (TxL.own_in (L := L) hx hg) (by rw [T.tx i x g hx hg]; exact nofun) (by rw [T.tx i x g hx hg]; exact nofun))
    · simp only [] at hx hu
      rw [List.getElem?_append_right (by omega)] at hx hu
      have hi2 : i = m := by
        have := (List.getElem?_eq_some_iff.1 hx).1
        simp at this
        omega
      subst hi2
      rw [show i - L.txs.length = 0 from by omega] at hx
      rw [show i - E.txs.length = 0 from by omega] at hu
      simp at hx hu
      subst hx hu
      exact hT.same (fun g hg => ho g (hls g hg))
  · have hlt : ∀ g, L.own g → (if g < w.heap.size then ρ g else if g = gg then Tag.all else .tx m) = ρ g := fun g hg => if_pos (h.own_lt hg)
    refine ⟨(hlt _ (.inl rfl)).trans T.eng, fun g hg => (hlt g (.inr (.inl hg))).trans (T.srow g hg), fun g hg hn => (hlt g (.inr (.inr (.inl hg)))).trans (T.lock g hg hn), fun g hg => ?_, (hlt _ (.inr (.inr (.inr (.inr (.inl rfl)))))).trans T.wr,
      fun g hg => (hlt g (.inr (.inr (.inr (.inr (.inr (.inl hg))))))).trans (T.com g hg), fun j x g hx hg => ?_⟩
    · have := hgx hg
      subst this
      rcases hat with h1 | h1
      · exact (hlt gg (.inr (.inr (.inr (.inl h1))))).trans (T.all gg h1)
      · simp only [if_neg (Nat.not_lt.2 h1), if_pos]
    · rcases Nat.lt_or_ge j m with hi | hi
      · simp only [] at hx
        rw [List.getElem?_append_left (by omega)] at hx
        exact (hlt g (TxL.own_in (L := L) hx hg)).trans (T.tx j x g hx hg)
      · simp only [] at hx
        rw [List.getElem?_append_right (by omega)] at hx
        have hi2 : j = m := by
          have := (List.getElem?_eq_some_iff.1 hx).1
          simp at this
          omega
        subst hi2
        rw [show j - L.txs.length = 0 from by omega] at hx
        simp at hx
        subst hx
        have h1 := hnew g hg
        have h2 : g ≠ gg := fun e => hgl (e ▸ hg)
        simp only [if_neg (Nat.not_lt.2 h1), if_neg h2]
  · refine ⟨hos.1, hos.2.1, hos.2.2, by simpa using hsz, fun g hg hn => (ho g (fun e => hn (.inl e))).trans (hb g hg (fun e => hn (.inr (.inr (.inr (.inl e)))))), fun g hg => ?_⟩
    rcases hg with h1 | h1 | h1 | h1 | h1 | h1 | ⟨x, hx, h1⟩
    · exact .inl (.inl h1)
    · exact .inl (.inr (.inl h1))
    · exact .inl (.inr (.inr (.inl h1)))
    · have := hgx h1
      subst this
      rcases hat with h2 | h2
      · exact .inl (.inr (.inr (.inr (.inl h2))))
      · exact .inr h2
    · exact .inl (.inr (.inr (.inr (.inr (.inl h1)))))
    · exact .inl (.inr (.inr (.inr (.inr (.inr (.inl h1))))))
    · rcases List.mem_append.1 hx with h2 | h2
      · exact .inl (.inr (.inr (.inr (.inr (.inr (.inr ⟨x, h2, h1⟩))))))
      · rw [List.mem_singleton.1 h2] at h1
        exact .inr (hnew g h1)

end Go.Proofs.YtjefgmeejhakbaaGreatDoor

/- The writers of a key in memory: (*writers).behind, add. -/
namespace Go.Proofs.YtjefgmeejhakbaaGreatDoor
open Go.RowKit

def firstV (s : List Int) (x : Int) : Option Value := (firstAt x s).map (fun i => Value.int .i64 (i : Nat))
structure WrAt (w : World) (K k : Nat) (av : Value) (mv : Option Nat) (s : List Int) : Prop where
  c0 : w.cell? ⟨K, k, none⟩ = some av
  c1 : w.cell? ⟨K, k + 1, none⟩ = some (.map mv)
  row : w.ownsRow 0 3 1 av s.length (intsV s)
  map : MapIs w mv s.length (firstV s)

set_option maxRecDepth 100000 in
set_option maxHeartbeats 1000000 in
theorem behindW_any (K k : Nat) (av : Value) (mv : Option Nat) (s : List Int) (x : Int) (w : World) (h : WrAt w K k av mv s) (hx : I64 x) (hn : s.length ≤ 100000) :
    Calls Tryz.prog 123 #[.pointer (some ⟨K, k, none⟩), .int .i64 x] w fun e w' => w' = w ∧
      (x = 0 → e = .returned (.tuple #[.int .i64 0, .bool true])) ∧ (x ≠ 0 → ∀ i, firstAt x s = some i → e = .returned (.tuple #[.int .i64 ((i : Int) + 1), .bool true])) ∧ (x ≠ 0 → firstAt x s = none → e = .returned (.tuple #[.int .i64 0, .bool false])) := by
  have c1 := h.c1
  have hl := h.map.look Tryz.underlying69 (zeroI w) hx
  clear h
  by_cases h0 : x = 0
  · subst h0
    clear hl
    go_enter Tryz.func123, Tryz.ntmps123
    go_wp2
    go_ret2
    exact ⟨rfl, fun _ => rfl, fun h => (h rfl).elim, fun h => (h rfl).elim⟩
  · have e0 : (x == 0) = false := by simpa using h0
    cases hf : firstAt x s with
    | none =>
      simp only [firstV, hf, Option.map_none, Option.getD_none, Option.isSome_none] at hl
      clear hf
      go_enter Tryz.func123, Tryz.ntmps123
      go_wp2
      go_ret2
      exact ⟨rfl, fun e => (h0 e).elim, fun _ i e => (by cases e), fun _ _ => rfl⟩
    | some i =>
      have hi := firstAt_lt hf
      simp only [firstV, hf, Option.map_some, Option.getD_some, Option.isSome_some] at hl
      clear hf
      go_enter Tryz.func123, Tryz.ntmps123
      go_wp2
      go_ret2
      exact ⟨rfl, fun e => (h0 e).elim, fun _ i e => (by cases e; rfl), fun _ e => (by cases e)⟩

end Go.Proofs.YtjefgmeejhakbaaGreatDoor

/- The queue's Pop; container/heap over it. -/
namespace Go.Proofs.YtjefgmeejhakbaaGreatDoor
open Go.RowKit
open Go.Sort (swp swp_left swp_right swp_other size_swp)

set_option maxRecDepth 100000 in
set_option maxHeartbeats 2000000 in
theorem qPop (Q : Nat) (v : Value) (d : Array Int) (w : World) (h : QAt w Q v d) (hd : d.size ≤ 100000) (h0 : 0 < d.size) :
    Calls Tryz.prog 271 #[.pointer (some ⟨Q, 0, none⟩)] w fun e w' => ∃ u, e = .returned u ∧ ∃ v', QAt w' Q v' d.pop ∧ KeptO (qOwn Q v) (qOwn Q v') w w' := by
  have c0 := h.cell
  have f0 := h.free
  obtain ⟨g, cap, rfl, hg, _, hc⟩ := h.rowAt h0
  have c1 := hc (d.size - 1) (by omega)
  obtain ⟨n, hn⟩ : ∃ n, d.size = n + 1 := ⟨d.size - 1, by omega⟩
  have hcap : n + 1 ≤ cap ∧ cap ≤ maxLen := by
    rcases h.row.2 with ⟨e, _⟩ | ⟨g', cap', cur, e, _, _, h1, h2, _⟩
    · cases e
    · cases e; rw [hn] at h1; exact ⟨h1, h2⟩
  have HH := hid h
  rw [hn] at c0 c1 HH ⊢
  rw [Nat.add_sub_cancel] at c1
  have hn1 : ((n + 1 : Nat) : Int) - 1 = (n : Int) := by omega
  clear h hc
  go_enter Tryz.func271, Tryz.ntmps271
  go_wp2
  go_ret
  have hg0 : w.grownBy w (some g) := ⟨rfl, rfl, rfl, Nat.le_refl _, fun _ _ _ => rfl⟩
  have hp := HH.out.put (d' := d.pop) (u := .slice (some ⟨g, 0, none⟩) n cap) hg0 ?_ (fun g' e => .inl e)
  · exact ⟨_, rfl, _, hp⟩
  · have hz : d.pop.size = n := by rw [Array.size_pop, hn]; rfl
    have hl : d.pop.toList = d.toList.take n := by rw [Array.toList_pop, List.dropLast_eq_take, Array.length_toList, hn]; rfl
    rw [hz, hl]
    refine ⟨by simp [intsV, hn], ?_⟩
    have hr := HH.out.row
    rw [hn] at hr
    rcases hr.2 with ⟨e, _⟩ | ⟨g', cap', cur, e, hb, hgg, _, h2, h3, h4⟩
    · cases e
    · cases e
      refine .inr ⟨g, cap, cur, rfl, hb, hgg, by omega, h2, h3, ?_⟩
      have e4 : intsV (d.toList.take n) = (intsV d.toList).take n := by simp [intsV, List.map_take]
      rw [e4, ← h4, List.take_take]
      congr 1
      omega

def qI (Q : Nat) : Value := .iface 148 (.pointer (some ⟨Q, 0, none⟩))

set_option maxRecDepth 100000 in
set_option maxHeartbeats 600000 in
theorem up_any (Q : Nat) (v : Value) (d : Array Int) (j : Nat) (w : World) (h : QAt w Q v d) (hd : d.size ≤ 100000) (hj : j < d.size) (hu : UpHole d d.size j) :
    Calls Tryz.prog 130 #[.iface 148 (.pointer (some ⟨Q, 0, none⟩)), .int .i64 j] w fun e w' => e = .returned (.tuple #[]) ∧ ∃ d', QAt w' Q v d' ∧ HeapP d' d'.size ∧ d'.toList.Perm d.toList ∧ KeptO (qOwn Q v) (qOwn Q v) w w' := by
  have H0 := hid h
  have HU := hid hu
  clear h hu
  go_enter Tryz.func130, Tryz.ntmps130
  go_wp2
  go_loopw [1] (fun vj wr => ∃ (j : Nat) (dk : Array Int), vj = .int .i64 j ∧ j < dk.size ∧ dk.size = d.size ∧ QAt wr Q v dk ∧ UpHole dk dk.size j ∧ dk.toList.Perm d.toList ∧ KeptO (qOwn Q v) (qOwn Q v) w wr) (fun vj _ => (intOf vj).toNat)
  case atStart => exact ⟨j, d, rfl, hj, rfl, H0.out, HU.out, List.Perm.refl _, KeptO.refl _ _⟩
  case round =>
    obtain ⟨j, dk, rfl, hj, hs, hQ, hu, hp, hK⟩ := hrel
    have HR := hid (And.intro hQ (And.intro hu (And.intro hp hK)))
    have hdk : dk.size ≤ 100000 := by omega
    have HS := hid hs
    clear hs
    have c0 := hQ.cell
    obtain ⟨g, cap, rfl, hg, hfz, hc⟩ := hQ.rowAt (by omega)
    by_cases hj0 : j = 0
    · subst hj0
      have HU1 := hid (up_zero hu)
      clear hQ hu hp hK hc
      go_wp2
      refine bodyPost_end (results_none rfl _ _ _) rfl ?_
      exact ⟨rfl, dk, HR.out.1, HU1.out, HR.out.2.2⟩
    · obtain ⟨i, hi⟩ : ∃ i, (j - 1) / 2 = i := ⟨_, rfl⟩
      have hij : i < j := by omega
      have hq : Int.tdiv ((j : Int) - 1) 2 = (i : Int) := by rw [Int.tdiv_eq_ediv_of_nonneg (by omega)]; omega
      have e1 : ((i : Int) == (j : Int)) = false := by simp; omega
      have cj := hc j hj
      have ci := hc i (by omega)
      have fj := hfz j
      have fi := hfz i
      have hmL := mLess c0
      have hmS : ∀ q, (method 464 148 (.pointer (some ⟨Q, 0, none⟩)) "Swap").run Tryz.prog (wr.drewN q) = .ok (270, .slice (some ⟨g, 0, none⟩) dk.size cap) (wr.drewN q) := fun q => mSwap (hQ.below (below_drewN (Below.refl _ _) q)).cell
      obtain ⟨x, hx⟩ : ∃ x, dk[j]! = x := ⟨_, rfl⟩
      obtain ⟨y, hy⟩ : ∃ y, dk[i]! = y := ⟨_, rfl⟩
      rw [hx] at cj
      rw [hy] at ci
      by_cases hlt : x < y
      · have hb : decide (x < y) = true := by simpa using hlt
        have HU1 := hid (up_step hu (by omega) hj (Nat.le_refl _) (by rw [hi, hx, hy]; exact hlt))
        clear hQ hu hp hK hc hfz
        go_wp2_with (first
          | (go_at_call 269; refine (qLess g dk.size cap j i x y _ hj (by omega) cj ci).mono ?_; rw [hb]; rintro e w' ⟨rfl, q, rfl⟩)
          | (go_at_call 270; refine (qSwap g dk.size cap i j y x _ (by omega) hj (by simpa using ci) (by simpa using cj) (by simpa using fi) (by simpa using fj)).mono ?_; rintro e w' ⟨rfl, q2, rfl⟩))
        go_roundw
        case rel =>
          have hsw := (HR.out.1.below (below_drewN (Below.refl _ _) q)).swapped (g := g) (i := i) (j := j) rfl q2
          rw [hx, hy] at hsw
          refine ⟨i, swp dk i j, rfl, by rw [size_swp]; omega, by rw [size_swp]; exact HS.out, hsw.1, ?_, ?_, (HR.out.2.2.2.drewN q).trans hsw.2⟩
          · rw [size_swp, ← hi]; exact HU1.out
          · exact (swp_perm dk i j (by omega) hj).trans HR.out.2.2.1
        case measure => simp [intOf]; omega
      · have hb : decide (x < y) = false := by simpa using hlt
        have HU1 := hid (up_stop hu (by rw [hi, hx, hy]; omega))
        clear hQ hu hp hK hc hfz
        go_wp2_with (go_at_call 269; refine (qLess g dk.size cap j i x y _ hj (by omega) cj ci).mono ?_; rw [hb]; rintro e w' ⟨rfl, q, rfl⟩)
        refine bodyPost_end (results_none rfl _ _ _) rfl ?_
        exact ⟨rfl, dk, HR.out.1.below (below_drewN (Below.refl _ _) q), HU1.out, HR.out.2.2.1, HR.out.2.2.2.drewN q⟩

set_option maxRecDepth 100000 in
set_option maxHeartbeats 1000000 in
theorem heapPush_any (Q : Nat) (v : Value) (d : Array Int) (x : Int) (w : World) (h : QAt w Q v d) (hd : d.size ≤ 10000) (hh : HeapP d d.size) :
    Calls Tryz.prog 72 #[.iface 148 (.pointer (some ⟨Q, 0, none⟩)), .iface 3 (.int .i64 x)] w fun e w' => e = .returned (.tuple #[]) ∧ ∃ v' d', QAt w' Q v' d' ∧ HeapP d' d'.size ∧ d'.toList.Perm (x :: d.toList) ∧ KeptO (qOwn Q v) (qOwn Q v') w w' := by
  have H0 := hid h
  have HH := hid hh
  have hm := mPush Q
  clear h hh
  go_enter Tryz.func72, Tryz.ntmps72
  go_wp2_with fail
  refine (qPush Q v d x w H0.out (by omega)).mono ?_
  rintro e w1 ⟨rfl, v1, hQ1, hK1⟩
  obtain ⟨ad, cap, rfl⟩ := hQ1.form
  have hmL := mLen hQ1.cell
  have hsz : (d.push x).size = d.size + 1 := Array.size_push ..
  have H1 := hid hQ1
  have HK := hid hK1
  rw [hsz] at hmL H1 HK
  clear hQ1 hK1
  go_wp2_with fail
  refine (qLen ad (d.size + 1) cap w1).mono ?_
  rintro e w2 ⟨rfl, rfl⟩
  go_wp2_with fail
  refine (up_any Q _ (d.push x) d.size w2 H1.out (by omega) (by omega) (by rw [hsz]; exact up_start HH.out x)).mono ?_
  rintro e w3 ⟨rfl, d', hQ3, hh3, hp3, hK3⟩
  have HF := hid (And.intro hQ3 (And.intro hh3 (And.intro hp3 (HK.out.trans hK3))))
  clear hQ3 hh3 hp3 hK3
  go_wp2
  refine bodyPost_end (results_none rfl _ _ _) rfl ?_
  refine ⟨rfl, _, d', HF.out.1, HF.out.2.1, HF.out.2.2.1.trans ?_, HF.out.2.2.2⟩
  rw [Array.toList_push]
  exact List.perm_append_singleton x d.toList

end Go.Proofs.YtjefgmeejhakbaaGreatDoor
