/- order.written. -/
import Derived.Test.YtjefgmeejhakbaaGreatDoorOrAddR
import Derived.Deep.MidRow
namespace Go.Proofs.YtjefgmeejhakbaaGreatDoor
open Go.RowKit
def wrTo (l : List Opp) (j : Nat) : Nat → List Int := fun k => writersP (l.take j) (k : Nat)
theorem wrTo_step {l : List Opp} {j : Nat} {o : Opp} (h : l[j]? = some o) (k : Nat) : wrTo l (j + 1) k = wStep (k : Nat) (wrTo l j k) o := by
  unfold wrTo writersP
  rw [List.take_add_one, h]
  simp [List.foldl_append]
theorem wrTo_read {l : List Opp} {j : Nat} {o : Opp} (h : l[j]? = some o) (hr : o.2.2.1 = false) : wrTo l (j + 1) = wrTo l j := by
  funext k
  rw [wrTo_step h, wStep, if_neg (by simp [hr])]
theorem wrTo_write {l : List Opp} {j : Nat} {o : Opp} (h : l[j]? = some o) (hr : o.2.2.1 = true) {kk : Nat} (hk : o.2.1 = (kk : Nat)) : wrTo l (j + 1) = updN (wrTo l j) kk (wAdd (wrTo l j kk) o.1) := by
  funext k
  rw [wrTo_step h, wStep]
  by_cases e : k = kk
  · subst e
    rw [updN_same, wAdd]
    by_cases hl : (wrTo l j k).getLast? = some o.1
    · rw [if_neg (by simp [hl]), if_pos hl]
    · rw [if_pos ⟨hr, hk, hl⟩, if_neg hl]
  · rw [updN_other _ _ e, if_neg]
    rintro ⟨_, h2, _⟩
    omega
theorem wrTo_all (l : List Opp) : wrTo l l.length = fun k => writersP l (k : Nat) := by unfold wrTo; rw [List.take_length]
theorem wrTo_len (l : List Opp) (j k : Nat) : (wrTo l j k).length ≤ l.length := Nat.le_trans (writers_len _ _) (by simp; omega)
theorem KeysAt.zero {w : World} {K : Nat} (h : w.heap[K]? = some (.cells (keyCells (fun _ => .slice none 0 0) (fun _ => none)) 133 (0, 0))) : KeysAt w K (fun _ => .slice none 0 0) (fun _ => none) (fun _ => []) :=
  ⟨h, fun _ _ => World.ownsRow_nil _ _ _ _, fun _ _ => .inl ⟨rfl, fun _ => rfl⟩, fun _ _ => ⟨fun _ => rfl, fun _ => rfl⟩, (fun _ _ _ _ _ h => by cases h), (fun _ _ _ _ _ h => by cases h)⟩
theorem heap_setCell_self {w : World} {b i : Nat} {cs : Array Value} {t : TypeId} {v : Value} (hb : w.heap[b]? = some (.cells cs t (0, 0))) (hv : cs[i]? = some v) : (w.setCell ⟨b, i, none⟩ v).heap[b]? = some (.cells cs t (0, 0)) := by
  rw [heap_setCell_same w b i cs t v hb]
  congr 2
  apply Array.ext_getElem?
  intro k
  rw [Array.getElem?_setIfInBounds]
  by_cases e : i = k
  · subst e
    obtain ⟨hi, _⟩ := Array.getElem?_eq_some_iff.1 hv
    rw [if_pos rfl, if_pos hi, hv]
  · rw [if_neg e]
theorem heap_setCells_self {b : Nat} {cs : Array Value} {t : TypeId} : ∀ (vs : List Value) (o : Nat) (w : World), w.heap[b]? = some (.cells cs t (0, 0)) → (∀ j v, vs[j]? = some v → cs[o + j]? = some v) → (w.setCells b o vs).heap[b]? = some (.cells cs t (0, 0))
  | [], _, _, h, _ => h
  | v :: r, o, w, h, hv => by
    rw [World.setCells]
    exact heap_setCells_self r (o + 1) _ (heap_setCell_self h (hv 0 v rfl)) (fun j u hu => by have := hv (j + 1) u (by simpa using hu); rwa [show o + 1 + j = o + (j + 1) by omega])
theorem below_setCells {B b : Nat} {a : World} (hb : B ≤ b) : ∀ (vs : List Value) (o : Nat) (w : World), Below B a w → Below B a (w.setCells b o vs)
  | [], _, _, h => h
  | v :: r, o, w, h => by
    rw [World.setCells]
    exact below_setCells hb r (o + 1) _ (h.setCell (p := ⟨b, o, none⟩) hb _)
theorem heap_setCells_ne {b c : Nat} (hc : c ≠ b) : ∀ (vs : List Value) (o : Nat) (w : World), (w.setCells b o vs).heap[c]? = w.heap[c]?
  | [], _, _ => rfl
  | v :: r, o, w => by
    rw [World.setCells, heap_setCells_ne hc r]
    exact heap_setCell_other w ⟨b, o, none⟩ c v hc
theorem one_of_get {C : Array Value} {f : Nat → Value} (h : ∀ i, C[i]? = if i < 20 then some (f i) else none) (hf : ∀ i, i < 20 → (f i).oneCell' = true) : ∀ v ∈ C.toList, v.oneCell' = true := by
  intro v hv
  obtain ⟨i, hi, e⟩ := List.getElem_of_mem hv
  have h1 : C[i]? = some v := by rw [← Array.getElem?_toList, List.getElem?_eq_getElem hi, e]
  rw [h i] at h1
  by_cases hl : i < 20
  · rw [if_pos hl] at h1; cases h1; exact hf i hl
  · rw [if_neg hl] at h1; cases h1
theorem keyCells_one {w : World} {K : Nat} {av : Nat → Value} {mv : Nat → Option Nat} {S : Nat → List Int} (h : KeysAt w K av mv S) : ∀ v ∈ (keyCells av mv).toList, v.oneCell' = true :=
  one_of_get (keyCells_get av mv) (fun i hi => by
    by_cases e2 : i % 2 = 0
    · rw [if_pos e2]
      obtain ⟨ad, c, e3⟩ := row_form (h.row (i / 2) (by omega))
      rw [e3]; rfl
    · rw [if_neg e2]; rfl)
set_option maxRecDepth 100000 in
set_option maxHeartbeats 600000 in
theorem written_any (ad : Option Addr) (cap : Nat) (l : List Opp) (w : World) (hn : l.length ≤ 10000) (hO : OpsAt w ad l) (hf : ∀ o ∈ l, opBad o = false) :
    Calls Tryz.prog 60 #[.slice ad l.length cap] w fun e w' => ∃ K av mv, e = .returned (.agg (keyCells av mv)) ∧ KeysAt w' K av mv (fun k => writersP l (k : Nat)) ∧ (∀ b, keysOwn K av mv b → w.heap.size ≤ b) ∧ Below w.heap.size w w' := by
  have HO := hid hO
  have HF := hid hf
  clear hO hf
  go_enter Tryz.func60, Tryz.ntmps60
  go_wp2
  go_loopw [7] (fun i wr => ∃ (j : Nat) (av : Nat → Value) (mv : Nat → Option Nat), j ≤ l.length ∧ i = .int .i64 j ∧ KeysAt wr w.heap.size av mv (wrTo l j) ∧ (∀ b, keysOwn w.heap.size av mv b → w.heap.size ≤ b) ∧ Below w.heap.size w wr) (fun i _ => l.length - (intOf i).toNat)
  case atStart =>
    refine ⟨0, fun _ => .slice none 0 0, fun _ => none, Nat.zero_le _, rfl, KeysAt.zero ?_, ?_, ?_⟩
    · exact heap_alloc_new w _
    · rintro b (rfl | ⟨k, _, e | e⟩)
      · exact Nat.le_refl _
      · cases e
      · cases e
    · exact (Below.refl _ _).alloc (Nat.le_refl _) _
  case round =>
    obtain ⟨j, av, mv, hj, rfl, hK, hown, hB⟩ := hrel
    have hBs := hB.size
    by_cases hlt : j < l.length
    · obtain ⟨o, ho⟩ : ∃ o, l[j]? = some o := ⟨l[j], List.getElem?_eq_getElem hlt⟩
      obtain ⟨g, off, rfl, hg, ⟨c0, c1, c2, c3⟩, i0, i1, i2⟩ := HO.out.below hB j o ho
      obtain ⟨b1, b2, b3, b4⟩ := opBad_false (HF.out o (List.mem_of_getElem? ho))
      have hj0 : (0 : Int) ≤ (j : Int) := by omega
      have hj1 : (j : Int) < (l.length : Int) := by omega
      have hA := hB.alloc hBs (.cells #[.int .i64 o.1, .int .i64 o.2.1, .bool o.2.2.1, .int .i64 o.2.2.2] 90)
      have hA1 : Below wr.heap.size wr (wr.alloc (.cells #[.int .i64 o.1, .int .i64 o.2.1, .bool o.2.2.1, .int .i64 o.2.2.2] 90)) := (Below.refl _ _).alloc (Nat.le_refl _) _
      have HA := hid (And.intro hA (And.intro (hK.below hA1) hown))
      have HJ := hid ho
      cases hw : o.2.2.1 with
      | false =>
        have hst := hid (wrTo_read ho hw)
        rw [hw] at c2 HA
        clear hB hK hown ho hA hA1
        go_wp2
        go_roundw
        case rel => exact ⟨j + 1, av, mv, by omega, by go_num, by rw [hst.out]; exact HA.out.2.1, HA.out.2.2, HA.out.1⟩
        case measure => simp [intOf]; omega
      | true =>
        obtain ⟨kk, hkk⟩ : ∃ kk : Nat, o.2.1 = (kk : Nat) := ⟨o.2.1.toNat, by omega⟩
        have hst := hid (wrTo_write ho hw hkk)
        have hk10 : kk < 10 := by omega
        have hkk0 : (0 : Int) ≤ (kk : Int) := by omega
        have hkk1 : (kk : Int) < 10 := by omega
        rw [hw] at c2 HA
        rw [hkk] at c1 HA
        obtain ⟨tx, htx⟩ : ∃ tx, o.1 = tx := ⟨_, rfl⟩
        rw [htx] at c0 HA i0
        have HT := hid htx
        have hX0 := heap_alloc_new wr (.cells #[.int .i64 tx, .int .i64 (kk : Nat), .bool true, .int .i64 o.2.2.2] 90)
        have x0 : (wr.alloc (.cells #[.int .i64 tx, .int .i64 (kk : Nat), .bool true, .int .i64 o.2.2.2] 90)).cell? ⟨wr.heap.size, 0, none⟩ = some (.int .i64 tx) := (cell_of_row _ _ 0 _ _ (0, 0) hX0).trans rfl
        have x1 : (wr.alloc (.cells #[.int .i64 tx, .int .i64 (kk : Nat), .bool true, .int .i64 o.2.2.2] 90)).cell? ⟨wr.heap.size, 1, none⟩ = some (.int .i64 (kk : Nat)) := (cell_of_row _ _ 1 _ _ (0, 0) hX0).trans rfl
        have hlen := wrTo_len l j kk
        have hC := fun q => add_any w.heap.size kk av mv (wrTo l j) tx ((wr.alloc (.cells #[.int .i64 tx, .int .i64 (kk : Nat), .bool true, .int .i64 o.2.2.2] 90)).drewN q) (HA.out.2.1.below (below_drewN (Below.refl _ _) q)) hk10 (by omega) i0
        have HC := hid hC
        have HNX := hid (show ¬ keysOwn w.heap.size av mv wr.heap.size from fun hh => by have := hK.own_lt hh; omega)
        have HXd := hid (show ((wr.alloc (.cells #[.int .i64 tx, .int .i64 (kk : Nat), .bool true, .int .i64 o.2.2.2] 90)).drewN 1).heap[wr.heap.size]? = _ from hX0)
        clear hB hK hown ho hA hA1 hX0 hkk htx hw hC
        go_wp2
        go_region_held3 (fun W => W.cell? ⟨wr.heap.size, 0, none⟩ = some (.int .i64 tx) ∧ W.cell? ⟨wr.heap.size, 1, none⟩ = some (.int .i64 (kk : Nat)))
          (first
            | go_keep
            | exact ⟨y0, y1⟩)
          (first
            | (go_at_call 122
               refine (HC.out 1).mono ?_
               rintro e w2 ⟨rfl, av2, mv2, hK2, hKp2⟩
               have hX2 := (hKp2.block wr.heap.size (by simp) HNX.out).trans HXd.out
               have y0 : w2.cell? ⟨wr.heap.size, 0, none⟩ = some (.int .i64 tx) := (cell_of_row _ _ 0 _ _ (0, 0) hX2).trans rfl
               have y1 : w2.cell? ⟨wr.heap.size, 1, none⟩ = some (.int .i64 (kk : Nat)) := (cell_of_row _ _ 1 _ _ (0, 0) hX2).trans rfl
               have HK2 := hid (And.intro hK2 hKp2)
               clear hK2 hKp2 hX2))
        go_wp2
        go_roundw
        case rel =>
          obtain ⟨hK2, hKp2⟩ := HK2.out
          refine ⟨j + 1, av2, mv2, by omega, by go_num, by rw [hst.out, HT.out]; exact hK2, fun b hb => ?_, ?_⟩
          · rcases hKp2.sub b hb with h | h
            · exact HA.out.2.2 b h
            · simp at h; omega
          · exact HA.out.1.trans (((below_drewN (Below.refl _ _) 1).trans (hKp2.below (by simp; omega) HA.out.2.2)).mono (Nat.le_refl _))
        case measure => simp [intOf]; omega
    · obtain rfl : j = l.length := by omega
      obtain ⟨vs, hvs⟩ : ∃ vs, (keyCells av mv).toList = vs := ⟨_, rfl⟩
      have hvl : vs.length = 20 := by rw [← hvs, Array.length_toList, keyCells_size]
      have hat : ∀ i v, vs[i]? = some v → (keyCells av mv)[i]? = some v := fun i v hv => by rw [← hvs, Array.getElem?_toList] at hv; exact hv
      have hra : wr.rangeAt w.heap.size 0 vs := fun i v hv => by
        rw [Nat.zero_add]
        exact (cell_of_row wr w.heap.size i _ _ (0, 0) hK.blk).trans (hat i v hv)
      have hth : wr.there w.heap.size 0 vs.toArray.size := fun i hi => by
        rw [Nat.zero_add, cell_of_row wr w.heap.size i _ _ (0, 0) hK.blk]
        have hi' : i < vs.length := by simpa using hi
        exact ⟨by rw [hat i _ (List.getElem?_eq_getElem hi')]; rfl, hK.free i⟩
      have hin0 : (Tryz.prog.info? 133).map (·.size) = some 20 := by kernel_rfl
      have hin : (Tryz.prog.info? 133).map (·.size) = some vs.length := by rw [hvl]; exact hin0
      have hin2 : (Tryz.prog.info? 133).map (·.size) = some vs.toArray.size := by rw [List.size_toArray]; exact hin
      have h1 : vs.toArray.all (·.oneCell') = true := all_oneCell_toArray (by rw [← hvs]; exact keyCells_one hK)
      have hb2 := heap_setCells_self vs 0 wr hK.blk (fun i v hv => by rw [Nat.zero_add]; exact hat i v hv)
      have hB2 := below_setCells (Nat.le_refl _) vs 0 wr hB
      have hK2 : KeysAt (wr.setCells w.heap.size 0 vs) w.heap.size av mv (wrTo l l.length) := hK.same (fun b _ => by
        by_cases e : b = w.heap.size
        · rw [e, hb2, hK.blk]
        · exact heap_setCells_ne e vs 0 wr)
      have HK := hid (And.intro hK2 (And.intro hown (And.intro hB2 hb2)))
      have HV := hid hvs
      have HI := hid hin0
      clear hK hown hB hvs hvl hat hin0 hb2 hB2 hK2
      go_wp2_with (first
        | (refine wpList_load_mid (by rfl) 133 _ (by rfl) w.heap.size 0 (by rfl) vs (.array 10 132) hra Tryz.underlying133 rfl hin ?_)
        | (refine wpList_store_mid (by rfl) 133 _ _ (by rfl) w.heap.size 0 vs.toArray (by rfl) (by rfl) hth hin2 h1 ?_))
      refine bodyPost_ret (results_cell_row rfl _ _ w.heap.size 133 (keyCells av mv) (0, 0) (.array 10 132) rfl HK.out.2.2.2 Tryz.underlying133 rfl (by rw [keyCells_size]; exact HI.out)) rfl ?_
      have hfin := HK.out.1
      rw [wrTo_all] at hfin
      exact ⟨w.heap.size, av, mv, rfl, hfin, HK.out.2.1, HK.out.2.2.1⟩
end Go.Proofs.YtjefgmeejhakbaaGreatDoor
