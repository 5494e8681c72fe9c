/- (*writers).noteRead. -/
import Derived.Test.YtjefgmeejhakbaaGreatDoorOrNoteR
namespace Go.Proofs.YtjefgmeejhakbaaGreatDoor
open Go.RowKit
def readNotes (s : List Int) (tx fr p : Int) : List (Int × Int) := (if fr = 0 then [] else noteP fr tx) ++ (match s[p.toNat]? with
  | some y => noteP tx y
  | none => [])
section
variable {w w1 : World} {B : Nat} {v v1 : Value}
theorem twos_box (hk : KeptO (tOwn B v) (tOwn B v1) w w1) {X : Nat} {ob : Obj} (hX : w.heap[X]? = some ob) (hn : ¬ tOwn B v X) : w1.heap[X]? = some ob :=
  (hk.block X (Array.getElem?_eq_some_iff.1 hX).1 hn).trans hX
end
set_option maxRecDepth 100000 in
set_option maxHeartbeats 1000000 in
theorem noteR_any (N B K : Nat) (v : Value) (d : List (Int × Int)) (k : Nat) (av : Nat → Value) (mv : Nat → Option Nat) (S : Nat → List Int) (tx fr p : Int) (wb : Bool) (w : World) (h : TwosN N w B v d) (hK : KeysAt w K av mv S) (hKN : ∀ b, keysOwn K av mv b → b < N) (hk : k < 10) (hd : d.length + (S k).length ≤ 50000) (hfr : I64 fr) (hp : behindG (S k) fr = (p, true)) :
    Calls Tryz.prog 64 #[.pointer (some ⟨K, k * 2, none⟩), .agg #[.int .i64 tx, .int .i64 (k : Nat), .bool wb, .int .i64 fr], .func (.func 62) #[] #[.pointer (some ⟨B, 0, none⟩)]] w fun e w' => e = .returned (.tuple #[]) ∧ ∃ v', TwosN N w' B v' (d ++ readNotes (S k) tx fr p) ∧ KeptO (tOwn B v) (tOwn B v') w w' := by
  have hNw : N ≤ w.heap.size := Nat.le_trans h.le (Nat.le_of_lt h.lt)
  have hA : Below w.heap.size w (w.alloc (.cells #[.int .i64 tx, .int .i64 (k : Nat), .bool wb, .int .i64 fr] 90)) := (Below.refl _ _).alloc (Nat.le_refl _) _
  have hp0 : 0 ≤ p ∧ p ≤ (S k).length := by
    unfold behindG at hp
    by_cases e : fr = 0
    · rw [if_pos e] at hp; cases hp; omega
    · rw [if_neg e] at hp
      cases hf : firstAt fr (S k) with
      | none => rw [hf] at hp; cases hp
      | some i => rw [hf] at hp; cases hp; have := firstAt_lt hf; omega
  have H0 := hid (h.below hA)
  have hnX : ¬ tOwn B v w.heap.size := fun hh => by have := (h.own_le hh).2; omega
  have HX := hid (heap_alloc_new w (.cells #[.int .i64 tx, .int .i64 (k : Nat), .bool wb, .int .i64 fr] 90))
  have HNX := hid hnX
  have HN := hid hKN
  have HBA := hid (hA.mono hNw)
  have HKA := hid (KeptO.of_below (o := tOwn B v) hA)
  have HK := hid hK
  obtain ⟨pn, rfl⟩ : ∃ pn : Nat, p = (pn : Nat) := ⟨p.toNat, by omega⟩
  have HP := hid hp
  -- what follows the first note
  have tail : ∀ (d1 : List (Int × Int)) (v1 : Value) (w1 : World), d1.length ≤ d.length + 1 → TwosN N w1 B v1 d1 → w1.heap[w.heap.size]? = some (.cells #[.int .i64 tx, .int .i64 (k : Nat), .bool wb, .int .i64 fr] 90 (0, 0)) → Below N w w1 →
      KeysAt w1 K av mv S ∧ (∀ q, Calls Tryz.prog 123 #[.pointer (some ⟨K, k * 2, none⟩), .int .i64 fr] (w1.drewN q) fun e w' => e = .returned (.tuple #[.int .i64 (pn : Nat), .bool true]) ∧ w' = w1.drewN q) ∧ w1.cell? ⟨w.heap.size, 0, none⟩ = some (.int .i64 tx) ∧ w1.cell? ⟨w.heap.size, 3, none⟩ = some (.int .i64 fr) := by
    intro d1 v1 w1 _ hT hX1 hB1
    have hK1 : KeysAt w1 K av mv S := HK.out.same (fun b hb => hB1.block b (HN.out b hb))
    refine ⟨hK1, fun q => ?_, (cell_of_row _ _ 0 _ _ (0, 0) hX1).trans rfl, (cell_of_row _ _ 3 _ _ (0, 0) hX1).trans rfl⟩
    have := behindP_any K (k * 2) (av k) (mv k) (S k) fr (w1.drewN q) ((hK1.below (below_drewN (Below.refl _ _) q)).at hk) hfr (by omega)
    rw [HP.out] at this
    exact this
  have TAIL := hid tail
  clear h hK hKN hA hp hnX tail
  by_cases hf0 : fr = 0
  · have e0 : (fr != 0) = false := by simp [hf0]
    have HF0 := hid hf0
    clear hf0
    obtain ⟨t1, t2, t3, t4⟩ := TAIL.out d v (w.alloc (.cells #[.int .i64 tx, .int .i64 (k : Nat), .bool wb, .int .i64 fr] 90)) (by omega : d.length ≤ d.length + 1) H0.out HX.out HBA.out
    have HC2 := hid t2
    have c0 := t1.c0 hk
    have hrow := t1.row k hk
    by_cases hlt : pn < (S k).length
    · obtain ⟨y, hy⟩ : ∃ y, (S k)[pn]? = some y := ⟨(S k)[pn], List.getElem?_eq_getElem hlt⟩
      rcases row_slice hrow with ⟨_, e0⟩ | ⟨g, cap, e, hg, hc⟩
      · omega
      · have cy := hc pn _ (intsV_get hy)
        have hgN : g < N := HN.out g (.inr ⟨k, hk, .inl (by rw [e]; rfl)⟩)
        have hKN1 : K < N := HN.out K (.inl rfl)
        rw [e] at c0
        have hb : decide ((pn : Int) < ((S k).length : Int)) = true := by simpa using hlt
        have hp1 : (0 : Int) ≤ (pn : Int) := by omega
        have hp2 : (pn : Int) < ((S k).length : Int) := by omega
        have HY := hid (show (S k)[((pn : Nat) : Int).toNat]? = some y from hy)
        have hXl : ¬ tOwn B v w.heap.size := HNX.out
        have HXL := hid hXl
        have HXZ := hid (HX.out)
        have HTZ := hid (H0.out)
        have HC := hid (fun q => note_any N B v d tx y (((w.alloc (.cells #[.int .i64 tx, .int .i64 (k : Nat), .bool wb, .int .i64 fr] 90))).drewN q) (HTZ.out.below (below_drewN (Below.refl _ _) q)) (by have := (by omega : d.length ≤ d.length + 1); omega))
        clear t1 t2 hrow e hlt hy hc hXl
        go_enter Tryz.func64, Tryz.ntmps64
        go_wp2_with (go_at_call 123; refine (HC2.out 0).mono ?_; rintro e w' ⟨rfl, rfl⟩)
        go_region_held3 (fun W => W.cell? ⟨w.heap.size, 0, none⟩ = some (.int .i64 tx) ∧ W.cell? ⟨K, k * 2, none⟩ = some (.slice (some ⟨g, 0, none⟩) (S k).length cap) ∧ W.cell? ⟨g, pn, none⟩ = some (.int .i64 y))
          (first
            | go_keep
            | exact ⟨y0, y1, y2⟩)
          (first
            | (go_at_call 62
               refine (HC.out 1).mono ?_
               rintro e w2 ⟨rfl, v2, hT2, hK2⟩
               have hB2 := hK2.twos (HTZ.out.below (below_drewN (Below.refl _ _) 1))
               have hX2 := twos_box hK2 (show (((w.alloc (.cells #[.int .i64 tx, .int .i64 (k : Nat), .bool wb, .int .i64 fr] 90))).drewN 1).heap[w.heap.size]? = _ from HXZ.out) HXL.out
               have y0 : w2.cell? ⟨w.heap.size, 0, none⟩ = some (.int .i64 tx) := (cell_of_row _ _ 0 _ _ (0, 0) hX2).trans rfl
               have y1 : w2.cell? ⟨K, k * 2, none⟩ = some (.slice (some ⟨g, 0, none⟩) (S k).length cap) := (hB2.cell (p := ⟨K, k * 2, none⟩) hKN1).trans c0
               have y2 : w2.cell? ⟨g, pn, none⟩ = some (.int .i64 y) := (hB2.cell (p := ⟨g, pn, none⟩) hgN).trans cy
               have HK2 := hid (And.intro hT2 hK2)
               clear hT2 hB2 hK2 hX2))
        go_end0
        refine ⟨rfl, v2, ?_, (HKA.out.drewN 1).trans HK2.out.2⟩
        have hF := HK2.out.1
        unfold readNotes
        rw [HY.out]
        rw [if_pos HF0.out, List.nil_append]; simpa using hF
    · have hb : decide ((pn : Int) < ((S k).length : Int)) = false := by simpa using hlt
      have HNO := hid (show (S k)[((pn : Nat) : Int).toNat]? = none by simp; omega)
      obtain ⟨ad, cap, e⟩ := row_form hrow
      rw [e] at c0
      have HTZ := hid (H0.out)
      clear t1 t2 hrow e
      go_enter Tryz.func64, Tryz.ntmps64
      go_wp2_with (go_at_call 123; refine (HC2.out 0).mono ?_; rintro e w' ⟨rfl, rfl⟩)
      refine bodyPost_end (results_none rfl _ _ _) rfl ?_
      refine ⟨rfl, v, ?_, HKA.out⟩
      have hF := HTZ.out.below (below_drewN (Below.refl _ _) 0)
      unfold readNotes
      rw [HNO.out]
      rw [if_pos HF0.out, List.nil_append]; simpa using hF
  · have e0 : (fr != 0) = true := by simpa using hf0
    have HF0 := hid hf0
    clear hf0
    have hX0 := HX.out
    have c0 : (w.alloc (.cells #[.int .i64 tx, .int .i64 (k : Nat), .bool wb, .int .i64 fr] 90)).cell? ⟨w.heap.size, 0, none⟩ = some (.int .i64 tx) := (cell_of_row _ _ 0 _ _ (0, 0) hX0).trans rfl
    clear hX0 c0
    go_enter Tryz.func64, Tryz.ntmps64
    go_wp2_with fail
    refine (note_any N B v d fr tx _ H0.out (by omega)).mono ?_
    rintro e w1 ⟨rfl, v1, hT1, hK1⟩
    have hB1 := HBA.out.trans (hK1.twos H0.out)
    have hX1 := twos_box hK1 HX.out HNX.out
    have HT1 := hid hT1
    have HKW := hid (HKA.out.trans hK1)
    have HB1 := hid hB1
    have HX1 := hid hX1
    have HNX1 := hid (show ¬ tOwn B v1 w.heap.size from fun hh => (hK1.sub _ hh).elim HNX.out (fun h => by simp at h; omega))
    have hd1 : (d ++ noteP fr tx).length ≤ d.length + 1 := by rw [List.length_append]; unfold noteP; split <;> simp
    clear hT1 hK1 hB1 hX1
    obtain ⟨t1, t2, t3, t4⟩ := TAIL.out (d ++ noteP fr tx) v1 w1 hd1 HT1.out HX1.out HB1.out
    have HC2 := hid t2
    have c0 := t1.c0 hk
    have hrow := t1.row k hk
    by_cases hlt : pn < (S k).length
    · obtain ⟨y, hy⟩ : ∃ y, (S k)[pn]? = some y := ⟨(S k)[pn], List.getElem?_eq_getElem hlt⟩
      rcases row_slice hrow with ⟨_, e0⟩ | ⟨g, cap, e, hg, hc⟩
      · omega
      · have cy := hc pn _ (intsV_get hy)
        have hgN : g < N := HN.out g (.inr ⟨k, hk, .inl (by rw [e]; rfl)⟩)
        have hKN1 : K < N := HN.out K (.inl rfl)
        rw [e] at c0
        have hb : decide ((pn : Int) < ((S k).length : Int)) = true := by simpa using hlt
        have hp1 : (0 : Int) ≤ (pn : Int) := by omega
        have hp2 : (pn : Int) < ((S k).length : Int) := by omega
        have HY := hid (show (S k)[((pn : Nat) : Int).toNat]? = some y from hy)
        have hXl : ¬ tOwn B v1 w.heap.size := HNX1.out
        have HXL := hid hXl
        have HXZ := hid (HX1.out)
        have HTZ := hid (HT1.out)
        have HC := hid (fun q => note_any N B v1 (d ++ noteP fr tx) tx y ((w1).drewN q) (HTZ.out.below (below_drewN (Below.refl _ _) q)) (by have := hd1; omega))
        clear t1 t2 hrow e hlt hy hc hXl
        go_wp2_with (go_at_call 123; refine (HC2.out 0).mono ?_; rintro e w' ⟨rfl, rfl⟩)
        go_region_held3 (fun W => W.cell? ⟨w.heap.size, 0, none⟩ = some (.int .i64 tx) ∧ W.cell? ⟨K, k * 2, none⟩ = some (.slice (some ⟨g, 0, none⟩) (S k).length cap) ∧ W.cell? ⟨g, pn, none⟩ = some (.int .i64 y))
          (first
            | go_keep
            | exact ⟨y0, y1, y2⟩)
          (first
            | (go_at_call 62
               refine (HC.out 1).mono ?_
               rintro e w2 ⟨rfl, v2, hT2, hK2⟩
               have hB2 := hK2.twos (HTZ.out.below (below_drewN (Below.refl _ _) 1))
               have hX2 := twos_box hK2 (show ((w1).drewN 1).heap[w.heap.size]? = _ from HXZ.out) HXL.out
               have y0 : w2.cell? ⟨w.heap.size, 0, none⟩ = some (.int .i64 tx) := (cell_of_row _ _ 0 _ _ (0, 0) hX2).trans rfl
               have y1 : w2.cell? ⟨K, k * 2, none⟩ = some (.slice (some ⟨g, 0, none⟩) (S k).length cap) := (hB2.cell (p := ⟨K, k * 2, none⟩) hKN1).trans c0
               have y2 : w2.cell? ⟨g, pn, none⟩ = some (.int .i64 y) := (hB2.cell (p := ⟨g, pn, none⟩) hgN).trans cy
               have HK2 := hid (And.intro hT2 hK2)
               clear hT2 hB2 hK2 hX2))
        go_end0
        refine ⟨rfl, v2, ?_, (HKW.out.drewN 1).trans HK2.out.2⟩
        have hF := HK2.out.1
        unfold readNotes
        rw [HY.out]
        rw [if_neg HF0.out, ← List.append_assoc]; simpa using hF
    · have hb : decide ((pn : Int) < ((S k).length : Int)) = false := by simpa using hlt
      have HNO := hid (show (S k)[((pn : Nat) : Int).toNat]? = none by simp; omega)
      obtain ⟨ad, cap, e⟩ := row_form hrow
      rw [e] at c0
      have HTZ := hid (HT1.out)
      clear t1 t2 hrow e
      go_wp2_with (go_at_call 123; refine (HC2.out 0).mono ?_; rintro e w' ⟨rfl, rfl⟩)
      refine bodyPost_end (results_none rfl _ _ _) rfl ?_
      refine ⟨rfl, v1, ?_, HKW.out⟩
      have hF := HTZ.out.below (below_drewN (Below.refl _ _) 0)
      unfold readNotes
      rw [HNO.out]
      rw [if_neg HF0.out, ← List.append_assoc]; simpa using hF
end Go.Proofs.YtjefgmeejhakbaaGreatDoor
