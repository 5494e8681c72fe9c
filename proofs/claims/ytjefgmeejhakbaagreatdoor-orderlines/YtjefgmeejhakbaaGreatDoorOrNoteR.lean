/- The closure note of order.Edges; (*writers).noteWrites, noteRead. -/
import Derived.Test.YtjefgmeejhakbaaGreatDoorOrGroundR
namespace Go.Proofs.YtjefgmeejhakbaaGreatDoor
open Go.RowKit
structure TwosN (N : Nat) (w : World) (B : Nat) (v : Value) (d : List (Int × Int)) : Prop where
  blk : w.heap[B]? = some (.cells #[v] 23 (0, 0))
  row : w.ownsRow N 78 2 v d.length (vrow d)
  le : N ≤ B
def tOwn (B : Nat) (v : Value) (b : Nat) : Prop := b = B ∨ v.ownBlock = some b
def noteP (a b : Int) : List (Int × Int) := if a = b then [] else [(a, b)]
section
variable {N : Nat} {w w' : World} {B : Nat} {v : Value} {d : List (Int × Int)}
theorem TwosN.lt (h : TwosN N w B v d) : B < w.heap.size := (Array.getElem?_eq_some_iff.1 h.blk).1
theorem TwosN.ne (h : TwosN N w B v d) : v.ownBlock ≠ some B := fun e => by
  rcases h.row.2 with ⟨e1, _⟩ | ⟨g', cap, cur, e1, _, hc, _⟩
  · rw [e1] at e; cases e
  · rw [e1] at e; cases e
    rw [h.blk] at hc
    simp at hc
theorem TwosN.cell (h : TwosN N w B v d) : w.cell? ⟨B, 0, none⟩ = some v := (cell_of_row w B 0 _ _ (0, 0) h.blk).trans rfl
theorem TwosN.free (h : TwosN N w B v d) : w.frozen? ⟨B, 0, none⟩ = false := by simp [World.frozen?, h.blk]
theorem TwosN.same (h : TwosN N w B v d) (hs : ∀ b, b = B ∨ v.ownBlock = some b → w'.heap[b]? = w.heap[b]?) : TwosN N w' B v d :=
  ⟨(hs B (.inl rfl)).trans h.blk, owns_same h.row (fun g e => hs g (.inr e)), h.le⟩
theorem TwosN.below (h : TwosN N w B v d) (hB : Below w.heap.size w w') : TwosN N w' B v d := h.same (fun b hb => hB.block b (by
  rcases hb with rfl | e
  · exact h.lt
  · exact (h.row.lt b e).2))
theorem TwosN.put {w1 : World} {u : Value} {d' : List (Int × Int)} (h : TwosN N w B v d) (hg : w.grownBy w1 v.ownBlock) (ho : w1.ownsRow N 78 2 u d'.length (vrow d')) :
    TwosN N (w1.setCell ⟨B, 0, none⟩ u) B u d' ∧ KeptO (tOwn B v) (fun b => b = B ∨ u.ownBlock = some b ∧ (v.ownBlock = some b ∨ w.heap.size ≤ b)) w (w1.setCell ⟨B, 0, none⟩ u) := by
  have hB := h.lt
  have hb : w1.heap[B]? = some (.cells #[v] 23 (0, 0)) := (hg.block B hB (fun e => h.ne e.symm)).trans h.blk
  have hne : u.ownBlock ≠ some B := fun e => by
    rcases ho.2 with ⟨e1, _⟩ | ⟨g', cap, cur, e1, _, hc, _⟩
    · rw [e1] at e; cases e
    · rw [e1] at e; cases e
      rw [hb] at hc
      simp at hc
  refine ⟨⟨(heap_setCell_same w1 B 0 _ 23 u hb).trans rfl, owns_same ho (fun g e => heap_setCell_other w1 ⟨B, 0, none⟩ g u (fun e2 => hne (by rw [e, e2]))), h.le⟩, ?_⟩
  refine ⟨hg.os, hg.tape, hg.output, by simpa using hg.size, fun k hk hn => (heap_setCell_other w1 ⟨B, 0, none⟩ k u (fun e => hn (.inl e))).trans (hg.block k hk (fun e => hn (.inr e.symm))), fun b hb => ?_⟩
  rcases hb with e | ⟨_, e | e⟩
  · exact .inl (.inl e)
  · exact .inl (.inr e)
  · exact .inr e
theorem TwosN.own_le (h : TwosN N w B v d) {b : Nat} (hb : tOwn B v b) : N ≤ b ∧ b < w.heap.size := by
  rcases hb with rfl | e
  · exact ⟨h.le, h.lt⟩
  · exact h.row.lt b e
theorem KeptO.twos {o : Nat → Prop} (k : KeptO (tOwn B v) o w w') (h : TwosN N w B v d) : Below N w w' :=
  k.below (Nat.le_trans h.le (Nat.le_of_lt h.lt)) (fun _ hb => (h.own_le hb).1)
end
set_option maxRecDepth 100000 in
set_option maxHeartbeats 600000 in
theorem note_any (N B : Nat) (v : Value) (d : List (Int × Int)) (a b : Int) (w : World) (h : TwosN N w B v d) (hd : d.length ≤ 100000) :
    Calls Tryz.prog 62 #[.int .i64 a, .int .i64 b, .pointer (some ⟨B, 0, none⟩)] w fun e w' => e = .returned (.tuple #[]) ∧ ∃ v', TwosN N w' B v' (d ++ noteP a b) ∧ KeptO (tOwn B v) (tOwn B v') w w' := by
  unfold noteP
  by_cases hab : a = b
  · rw [if_pos hab, List.append_nil]
    have e1 : (a != b) = false := by simp [hab]
    have HH := hid h
    clear h hab
    go_enter Tryz.func62, Tryz.ntmps62
    go_wp2
    refine bodyPost_end (results_none rfl _ _ _) rfl ?_
    exact ⟨rfl, v, HH.out, KeptO.refl _ _⟩
  · rw [if_neg hab]
    have e1 : (a != b) = true := by simpa using hab
    obtain ⟨i0, hi0, hz0, hz1, hz2⟩ := info_parts info78
    have c0 := h.cell
    have hA : Below w.heap.size w (w.alloc (.cells #[.int .i64 a, .int .i64 b] 78)) := (Below.refl _ _).alloc (Nat.le_refl _) _
    have hA2 := hA.size
    have hNw : N ≤ w.heap.size := Nat.le_trans h.le (Nat.le_of_lt h.lt)
    have HH := hid (h.below hA)
    have HB := hid (KeptO.of_below (o := tOwn B v) hA)
    clear h hA hab
    go_enter Tryz.func62, Tryz.ntmps62
    go_wp2_with (at_builtin; refine wpList_append_lies _ rfl _ _ _ rfl N 78 i0 _ 2 16 Tryz.underlying23 hi0 hz0 hz1 hz2 rfl (by omega) v _ _ rfl HH.out.row ⟨w.heap.size, 0, none⟩ 1 1 [.int .i64 a, .int .i64 b] rfl rfl (World.news_of_block (cs := #[.int .i64 a, .int .i64 b]) (t := 78) (fr := (0, 0)) (heap_alloc_new w _)) (by simp [Value.oneCell']) (by omega) (by unfold maxLen; omega) (by omega) (by simp; omega) (w.heap.size + 1) (by simp) ?_; intro g cap w1 ho hgrow hat hlt; have c1 := (World.cell?_of_block (a := ⟨B, 0, none⟩) (hgrow.block B HH.out.lt (fun e => HH.out.ne e.symm))).trans HH.out.cell; have f1 := (World.frozen?_of_block (a := ⟨B, 0, none⟩) (hgrow.block B HH.out.lt (fun e => HH.out.ne e.symm))).trans HH.out.free)
    refine bodyPost_end (results_none rfl _ _ _) rfl ?_
    have hp := HH.out.put (d' := d ++ [(a, b)]) hgrow (by rw [List.length_append, vrow_append]; exact ho)
    refine ⟨rfl, _, hp.1, HB.out.trans ⟨hp.2.os, hp.2.tape, hp.2.output, hp.2.size, hp.2.block, fun b hb => ?_⟩⟩
    rcases hb with e | e
    · exact .inl (.inl e)
    · cases e
      rcases hat with e | e
      · exact .inl (.inr e)
      · exact .inr (by show (w.alloc _).heap.size ≤ g; simp; omega)
theorem conP_snoc : ∀ (s : List Int) (a b : Int), conP (s ++ [a, b]) = conP (s ++ [a]) ++ [(a, b)]
  | [], a, b => rfl
  | [x], a, b => rfl
  | x :: y :: r, a, b => by
    have ih := conP_snoc (y :: r) a b
    simp only [List.cons_append, conP] at ih ⊢
    rw [ih]
theorem conTo_step {s : List Int} {i : Nat} {a b : Int} (h1 : s[i]? = some a) (h2 : s[i + 1]? = some b) : conP (s.take (i + 1 + 1)) = conP (s.take (i + 1)) ++ [(a, b)] := by
  have e1 : s.take (i + 1) = s.take i ++ [a] := by rw [List.take_add_one, h1]; rfl
  have e2 : s.take (i + 1 + 1) = s.take i ++ [a, b] := by rw [List.take_add_one, h2, e1]; simp
  rw [e1, e2, conP_snoc]
theorem conTo_filter {s : List Int} {i : Nat} {a b : Int} (h1 : s[i]? = some a) (h2 : s[i + 1]? = some b) : (conP (s.take (i + 1 + 1))).filter neP = (conP (s.take (i + 1))).filter neP ++ noteP a b := by
  rw [conTo_step h1 h2, List.filter_append]
  congr 1
  unfold noteP neP
  by_cases e : a = b <;> simp [e]
set_option maxRecDepth 100000 in
set_option maxHeartbeats 1000000 in
theorem noteWrites_any (N B K : Nat) (v : Value) (d : List (Int × Int)) (k : Nat) (av : Nat → Value) (mv : Nat → Option Nat) (S : Nat → List Int) (w : World) (h : TwosN N w B v d) (hK : KeysAt w K av mv S) (hKN : ∀ b, keysOwn K av mv b → b < N) (hk : k < 10) (hd : d.length + (S k).length ≤ 50000) :
    Calls Tryz.prog 63 #[.pointer (some ⟨K, k * 2, none⟩), .func (.func 62) #[] #[.pointer (some ⟨B, 0, none⟩)]] w fun e w' => e = .returned (.tuple #[]) ∧ ∃ v', TwosN N w' B v' (d ++ (conP (S k)).filter neP) ∧ Below N w w' := by
  have HH := hid h
  have HK := hid hK
  have HN := hid hKN
  have hNw : N ≤ w.heap.size := Nat.le_trans h.le (Nat.le_of_lt h.lt)
  clear h hK hKN
  obtain ⟨s, hs⟩ : ∃ s, S k = s := ⟨_, rfl⟩
  have HS := hid hs
  rw [hs] at hd ⊢
  clear hs
  go_enter Tryz.func63, Tryz.ntmps63
  go_wp2
  go_loopw [4] (fun iv wr => ∃ (i : Nat) (v' : Value), iv = .int .i64 ((i : Int) + 1) ∧ i + 1 ≤ s.length + 1 ∧ TwosN N wr B v' (d ++ (conP (s.take (i + 1))).filter neP) ∧ Below N w wr) (fun iv _ => s.length + 1 - (intOf iv).toNat)
  case atStart =>
    refine ⟨0, v, rfl, by omega, ?_, Below.refl _ _⟩
    have e : conP (s.take (0 + 1)) = [] := by cases s with
      | nil => rfl
      | cons a r => rfl
    rw [e]
    simpa using HH.out
  case round =>
    obtain ⟨i, v', rfl, hi, hT, hB⟩ := hrel
    have hKr : KeysAt wr K av mv S := HK.out.same (fun b hb => hB.block b (HN.out b hb))
    have c0 := hKr.c0 hk
    have hrow := hKr.row k hk
    rw [HS.out] at hrow
    by_cases hlt : i + 1 < s.length
    · obtain ⟨a, ha⟩ : ∃ a, s[i]? = some a := ⟨s[i], List.getElem?_eq_getElem (by omega)⟩
      obtain ⟨b, hb⟩ : ∃ b, s[i + 1]? = some b := ⟨s[i + 1], List.getElem?_eq_getElem hlt⟩
      rcases row_slice hrow with ⟨_, e0⟩ | ⟨g, cap, e, hg, hc⟩
      · omega
      · have ca := hc i _ (intsV_get ha)
        have cb := hc (i + 1) _ (intsV_get hb)
        rw [e] at c0
        have HST := hid (conTo_filter ha hb)
        have hlen : (d ++ (conP (s.take (i + 1))).filter neP).length ≤ 100000 := by
          have h1 := List.length_filter_le neP (conP (s.take (i + 1)))
          have h2 := conP_length (s.take (i + 1))
          rw [List.length_take] at h2
          rw [List.length_append]
          omega
        have HT := hid hT
        have HB := hid hB
        have hi0 : (0 : Int) ≤ (i : Int) := by omega
        have hi1 : (i : Int) + 1 < (s.length : Int) := by omega
        have hi2 : (i : Int) < (s.length : Int) := by omega
        have hi3 : (0 : Int) ≤ (i : Int) + 1 := by omega
        have hi4 : ((i : Int) + 1).toNat = i + 1 := by omega
        have hi5 : IntKind.i64.wrap (i : Int) = (i : Int) := IntWalk.i64_in _ (by omega)
        have hi6 : (i : Int) + 1 - 1 = (i : Int) := by omega
        have hgN : g < N := HN.out g (.inr ⟨k, hk, .inl (by rw [e]; rfl)⟩)
        have hKN1 : K < N := HN.out K (.inl rfl)
        have hC := fun q => note_any N B v' (d ++ (conP (s.take (i + 1))).filter neP) a b (wr.drewN q) (HT.out.below (below_drewN (Below.refl _ _) q)) hlen
        have HC := hid hC
        clear hT hB hKr hrow hc ha hb e hlen hC
        go_wp2
        go_region_held3 (fun W => W.cell? ⟨K, k * 2, none⟩ = some (.slice (some ⟨g, 0, none⟩) s.length cap) ∧ W.cell? ⟨g, i, none⟩ = some (.int .i64 a) ∧ W.cell? ⟨g, i + 1, none⟩ = some (.int .i64 b))
          (first
            | go_keep
            | exact ⟨y0, y1, y2⟩)
          (first
            | (go_at_call 62
               refine (HC.out 1).mono ?_
               rintro e w2 ⟨rfl, v2, hT2, hK2⟩
               have hB2 := hK2.twos (HT.out.below (below_drewN (Below.refl _ _) 1))
               have y0 : w2.cell? ⟨K, k * 2, none⟩ = some (.slice (some ⟨g, 0, none⟩) s.length cap) := (hB2.cell (p := ⟨K, k * 2, none⟩) hKN1).trans c0
               have y1 : w2.cell? ⟨g, i, none⟩ = some (.int .i64 a) := (hB2.cell (p := ⟨g, i, none⟩) hgN).trans ca
               have y2 : w2.cell? ⟨g, i + 1, none⟩ = some (.int .i64 b) := (hB2.cell (p := ⟨g, i + 1, none⟩) hgN).trans cb
               have HK2 := hid (And.intro hT2 hB2)
               clear hT2 hB2 hK2))
        go_wp2
        go_roundw
        case rel =>
          refine ⟨i + 1, v2, by go_num, by omega, ?_, HB.out.trans ((below_drewN (Below.refl _ _) 1).trans HK2.out.2)⟩
          rw [HST.out, ← List.append_assoc]
          exact HK2.out.1
        case measure => simp [intOf]; omega
    · obtain ⟨ad, cap, e⟩ := row_form hrow
      rw [e] at c0
      have hfin : conP (s.take (i + 1)) = conP s := by rw [List.take_of_length_le (by omega)]
      rw [hfin] at hT
      have HF := hid (And.intro hT hB)
      clear hT hB hKr hrow e hfin
      go_wp2
      refine bodyPost_end (results_none rfl _ _ _) rfl ?_
      exact ⟨rfl, v', HF.out⟩
end Go.Proofs.YtjefgmeejhakbaaGreatDoor
