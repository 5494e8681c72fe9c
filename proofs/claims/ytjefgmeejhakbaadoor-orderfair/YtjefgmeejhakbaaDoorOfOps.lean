/- keep.ops. -/
import Derived.Test.YtjefgmeejhakbaaDoorOrOps
import Derived.Test.YtjefgmeejhakbaaDoorLkPick
import Derived.Deep.RegionHeld3
namespace Go.Proofs.YtjefgmeejhakbaaDoor
open Go.RowKit

theorem infoOp : (Tryd.prog.info? 93).map (fun i => (i.zero, i.size, i.bytes)) = some (some (.agg #[.int .i64 0, .int .i64 0, .bool false, .int .i64 0]), 4, 32) := by kernel_rfl
/-- What pick answers. -/
def pickP (a n : Int) : Int := wrap64 ((IntKind.u64.wrap a).tmod n)
theorem pickP_in (a n : Int) (h1 : 1 ≤ n) (h2 : n ≤ 1000) : 0 ≤ pickP a n ∧ pickP a n < n := by
  have hu : 0 ≤ IntKind.u64.wrap a := by
    simp only [IntKind.wrap, IntKind.signed, Bool.false_and, Bool.false_eq_true, if_false]
    exact Int.emod_nonneg _ (by simp [IntKind.bits])
  have hm0 : 0 ≤ (IntKind.u64.wrap a).tmod n := Int.tmod_nonneg _ hu
  have hm1 : (IntKind.u64.wrap a).tmod n < n := Int.tmod_lt_of_pos _ (by omega)
  unfold pickP
  rw [IntWalk.wrap64_in _ (by omega)]
  exact ⟨hm0, hm1⟩
set_option maxHeartbeats 400000 in
theorem pick_eq (a n : Int) (w : World) (h1 : 1 ≤ n) (h2 : n ≤ 1000) :
    Calls Tryd.prog 25 #[.int .i64 a, .int .i64 n] w fun e w' => e = .returned (.int .i64 (pickP a n)) ∧ w' = w := by
  go_enter Tryd.func25, Tryd.ntmps25
  go_wp2
  go_ret
  exact ⟨rfl, rfl⟩
/-- The cells of ops. -/
def orow : List Opp → List Value
  | [] => []
  | o :: r => .int .i64 o.1 :: .int .i64 o.2.1 :: .bool o.2.2.1 :: .int .i64 o.2.2.2 :: orow r
theorem orow_append : ∀ l m : List Opp, orow (l ++ m) = orow l ++ orow m
  | [], _ => rfl
  | _ :: r, m => by simp [orow, orow_append r m]
theorem orow_get : ∀ (l : List Opp) (j : Nat) (o : Opp), l[j]? = some o → (orow l)[j * 4]? = some (.int .i64 o.1) ∧ (orow l)[j * 4 + 1]? = some (.int .i64 o.2.1) ∧ (orow l)[j * 4 + 2]? = some (.bool o.2.2.1) ∧ (orow l)[j * 4 + 3]? = some (.int .i64 o.2.2.2)
  | [], j, o, h => by simp at h
  | x :: r, 0, o, h => by simp at h; subst h; simp [orow]
  | x :: r, j + 1, o, h => by
    have := orow_get r j o (by simpa using h)
    rw [show (j + 1) * 4 = j * 4 + 1 + 1 + 1 + 1 from by omega]
    simpa [orow] using this
/-- An op of a few transactions, and keys. -/
def fewB (o : Opp) : Prop := 1 ≤ o.1 ∧ o.1 ≤ 5 ∧ 0 ≤ o.2.1 ∧ o.2.1 < 3 ∧ 0 ≤ o.2.2.2 ∧ o.2.2.2 < 6
def allFew (m : List Opp) : Prop := ∀ o ∈ m, fewB o
theorem ops_of_row {w : World} {base : Nat} {v : Value} {m : List Opp} (h : w.ownsRow base 93 4 v m.length (orow m)) (hf : allFew m) : ∃ ad cap, v = .slice ad m.length cap ∧ OpsAt w ad m := by
  rcases row_slice h with ⟨e, e0⟩ | ⟨g, cap, e, hg, hc⟩
  · have : m = [] := List.eq_nil_of_length_eq_zero e0
    subst this
    exact ⟨none, 0, e, fun i o ho => by simp at ho⟩
  · refine ⟨_, cap, e, fun i o ho => ⟨g, 0, rfl, hg, ?_⟩⟩
    obtain ⟨h0, h1, h2, h3⟩ := orow_get m i o ho
    obtain ⟨f1, f2, f3, f4, f5, f6⟩ := hf o (List.mem_of_getElem? ho)
    rw [Nat.zero_add]
    exact ⟨⟨hc _ _ h0, hc _ _ h1, hc _ _ h2, hc _ _ h3⟩, by unfold I64; omega, by unfold I64; omega, by unfold I64; omega⟩

set_option maxRecDepth 100000 in
set_option maxHeartbeats 2000000 in
theorem ops_any (ad : Option Addr) (cap : Nat) (l : List Opp) (w : World) (hn : l.length ≤ 1000) (hO : OpsAt w ad l) :
    Calls Tryd.prog 39 #[.slice ad l.length cap] w fun e w' => ∃ v m, e = .returned v ∧ m.length = l.length ∧ allFew m ∧ w'.ownsRow w.heap.size 93 4 v m.length (orow m) ∧ Below w.heap.size w w' := by
  obtain ⟨i0, hi0, hz0, hz1, hz2⟩ := info_parts infoOp
  have HO := hid hO
  clear hO
  go_enter Tryd.func39, Tryd.ntmps39
  go_wp2
  go_loopw [3, 4] (fun sv iv wr => ∃ m : List Opp, iv = .int .i64 m.length ∧ m.length ≤ l.length ∧ allFew m ∧ wr.ownsRow w.heap.size 93 4 sv m.length (orow m) ∧ Below w.heap.size w wr) (fun _ iv _ => l.length - (intOf iv).toNat)
  case atStart => exact ⟨[], rfl, Nat.zero_le _, fun o h => by simp at h, World.ownsRow_nil _ _ _ _, Below.refl _ _⟩
  case round =>
    obtain ⟨m, rfl, hm, hf, ho, hB⟩ := hrel
    have hBs := hB.size
    obtain ⟨j, hj⟩ : ∃ j, m.length = j := ⟨_, rfl⟩
    have HR := hid (And.intro hf (And.intro ho hB))
    have HJ := hid hj
    rw [hj] at hm
    by_cases hlt : j < l.length
    · obtain ⟨o, hoj⟩ : ∃ o, l[j]? = some o := ⟨l[j], List.getElem?_eq_getElem hlt⟩
      obtain ⟨g, off, rfl, hg, ⟨c0, c1, c2, c3⟩, _⟩ := (HO.out.below hB) j o hoj
      obtain ⟨tx, htx⟩ : ∃ tx, o.1 = tx := ⟨_, rfl⟩
      obtain ⟨kk, hkk⟩ : ∃ kk, o.2.1 = kk := ⟨_, rfl⟩
      obtain ⟨wb, hwb⟩ : ∃ wb, o.2.2.1 = wb := ⟨_, rfl⟩
      obtain ⟨fr, hfr⟩ : ∃ fr, o.2.2.2 = fr := ⟨_, rfl⟩
      rw [htx] at c0
      rw [hkk] at c1
      rw [hwb] at c2
      rw [hfr] at c3
      have hj0 : (0 : Int) ≤ (j : Int) := by omega
      have hj1 : (j : Int) < (l.length : Int) := by omega
      clear hf ho hB hoj htx hkk hwb hfr
      rw [hj]
      clear hj
      go_wp2
      go_region_held3 (fun W => W.cell? ⟨g, off + j * 4, none⟩ = some (.int .i64 tx) ∧ W.cell? ⟨g, off + j * 4 + 1, none⟩ = some (.int .i64 kk) ∧ W.cell? ⟨g, off + j * 4 + 2, none⟩ = some (.bool wb))
        (first
          | go_keep)
        (first
          | (go_at_call 25
             refine (pick_eq _ _ _ (by decide) (by decide)).mono ?_
             rintro e v1 ⟨rfl, hv⟩
             rw [hv]
             clear hv v1)
          | fail)
      all_goals
        obtain ⟨wz, hwz⟩ : ∃ wz, (wr.alloc (.cells #[.int .i64 (IntKind.i64.wrap (1 + pickP tx 5)), .int .i64 (pickP kk 3), .bool wb, .int .i64 0] 93)).drew = wz := ⟨_, rfl⟩
        have hXz : wz.heap[wr.heap.size]? = some (.cells #[.int .i64 (IntKind.i64.wrap (1 + pickP tx 5)), .int .i64 (pickP kk 3), .bool wb, .int .i64 0] 93 (0, 0)) := by rw [← hwz]; exact heap_alloc_new wr _
        have hBz : Below wr.heap.size wr wz := by rw [← hwz]; exact ((Below.refl _ _).alloc (Nat.le_refl _) _).drew
        have hsz : wz.heap.size = wr.heap.size + 1 := by rw [← hwz]; simp
        rw [hwz]
        clear hwz
        obtain ⟨a1, ha1⟩ : ∃ a1, IntKind.i64.wrap (1 + pickP tx 5) = a1 := ⟨_, rfl⟩
        obtain ⟨b1, hb1⟩ : ∃ b1, pickP kk 3 = b1 := ⟨_, rfl⟩
        have hp1 := pickP_in tx 5 (by decide) (by decide)
        have hp2 := pickP_in kk 3 (by decide) (by decide)
        have hp3 := pickP_in fr 6 (by decide) (by decide)
        obtain ⟨f1, hf1⟩ : ∃ f1, pickP fr 6 = f1 := ⟨_, rfl⟩
        rw [ha1, hb1] at hXz ⊢
        rw [IntWalk.i64_in _ (by omega)] at ha1
        rw [hb1] at hp2
        rw [hf1] at hp3
        have x0 : wz.cell? ⟨wr.heap.size, 0, none⟩ = some (.int .i64 a1) := (cell_of_row _ _ 0 _ _ (0, 0) hXz).trans rfl
        have x1 : wz.cell? ⟨wr.heap.size, 1, none⟩ = some (.int .i64 b1) := (cell_of_row _ _ 1 _ _ (0, 0) hXz).trans rfl
        have x2 : wz.cell? ⟨wr.heap.size, 2, none⟩ = some (.bool wb) := (cell_of_row _ _ 2 _ _ (0, 0) hXz).trans rfl
        have x3 : wz.cell? ⟨wr.heap.size, 3, none⟩ = some (.int .i64 0) := (cell_of_row _ _ 3 _ _ (0, 0) hXz).trans rfl
        have y3 : wz.frozen? ⟨wr.heap.size, 3, none⟩ = false := by simp [World.frozen?, hXz]
        have hrow : wz.ownsRow w.heap.size 93 4 u3 m.length (orow m) := owns_same HR.out.2.1 (fun g e => hBz.block g (HR.out.2.1.lt g e).2)
        have hXl : wr.heap.size < wz.heap.size := by omega
        have hBw := HR.out.2.2.trans (hBz.mono hBs)
        have H1 := hid (And.intro hXz (And.intro hrow hBw))
        have hjl := HJ.out
        have e3 := (hBz.cell (p := ⟨g, off + j * 4 + 3, none⟩) hg).trans c3
        have hgz : g < wz.heap.size := by omega
        have hgX : g ≠ wr.heap.size := by omega
        have hws : w.heap.size ≤ wz.heap.size := by omega
        clear hXz hBz hrow hBw c0 c1 c2 c3 hsz
        cases wb with
        | true =>
          go_wp2_with (at_builtin; refine wpList_append_lies _ rfl _ _ _ rfl w.heap.size 93 i0 _ 4 32 Tryd.underlying87 hi0 hz0 hz1 hz2 rfl (by omega) u3 _ _ rfl (H1.out.2.1.alloc _) ⟨wz.heap.size, 0, none⟩ 1 1 [.int .i64 a1, .int .i64 b1, .bool true, .int .i64 0] rfl rfl (World.news_of_block (cs := #[.int .i64 a1, .int .i64 b1, .bool true, .int .i64 0]) (t := 93) (fr := (0, 0)) (heap_alloc_new wz _)) (by simp [Value.oneCell']) (by omega) (by unfold maxLen; omega) (by omega) (by simp; omega) (wz.heap.size + 1) (by simp) ?_; intro g2 cap2 w2 ho2 hgrow2 hat2 hlt2)
          go_roundw
          case rel =>
            refine ⟨m ++ [(a1, b1, true, 0)], by rw [List.length_append, hjl]; go_num, by rw [List.length_append, hjl]; simp; omega, fun o ho => ?_, by rw [List.length_append, orow_append]; rw [hjl] at ho2 ⊢; exact ho2, (H1.out.2.2.alloc (by omega) _).grown hgrow2 (by simp; omega) (fun k e => (H1.out.2.1.lt k e).1)⟩
            rcases List.mem_append.1 ho with ho | ho
            · exact HR.out.1 o ho
            · rw [List.mem_singleton.1 ho]; unfold fewB; simp; omega
          case measure => simp [intOf]; omega
        | false =>
          have hsS : (wz.setCell ⟨wr.heap.size, 3, none⟩ (.int .i64 f1)).heap.size = wz.heap.size := by simp
          have hN := heap_alloc_new (wz.setCell ⟨wr.heap.size, 3, none⟩ (.int .i64 f1)) (.cells #[.int .i64 a1, .int .i64 b1, .bool false, .int .i64 f1] 93)
          rw [hsS] at hN
          have HN := hid hN
          have HS := hid ((owns_same (w' := wz.setCell ⟨wr.heap.size, 3, none⟩ (.int .i64 f1)) H1.out.2.1 (fun g e => heap_setCell_other wz ⟨wr.heap.size, 3, none⟩ g _ (fun e2 => (Nat.ne_of_lt (HR.out.2.1.lt g e).2) e2))).alloc (.cells #[.int .i64 a1, .int .i64 b1, .bool false, .int .i64 f1] 93))
          clear hN hsS
          go_wp2_with (first
            | (go_at_call 25; refine (pick_eq _ _ _ (by decide) (by decide)).mono ?_; rintro e v1 ⟨rfl, hv⟩; rw [hv, hf1]; clear hv v1)
            | (at_builtin; refine wpList_append_lies _ rfl _ _ _ rfl w.heap.size 93 i0 _ 4 32 Tryd.underlying87 hi0 hz0 hz1 hz2 rfl (by omega) u3 _ _ rfl HS.out ⟨wz.heap.size, 0, none⟩ 1 1 [.int .i64 a1, .int .i64 b1, .bool false, .int .i64 f1] rfl rfl (World.news_of_block (cs := #[.int .i64 a1, .int .i64 b1, .bool false, .int .i64 f1]) (t := 93) (fr := (0, 0)) HN.out) (by simp [Value.oneCell']) (by omega) (by unfold maxLen; omega) (by omega) (by simp; omega) (wz.heap.size + 1) (by simp) ?_; intro g2 cap2 w2 ho2 hgrow2 hat2 hlt2))
          go_roundw
          case rel =>
            refine ⟨m ++ [(a1, b1, false, f1)], by rw [List.length_append, hjl]; go_num, by rw [List.length_append, hjl]; simp; omega, fun o ho => ?_, by rw [List.length_append, orow_append]; rw [hjl] at ho2 ⊢; exact ho2, ((H1.out.2.2.setCell (p := ⟨wr.heap.size, 3, none⟩) (by simpa using hBs) _).alloc (by simp; omega) _).grown hgrow2 (by simp; omega) (fun k e => (H1.out.2.1.lt k e).1)⟩
            rcases List.mem_append.1 ho with ho | ho
            · exact HR.out.1 o ho
            · rw [List.mem_singleton.1 ho]; unfold fewB; simp; omega
          case measure => simp [intOf]; omega
    · have hj1 : ¬ (j : Int) < (l.length : Int) := by omega
      rw [hj]
      clear hf ho hB hj
      go_wp2
      go_ret
      exact ⟨_, rfl, m, by have := HJ.out; omega, HR.out⟩

end Go.Proofs.YtjefgmeejhakbaaDoor
