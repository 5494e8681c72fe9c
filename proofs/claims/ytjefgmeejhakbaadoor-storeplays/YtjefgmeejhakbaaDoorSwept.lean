/- keep.StoreSwept: the walk. -/
import Derived.Test.YtjefgmeejhakbaaDoorSame
import Derived.Test.YtjefgmeejhakbaaDoorLkPick
namespace Go.Proofs.YtjefgmeejhakbaaDoor
open Go.RowKit

/-- A list of writes that came in. -/
def Inner (W : World) (u : Value) : Prop := ∃ ad n cap, u = .slice ad n cap ∧ ∀ j, j < n → ∃ (b off : Nat) (k x : Int), ad = some ⟨b, off, none⟩ ∧ W.cell? ⟨b, off + j * 2, none⟩ = some (.int .i64 k) ∧ W.cell? ⟨b, off + j * 2 + 1, none⟩ = some (.int .i64 x)
/-- A list of such lists. -/
def Outer (W : World) (ad : Option Addr) (n : Nat) : Prop := ∀ i, i < n → ∃ (b off : Nat) (u : Value), ad = some ⟨b, off, none⟩ ∧ W.cell? ⟨b, off + i, none⟩ = some u ∧ Inner W u

set_option maxRecDepth 100000 in
set_option maxHeartbeats 1000000 in
theorem swept_long (ad : Option Addr) (n cap : Nat) (at_ when_ later : Int) (w : World) (hn : 40 < n) :
    Calls Tryd.prog 4 #[.slice ad n cap, .int .i64 at_, .int .i64 when_, .int .i64 later] w fun e w' => e = .returned (.bool true) ∧ Below w.heap.size w w' := by
  have h1 : (40 : Int) < (n : Int) := by omega
  go_enter Tryd.func4, Tryd.ntmps4
  go_wp2
  go_ret
  exact ⟨rfl, Below.refl _ _⟩

set_option maxRecDepth 100000 in
set_option maxHeartbeats 4000000 in
theorem swept_walk (ad : Option Addr) (n cap : Nat) (at0 when0 later : Int) (w : World) (hn : n ≤ 40) (hO : Outer w ad n) (hH : Handle w) :
    Calls Tryd.prog 4 #[.slice ad n cap, .int .i64 at0, .int .i64 when0, .int .i64 later] w fun e w' => e = .returned (.bool true) ∧ Below w.heap.size w w' := by
  have hn1 : ¬ (40 : Int) < (n : Int) := by omega
  have hn2 : (n : Int) ≤ 40 := by omega
  obtain ⟨i0, hi0', hz0, hz1, hz2⟩ := info_parts info64
  go_enter Tryd.func4, Tryd.ntmps4
  go_wp2_with fail
  refine (stored_any w).mono ?_
  rintro e w0 ⟨rfl, hB0⟩
  have hTa := Sto.zero w0 (w0.heap.size + 2) (by omega)
  obtain ⟨W0, hW0⟩ : ∃ W0, w0.alloc (.cells #[.int .i64 0, .slice none 0 0, .slice none 0 0, .slice none 0 0, .slice none 0 0, .slice none 0 0, .slice none 0 0, .slice none 0 0, .slice none 0 0, .slice none 0 0, .slice none 0 0] 26) = W0 := ⟨_, rfl⟩
  have hs0 : W0.heap.size = w0.heap.size + 1 := by rw [← hW0]; simp
  have hTb := Sto.zero W0 (w0.heap.size + 2) (by omega)
  rw [hW0] at hTa
  have hA1 := (Below.refl W0.heap.size W0).alloc (Nat.le_refl _) (.cells #[.int .i64 0, .slice none 0 0, .slice none 0 0, .slice none 0 0, .slice none 0 0, .slice none 0 0, .slice none 0 0, .slice none 0 0, .slice none 0 0, .slice none 0 0, .slice none 0 0] 26)
  have hB1 : Below w.heap.size w W0 := by rw [← hW0]; exact hB0.alloc hB0.size _
  have hB2 := hB1.trans (hA1.mono hB1.size)
  have hT := Two.mk (hTa.below hA1) hTb (fun g h _ => not_in_none g h) (show w0.heap.size ≠ W0.heap.size by omega) (by simp; omega)
  obtain ⟨W1, hW1⟩ : ∃ W1, W0.alloc (.cells #[.int .i64 0, .slice none 0 0, .slice none 0 0, .slice none 0 0, .slice none 0 0, .slice none 0 0, .slice none 0 0, .slice none 0 0, .slice none 0 0, .slice none 0 0, .slice none 0 0] 26) = W1 := ⟨_, rfl⟩
  rw [hW1, hs0] at hT
  rw [hW1] at hB2
  obtain ⟨A, hA⟩ : ∃ A, w0.heap.size = A := ⟨_, rfl⟩
  rw [hA] at hT
  have hsb : w.heap.size ≤ A := by rw [← hA]; exact hB0.size
  have HW : Hid (W0.alloc (.cells #[.int .i64 0, .slice none 0 0, .slice none 0 0, .slice none 0 0, .slice none 0 0, .slice none 0 0, .slice none 0 0, .slice none 0 0, .slice none 0 0, .slice none 0 0, .slice none 0 0] 26) = W1 ∧ w0.alloc (.cells #[.int .i64 0, .slice none 0 0, .slice none 0 0, .slice none 0 0, .slice none 0 0, .slice none 0 0, .slice none 0 0, .slice none 0 0, .slice none 0 0, .slice none 0 0, .slice none 0 0] 26) = W0 ∧ w0.heap.size = A) := ⟨hW1, hW0, hA⟩
  clear hW1 hW0 hA hTa hTb hA1 hB1 hB0 hs0
  go_wp2_with fail
  rw [HW.out.2.1, HW.out.1, HW.out.2.2]
  clear HW
  refine (pick_any at0 _ W1 (by omega) (by omega)).mono ?_
  rintro e w' ⟨a1, rfl, ha0, ha1, hw⟩
  rw [hw]; clear hw w'
  go_wp2_with fail
  refine (pick_any when0 _ W1 (by omega) (by omega)).mono ?_
  rintro e w' ⟨a2, rfl, hc0, hc1, hw⟩
  rw [hw]; clear hw w'
  go_wp2_with fail
  go_loopw [11] (fun v wr => ∃ (i : Nat) (last : Int) (va vb : List Value) (ka kb : List (List (Int × Int))), i ≤ n ∧ v = .int .i64 i ∧ Two wr (A + 2) A (A + 1) last last va vb ka kb ∧ last ≤ i ∧ RelK a1 ka kb ∧ (∀ l ∈ ka, l.length ≤ 10 * i) ∧ Below w.heap.size w wr) (fun v _ => n - (intOf v).toNat)
  case atStart => exact ⟨0, 0, noneV, noneV, noneK, noneK, Nat.zero_le _, rfl, hT, Int.le_refl _, RelK.refl _ _ rfl, (fun l hl => by rw [noneK, List.mem_replicate] at hl; rw [hl.2]; simp), hB2⟩
  case round =>
    clear hT hB2
    obtain ⟨i, last, va, vb, ka, kb, hi, rfl, hT, hla, hR, hlen, hB⟩ := hrel
    obtain ⟨wa, rfl⟩ : ∃ wa, wa = wr := ⟨wr, rfl⟩
    by_cases hlt : i < n
    · obtain ⟨b, off, u, rfl, hcu, ad', m, cap', rfl, hin⟩ := hO i hlt
      have hbl := World.block_lt_of_cell? w _ hcu
      have hcu' := (hB.cell (p := ⟨b, off + i, none⟩) hbl).trans hcu
      have hi0 : (0 : Int) ≤ (i : Int) := by omega
      have hi1 : (i : Int) < (n : Int) := by omega
      by_cases hm : 10 < m
      · have hm1 : (10 : Int) < (m : Int) := by omega
        have HT := hid (hT)
        have HR := hid (hR)
        have HL := hid (hlen)
        clear hT hR hlen hin hcu
        go_wp2
        go_roundw
        case rel => exact ⟨i + 1, last, va, vb, ka, kb, by omega, by go_num, HT.out, by omega, HR.out, fun l hl => by have := HL.out l hl; omega, hB⟩
        case measure => simp [intOf]; omega
      · have hm1 : ¬ (10 : Int) < (m : Int) := by omega
        have hm2 : m ≤ 10 := by omega
        have HT := hid (hT)
        have HR := hid (hR)
        have HL := hid (hlen)
        have HI := hid (hin)
        clear hT hR hlen hin hcu
        go_wp2
        go_loopw [12, 13] (fun tv kv wz => ∃ (j : Nat) (ws : List (Int × Int)), j ≤ m ∧ kv = .int .i64 j ∧ ws.length = j ∧ (∀ p ∈ ws, Fine p) ∧ wz.ownsRow wa.heap.size 64 2 tv j (vrow ws) ∧ Below wa.heap.size wa wz) (fun _ kv _ => m - (intOf kv).toNat)
        case atStart => exact ⟨0, [], Nat.zero_le _, rfl, rfl, (by simp), by simpa [vrow] using World.ownsRow_nil wa wa.heap.size 64 2, Below.refl _ _⟩
        case round =>
          obtain ⟨j, ws, hj, rfl, hwl, hfine, hown, hBz⟩ := hrel
          have hcz := (hBz.cell (p := ⟨b, off + i, none⟩) (Nat.lt_of_lt_of_le hbl hB.size)).trans hcu'
          have hBs := hB.size
          have hBzs := hBz.size
          have hj0 : (0 : Int) ≤ (j : Int) := by omega
          by_cases hjl : j < m
          · obtain ⟨bi, oi, k0, x0, rfl, hck, hcx⟩ := HI.out j hjl
            have hbi := World.block_lt_of_cell? w _ hck
            have hbi2 : bi < wa.heap.size := Nat.lt_of_lt_of_le hbi hBs
            have hbz2 : b < wr.heap.size := Nat.lt_of_lt_of_le (Nat.lt_of_lt_of_le hbl hBs) hBzs
            have hck' := (hBz.cell (p := ⟨bi, oi + j * 2, none⟩) hbi2).trans ((hB.cell (p := ⟨bi, oi + j * 2, none⟩) hbi).trans hck)
            have hcx' := (hBz.cell (p := ⟨bi, oi + j * 2 + 1, none⟩) hbi2).trans ((hB.cell (p := ⟨bi, oi + j * 2 + 1, none⟩) hbi).trans hcx)
            have hj1 : (j : Int) < (m : Int) := by omega
            have HF : Hid (∀ p ∈ ws, Fine p) := hfine
            have HL2 : Hid (ws.length = j) := hwl
            clear hck hcx hfine hwl
            have hbi3 : bi < wr.heap.size := by omega
            have ne1 : ¬ wr.heap.size = b := by omega
            have ne2 : ¬ wr.heap.size = bi := by omega
            have aN : ∀ o, (wr.alloc o).heap[wr.heap.size]? = some o := fun o => World.alloc_heap_new wr o
            go_wp2
            go_region_held3 (fun w' => w'.cell? ⟨b, off + i, none⟩ = some (.slice (some ⟨bi, oi, none⟩) m cap') ∧ w'.cell? ⟨bi, oi + j * 2, none⟩ = some (.int .i64 k0) ∧ w'.cell? ⟨bi, oi + j * 2 + 1, none⟩ = some (.int .i64 x0))
              (first
                | go_keep
                | (go_split_ands
                   refine ⟨?_, ?_, ?_⟩
                   · (rw [hgrow.cell_far ⟨b, off + i, none⟩ (by simp; omega) (fun e => by have := (hown.lt _ e.symm).1; simp at this; omega)]; assumption)
                   · (rw [hgrow.cell_far ⟨bi, oi + j * 2, none⟩ (by simp; omega) (fun e => by have := (hown.lt _ e.symm).1; simp at this; omega)]; assumption)
                   · (rw [hgrow.cell_far ⟨bi, oi + j * 2 + 1, none⟩ (by simp; omega) (fun e => by have := (hown.lt _ e.symm).1; simp at this; omega)]; assumption)))
              (first
                | (go_at_call_of 25 (Value.int IntKind.i64 10); refine (pick_any _ _ wr.drew (by omega) (by omega)).mono ?_; rintro e w1 ⟨r1, rfl, hr0, hr1, hw⟩; rw [hw]; clear hw w1)
                | (go_at_call_of 25 (Value.int IntKind.i64 100); refine (pick_any _ _ wr.drew (by omega) (by omega)).mono ?_; rintro e w1 ⟨r2, rfl, hr2, hr3, hw⟩; rw [hw]; clear hw w1)
                | (refine step_append_lies _ (by rfl) _ _ _ (by rfl) wa.heap.size 64 i0 _ 2 16 Tryd.underlying31 hi0' hz0 hz1 hz2 rfl (by omega) u12 j (vrow ws) (by rfl) ((hown.alloc _).drew)
                    ⟨wr.heap.size, 0, none⟩ 1 1 [.int .i64 r1, .int .i64 r2] (by rfl) (by rfl) (World.news_of_block (cs := #[.int .i64 r1, .int .i64 r2]) (t := 64) (fr := (0, 0)) (aN _)) (by simp [Value.oneCell'])
                    (by omega) (by unfold maxLen; omega) (by omega) (by simp; omega) (wr.heap.size + 1) (by simp) ?_; intro gg cap2 w1 hown1 hgrow hat hlt1))
            have hB9 : Below wa.heap.size wa w1 := hBz.trans (((((Below.refl _ wr).alloc (Nat.le_refl _) _).drew).mono hBzs).grown hgrow (by simp; omega) (fun k e => (hown.lt k e).1))
            clear hgrow hat hcz hck' hcx'
            go_wp2
            go_roundw
            case rel =>
              refine ⟨j + 1, ws ++ [(r1, r2)], by omega, by go_num, by simp [HL2.out], ?_, ?_, hB9⟩
              · intro p hp
                rcases List.mem_append.1 hp with hp | hp
                · exact HF.out p hp
                · cases List.mem_singleton.1 hp
                  refine ⟨by simp [keyB]; omega, ?_, ?_⟩ <;> simp only <;> omega
              · rw [vrow_append]; exact hown1
            case measure => simp [intOf]; omega
          · have hjm : j = m := by omega
            subst hjm
            have hjn : ¬ (j : Int) < (j : Int) := by omega
            have HF : Hid (∀ p ∈ ws, Fine p) := hfine
            have HL2 : Hid (ws.length = j) := hwl
            have HO := hid (hown)
            clear hfine hwl hown
            have hg0 : ∀ g, u12.ownBlock = some g → g ≠ A ∧ g ≠ A + 1 ∧ ¬ InRows va g ∧ ¬ InRows vb g ∧ g < wr.heap.size := fun g e => by
              have h1 := HO.out.lt g e
              have h2 := HT.out.a.lt
              have h3 := HT.out.b.lt
              exact ⟨by omega, by omega, fun hr => by have := (HT.out.a.row hr).2; omega, fun hr => by have := (HT.out.b.row hr).2; omega, h1.2⟩
            have hT0 := HT.out.below hBz
            have hBw : Below w.heap.size w wr := hB.trans (hBz.mono hB.size)
            by_cases hiw : (i : Int) = a2
            · have hiw1 : ((i : Int) == a2) = true := by simpa using hiw
              clear hiw
              have hub : ∀ l ∈ kb, l.length ≤ 1000000 := fun l hl => by have := HR.out.bound (10 * i) HL.out l hl; omega
              by_cases hmin : a1 ≤ (i : Int)
              · go_wp2_with fail
                refine (sweep_any (A + 2) (A + 1) last a1 vb kb wr hT0.b hT0.hb hub).mono ?_
                rintro e wc ⟨rfl, vb1, hSc, hKc⟩
                have hT1 := hT0.right hSc hKc
                have hR1 := hid (HR.out.sweep (u := a1) (Int.le_refl _))
                have HO1 := hid (owns_same HO.out (fun g e => hKc.block g (hg0 g e).2.2.2.2 (hg0 g e).2.1 (hg0 g e).2.2.2.1))
                have hBc := hBw.trans (hKc.below (by have := hBw.size; omega) (by omega) (fun g h => by have := (hT0.b.row h).1; omega))
                have hg1 : ∀ g, u12.ownBlock = some g → g ≠ A ∧ g ≠ A + 1 ∧ ¬ InRows va g ∧ ¬ InRows vb1 g ∧ g < wc.heap.size := fun g e => by
                  obtain ⟨h1, h2, h3, h4, h5⟩ := hg0 g e
                  have h6 := hKc.size
                  exact ⟨h1, h2, h3, fun hr => (hKc.sub g hr).elim h4 (fun h => by omega), by omega⟩
                clear hSc hKc hT0 hg0 hBw
                go_wp2_with fail
                refine (install_own (A + 2) wa.heap.size A last _ va ka ws u12 _ hT1.a hT1.hb (by rw [HL2.out]; exact HO1.out) (fun g e => ⟨(hg1 g e).1, (hg1 g e).2.2.1⟩) HF.out (by omega) (by omega) (by have := HL2.out; omega) (fun l hl => by have := HL.out l hl; omega)).mono ?_
                rintro e w5 ⟨rfl, va2, hSa, hKa⟩
                have hT5 := hT1.left hSa hKa
                have HO5 := hid (owns_same HO1.out (fun g e => hKa.block g (hg1 g e).2.2.2.2 (hg1 g e).1 (hg1 g e).2.2.1))
                have hB5 := hBc.trans (hKa.below (by have := hBc.size; omega) hsb (fun g h => by have := (hT1.a.row h).1; omega))
                clear hSa hKa
                go_wp2_with fail
                refine (install_own (A + 2) wa.heap.size (A + 1) last _ vb1 _ ws u12 _ hT5.b hT5.hb (by rw [HL2.out]; exact HO5.out) (fun g e => ⟨(hg1 g e).2.1, (hg1 g e).2.2.2.1⟩) HF.out (by omega) (by omega) (by have := HL2.out; omega) (fun l hl => by have := hR1.out.bound (10 * i) HL.out l hl; omega)).mono ?_
                rintro e w6 ⟨rfl, vb2, hSb, hKb⟩
                have hT6 := hT5.right hSb hKb
                have hB6 := hB5.trans (hKb.below (by have := hB5.size; omega) (by omega) (fun g h => by have := (hT5.b.row h).1; omega))
                have HT6 := hid (hT6)
                clear hSb hKb hT5 hT1 hT6 hB5 hg1
                go_wp2
                go_roundw
                case rel =>
                  refine ⟨i + 1, _, va2, vb2, _, _, by omega, by go_num, HT6.out, by omega, hR1.out.inst _ ws HF.out, ?_, hB6⟩
                  intro l hl
                  have := instP_bound _ ws ka (10 * i) HL.out l hl
                  have := HL2.out
                  omega
                case measure => simp [intOf]; omega
              · go_wp2_with fail
                refine (sweep_any (A + 2) (A + 1) last (i : Int) vb kb wr hT0.b hT0.hb hub).mono ?_
                rintro e wc ⟨rfl, vb1, hSc, hKc⟩
                have hT1 := hT0.right hSc hKc
                have hR1 := hid (HR.out.sweep (u := (i : Int)) (by omega))
                have HO1 := hid (owns_same HO.out (fun g e => hKc.block g (hg0 g e).2.2.2.2 (hg0 g e).2.1 (hg0 g e).2.2.2.1))
                have hBc := hBw.trans (hKc.below (by have := hBw.size; omega) (by omega) (fun g h => by have := (hT0.b.row h).1; omega))
                have hg1 : ∀ g, u12.ownBlock = some g → g ≠ A ∧ g ≠ A + 1 ∧ ¬ InRows va g ∧ ¬ InRows vb1 g ∧ g < wc.heap.size := fun g e => by
                  obtain ⟨h1, h2, h3, h4, h5⟩ := hg0 g e
                  have h6 := hKc.size
                  exact ⟨h1, h2, h3, fun hr => (hKc.sub g hr).elim h4 (fun h => by omega), by omega⟩
                clear hSc hKc hT0 hg0 hBw
                go_wp2_with fail
                refine (install_own (A + 2) wa.heap.size A last _ va ka ws u12 _ hT1.a hT1.hb (by rw [HL2.out]; exact HO1.out) (fun g e => ⟨(hg1 g e).1, (hg1 g e).2.2.1⟩) HF.out (by omega) (by omega) (by have := HL2.out; omega) (fun l hl => by have := HL.out l hl; omega)).mono ?_
                rintro e w5 ⟨rfl, va2, hSa, hKa⟩
                have hT5 := hT1.left hSa hKa
                have HO5 := hid (owns_same HO1.out (fun g e => hKa.block g (hg1 g e).2.2.2.2 (hg1 g e).1 (hg1 g e).2.2.1))
                have hB5 := hBc.trans (hKa.below (by have := hBc.size; omega) hsb (fun g h => by have := (hT1.a.row h).1; omega))
                clear hSa hKa
                go_wp2_with fail
                refine (install_own (A + 2) wa.heap.size (A + 1) last _ vb1 _ ws u12 _ hT5.b hT5.hb (by rw [HL2.out]; exact HO5.out) (fun g e => ⟨(hg1 g e).2.1, (hg1 g e).2.2.2.1⟩) HF.out (by omega) (by omega) (by have := HL2.out; omega) (fun l hl => by have := hR1.out.bound (10 * i) HL.out l hl; omega)).mono ?_
                rintro e w6 ⟨rfl, vb2, hSb, hKb⟩
                have hT6 := hT5.right hSb hKb
                have hB6 := hB5.trans (hKb.below (by have := hB5.size; omega) (by omega) (fun g h => by have := (hT5.b.row h).1; omega))
                have HT6 := hid (hT6)
                clear hSb hKb hT5 hT1 hT6 hB5 hg1
                go_wp2
                go_roundw
                case rel =>
                  refine ⟨i + 1, _, va2, vb2, _, _, by omega, by go_num, HT6.out, by omega, hR1.out.inst _ ws HF.out, ?_, hB6⟩
                  intro l hl
                  have := instP_bound _ ws ka (10 * i) HL.out l hl
                  have := HL2.out
                  omega
                case measure => simp [intOf]; omega
            · have hiw1 : ((i : Int) == a2) = false := by simpa using hiw
              clear hiw
              have hT1 := hT0
              have hR1 := hid (HR.out)
              have HO1 := hid (HO.out)
              have hBc := hBw
              have hg1 := hg0
              clear hT0 hg0 hBw
              go_wp2_with fail
              refine (install_own (A + 2) wa.heap.size A last _ va ka ws u12 _ hT1.a hT1.hb (by rw [HL2.out]; exact HO1.out) (fun g e => ⟨(hg1 g e).1, (hg1 g e).2.2.1⟩) HF.out (by omega) (by omega) (by have := HL2.out; omega) (fun l hl => by have := HL.out l hl; omega)).mono ?_
              rintro e w5 ⟨rfl, va2, hSa, hKa⟩
              have hT5 := hT1.left hSa hKa
              have HO5 := hid (owns_same HO1.out (fun g e => hKa.block g (hg1 g e).2.2.2.2 (hg1 g e).1 (hg1 g e).2.2.1))
              have hB5 := hBc.trans (hKa.below (by have := hBc.size; omega) hsb (fun g h => by have := (hT1.a.row h).1; omega))
              clear hSa hKa
              go_wp2_with fail
              refine (install_own (A + 2) wa.heap.size (A + 1) last _ vb kb ws u12 _ hT5.b hT5.hb (by rw [HL2.out]; exact HO5.out) (fun g e => ⟨(hg1 g e).2.1, (hg1 g e).2.2.2.1⟩) HF.out (by omega) (by omega) (by have := HL2.out; omega) (fun l hl => by have := hR1.out.bound (10 * i) HL.out l hl; omega)).mono ?_
              rintro e w6 ⟨rfl, vb2, hSb, hKb⟩
              have hT6 := hT5.right hSb hKb
              have hB6 := hB5.trans (hKb.below (by have := hB5.size; omega) (by omega) (fun g h => by have := (hT5.b.row h).1; omega))
              have HT6 := hid (hT6)
              clear hSb hKb hT5 hT1 hT6 hB5 hg1
              go_wp2
              go_roundw
              case rel =>
                refine ⟨i + 1, _, va2, vb2, _, _, by omega, by go_num, HT6.out, by omega, hR1.out.inst _ ws HF.out, ?_, hB6⟩
                intro l hl
                have := instP_bound _ ws ka (10 * i) HL.out l hl
                have := HL2.out
                omega
              case measure => simp [intOf]; omega
    · have hub : ∀ l ∈ ka, l.length ≤ 1000000 := fun l hl => by have := hlen l hl; omega
      have huk : ∀ l ∈ kb, l.length ≤ 1000000 := hR.bound 1000000 hub
      have huk2 := sweep_bound a1 kb 1000000 huk
      have huk3 := sweep_bound a1 (kb.map (sweepL a1)) 1000000 huk2
      have hR2 := (hR.sweep (Int.le_refl a1)).sweep (Int.le_refl a1)
      have hmb : manyP kb ≤ 10000000 := by have := manyP_bound kb 1000000 huk; have := hR.2.1; omega
      have hms := many_swept a1 kb
      have hz2 := sweepN_twice a1 (kb)
      have HR := hid hR2
      have HUA := hid hub
      have HUB := hid huk3
      clear hlen hR2
      go_wp2_with fail
      refine (many_any (A + 2) (A + 1) last vb kb wa hT.b huk).mono ?_
      rintro e w' ⟨rfl, hw⟩
      rw [hw]; clear hw w'
      obtain ⟨M, hM⟩ : ∃ M, manyP kb = M := ⟨_, rfl⟩
      rw [hM] at hms hmb ⊢
      have HM := hid hM
      clear hM
      go_wp2_with fail
      refine (sweep_any (A + 2) (A + 1) last a1 vb kb wa hT.b hT.hb huk).mono ?_
      rintro e w7 ⟨rfl, vb7, hS7, hK7⟩
      have hT7 := hT.right hS7 hK7
      have hB7 := hB.trans (hK7.below (by have := hB.size; omega) (by omega) (fun g h => by have := (hT.b.row h).1; omega))
      obtain ⟨S, hS⟩ : ∃ S, sweepN a1 kb = S := ⟨_, rfl⟩
      rw [hS] at hms ⊢
      clear hS7 hK7 hT hB hS
      go_wp2_with fail
      refine (many_any (A + 2) (A + 1) last vb7 _ w7 hT7.b huk2).mono ?_
      rintro e w' ⟨rfl, hw⟩
      rw [hw]; clear hw w'
      obtain ⟨M2, hM2⟩ : ∃ M2, manyP (kb.map (sweepL a1)) = M2 := ⟨_, rfl⟩
      rw [hM2] at hms ⊢
      have hne1 : (((M2 : Nat) : Int) != (M : Int) - (S : Int)) = false := by simp; omega
      have HZ := hid hz2
      clear hM2 hz2
      go_wp2_with fail
      refine (sweep_any (A + 2) (A + 1) last a1 vb7 _ w7 hT7.b hT7.hb huk2).mono ?_
      rintro e w8 ⟨rfl, vb8, hS8, hK8⟩
      have hT8 := hT7.right hS8 hK8
      have hB8 := hB7.trans (hK8.below (by have := hB7.size; omega) (by omega) (fun g h => by have := (hT7.b.row h).1; omega))
      rw [HZ.out]
      clear hS8 hK8 hT7 hB7 huk huk2 huk3 hub hR
      go_wp2_with fail
      refine (pick_any later _ w8 (by omega) (by omega)).mono ?_
      rintro e w' ⟨r, rfl, hr0, hr1, hw⟩
      rw [hw]; clear hw w'
      obtain ⟨t, ht⟩ : ∃ t, a1 + r = t := ⟨_, rfl⟩
      have hta : a1 ≤ t := by omega
      have HTT := hid ht
      clear ht
      go_wp2_with fail
      rw [HTT.out]
      have HT8 := hid hT8
      clear HTT hT8
      have hH0 := hH.pos
      have HH := hid hH
      clear hH
      go_loopw [17] (fun v wr => ∃ k : Nat, k ≤ 10 ∧ v = .int .i64 k ∧ Hid (Two wr (A + 2) A (A + 1) last last va vb8 ka ((kb.map (sweepL a1)).map (sweepL a1))) ∧ Below w.heap.size w wr) (fun v _ => 10 - (intOf v).toNat)
      case atStart => exact ⟨0, by omega, rfl, HT8, hB8⟩
      case round =>
        clear HT8 hB8
        obtain ⟨k, hk, rfl, HT, hB⟩ := hrel
        by_cases hkl : k < 10
        · obtain ⟨la, hla⟩ : ∃ la, ka[k]? = some la := ⟨ka[k]'(by have := HT.out.a.lk; omega), List.getElem?_eq_getElem _⟩
          obtain ⟨lb, hlb⟩ : ∃ lb, ((kb.map (sweepL a1)).map (sweepL a1))[k]? = some lb := ⟨((kb.map (sweepL a1)).map (sweepL a1))[k]'(by have := HT.out.b.lk; omega), List.getElem?_eq_getElem _⟩
          obtain ⟨a, x, ev, c, d, hra, hrb, htl, hna, hnb⟩ := see_same k (HR.out.2.2 k la lb hla hlb) hta
          have hua := HUA.out la (List.mem_of_getElem? hla)
          have huc := HUB.out lb (List.mem_of_getElem? hlb)
          have HLA := hid hla
          have HLB := hid hlb
          have hk0 : (0 : Int) ≤ (k : Int) := by omega
          have hk1 : (k : Int) < 10 := by omega
          have hBs := hB.size
          clear hla hlb
          go_wp2_with fail
          refine (hra wr _ _ _ _ _ HT.out.a HLA.out hua).mono ?_
          rintro e w1 ⟨rfl, hB1⟩
          have hs1 := hB1.size
          have HT1 := hid (HT.out.below hB1)
          have hBw1 := hB.trans (hB1.mono hBs)
          clear hB1
          have hal1 : Below w1.heap.size w1 (w1.alloc (.cells #[.int .i64 a, .int .i64 x] 44)) := (Below.refl _ _).alloc (Nat.le_refl _) _
          have hx1 : (w1.alloc (.cells #[.int .i64 a, .int .i64 x] 44)).heap[w1.heap.size]? = some (.cells #[.int .i64 a, .int .i64 x] 44 (0, 0)) := World.alloc_heap_new w1 _
          have hsx : (w1.alloc (.cells #[.int .i64 a, .int .i64 x] 44)).heap.size = w1.heap.size + 1 := by simp
          have HX := hid hx1
          have HSX := hid hsx
          clear hx1 hsx
          go_wp2_with fail
          refine (hrb _ _ _ _ _ _ (HT1.out.below hal1).b HLB.out huc).mono ?_
          rintro e w2 ⟨rfl, hB2⟩
          have hs2 : w1.heap.size < w2.heap.size := by have := hB2.size; rw [HSX.out] at this; omega
          have hx2 := (hB2.block w1.heap.size (by rw [HSX.out]; omega)).trans HX.out
          have HT2 := hid ((HT1.out.below hal1).below hB2)
          have hBw2 := (hBw1.alloc hBw1.size (.cells #[.int .i64 a, .int .i64 x] 44)).trans (hB2.mono (by rw [HSX.out]; have := hBw1.size; omega))
          clear hB2 hal1 HX HSX HT1 hBw1 hs1
          have hal2 : Below w2.heap.size w2 (w2.alloc (.cells #[.int .i64 a, .int .i64 x] 44)) := (Below.refl _ _).alloc (Nat.le_refl _) _
          have hy1 : (w2.alloc (.cells #[.int .i64 a, .int .i64 x] 44)).heap[w2.heap.size]? = some (.cells #[.int .i64 a, .int .i64 x] 44 (0, 0)) := World.alloc_heap_new w2 _
          have hx3 := (hal2.block w1.heap.size hs2).trans hx2
          have hsx : (w2.alloc (.cells #[.int .i64 a, .int .i64 x] 44)).heap.size = w2.heap.size + 1 := by simp
          have HX := hid hx3
          have HY := hid hy1
          have HSX := hid hsx
          clear hx2 hx3 hy1 hsx
          go_wp2_with fail
          refine (hna _ _ _ _ _ _ (HT2.out.below hal2).a HLA.out hua).mono ?_
          rintro e w3 ⟨ad3, cp3, rfl, hB3⟩
          have hs3 : w2.heap.size < w3.heap.size := by have := hB3.size; rw [HSX.out] at this; omega
          have hx4 := hid ((hB3.block w1.heap.size (by rw [HSX.out]; omega)).trans HX.out)
          have hy4 := hid ((hB3.block w2.heap.size (by rw [HSX.out]; omega)).trans HY.out)
          have HT3 := hid ((HT2.out.below hal2).below hB3)
          have hBw3 := (hBw2.alloc hBw2.size (.cells #[.int .i64 a, .int .i64 x] 44)).trans (hB3.mono (by rw [HSX.out]; have := hBw2.size; omega))
          clear hB3 hal2 HX HY HSX HT2 hBw2
          go_wp2_with fail
          refine (hnb w3 _ _ _ _ _ HT3.out.b HLB.out huc).mono ?_
          rintro e w4 ⟨ad4, cp4, rfl, hB4⟩
          have hs4 := hB4.size
          have hx5 := (hB4.block w1.heap.size (by omega)).trans hx4.out
          have hy5 := (hB4.block w2.heap.size (by omega)).trans hy4.out
          have HT4 := hid (HT3.out.below hB4)
          have hBw4 := hBw3.trans (hB4.mono hBw3.size)
          have c1 : w4.cell? ⟨w1.heap.size, 0, none⟩ = some (.int .i64 a) := (cell_of_row _ _ 0 _ 44 (0, 0) hx5).trans rfl
          have c2 : w4.cell? ⟨w1.heap.size, 1, none⟩ = some (.int .i64 x) := (cell_of_row _ _ 1 _ 44 (0, 0) hx5).trans rfl
          have c3 : w4.cell? ⟨w2.heap.size, 0, none⟩ = some (.int .i64 a) := (cell_of_row _ _ 0 _ 44 (0, 0) hy5).trans rfl
          have c4 : w4.cell? ⟨w2.heap.size, 1, none⟩ = some (.int .i64 x) := (cell_of_row _ _ 1 _ 44 (0, 0) hy5).trans rfl
          clear hx4 hy4 hx5 hy5 HT3 hBw3 hB4 hs4
          have hw4 := HH.out.below hBw4 hH0
          have HH4 := hid hw4
          clear hw4
          go_wp2_with fail
          refine (htl w4 HH4.out).mono ?_
          rintro e w5 ⟨rfl, hB5⟩
          have HT5 := hid (HT4.out.below hB5)
          have hBw5 := hBw4.trans (hB5.mono hBw4.size)
          have HH5 := hid (HH.out.below hBw5 hH0)
          clear hB5 HT4 hBw4 HH4 c1 c2 c3 c4
          go_wp2_with fail
          refine (htl w5 HH5.out).mono ?_
          rintro e w6 ⟨rfl, hB6⟩
          have HT6 := hid (HT5.out.below hB6)
          have hBw6 := hBw5.trans (hB6.mono hBw5.size)
          clear hB6 HT5 hBw5 HH5
          go_wp2
          go_roundw
          case rel => exact ⟨k + 1, by omega, by go_num, HT6, hBw6⟩
          case measure => simp [intOf]; omega
        · go_wp2
          go_ret
          exact ⟨rfl, hB⟩

end Go.Proofs.YtjefgmeejhakbaaDoor
