/- law.StorePlays: the walk. -/
import Derived.Test.YtjefgmeejhakbaaDoorBoth
namespace Go.Proofs.YtjefgmeejhakbaaDoor
open Go.RowKit

/-- A list of calls that came in. -/
def Puts (W : World) (ad : Option Addr) (n : Nat) : Prop := ∀ i, i < n → ∃ (b off : Nat) (wh t k : Int) (u : Value), ad = some ⟨b, off, none⟩ ∧
  W.cell? ⟨b, off + i * 4, none⟩ = some (.int .i64 wh) ∧ W.cell? ⟨b, off + i * 4 + 1, none⟩ = some (.int .i64 t) ∧ W.cell? ⟨b, off + i * 4 + 2, none⟩ = some (.int .i64 k) ∧ W.cell? ⟨b, off + i * 4 + 3, none⟩ = some u ∧ Inner W u

set_option maxRecDepth 100000 in
set_option maxHeartbeats 1000000 in
theorem plays_long (ad : Option Addr) (n cap : Nat) (w : World) (hn : 80 < n) :
    Calls Tryd.prog 3 #[.slice ad n cap] w fun e w' => e = .returned (.bool true) ∧ Below w.heap.size w w' := by
  have h1 : (80 : Int) < (n : Int) := by omega
  go_enter Tryd.func3, Tryd.ntmps3
  go_wp2
  go_ret
  exact ⟨rfl, Below.refl _ _⟩

theorem Ref.zero (w : World) (base : Nat) (hb : w.heap.size < base) : Ref (w.alloc (.cells #[.slice none 0 0, .int .i64 0] 30)) base w.heap.size 0 (.slice none 0 0) [] :=
  ⟨World.alloc_heap_new w _, World.ownsRow_nil _ _ _ _, fun _ => rfl, hb⟩
theorem Doc.zero : Doc 0 noneK [] :=
  ⟨rfl, fun k hk => (by rw [noneK, List.getElem?_replicate, if_pos hk]; rfl), fun x hx => (by cases hx), fun k => List.Pairwise.nil, fun x hx => (by cases hx)⟩

set_option maxRecDepth 100000 in
set_option maxHeartbeats 8000000 in
theorem plays_walk (ad : Option Addr) (n cap : Nat) (w : World) (hn : n ≤ 80) (hO : Puts w ad n) (hH : Handle w) :
    Calls Tryd.prog 3 #[.slice ad n cap] w fun e w' => e = .returned (.bool true) ∧ Below w.heap.size w w' := by
  have hn1 : ¬ (80 : Int) < (n : Int) := by omega
  have hn2 : (n : Int) ≤ 80 := by omega
  have hTa := Sto.zero w (w.heap.size + 2) (by omega)
  obtain ⟨W0, hW0⟩ : ∃ W0, w.alloc (.cells #[.int .i64 0, .slice none 0 0, .slice none 0 0, .slice none 0 0, .slice none 0 0, .slice none 0 0, .slice none 0 0, .slice none 0 0, .slice none 0 0, .slice none 0 0, .slice none 0 0] 26) = W0 := ⟨_, rfl⟩
  have hs0 : W0.heap.size = w.heap.size + 1 := by rw [← hW0]; simp
  have hTb := Ref.zero W0 (w.heap.size + 2) (by omega)
  rw [hW0] at hTa
  have hA1 := (Below.refl W0.heap.size W0).alloc (Nat.le_refl _) (.cells #[.slice none 0 0, .int .i64 0] 30)
  have hB1 : Below w.heap.size w W0 := by rw [← hW0]; exact (Below.refl _ w).alloc (Nat.le_refl _) _
  have hB2 := hB1.trans (hA1.mono hB1.size)
  have hT := Both.mk (hTa.below hA1) hTb (fun g h _ => not_in_none g h) (show w.heap.size ≠ W0.heap.size by omega) (by simp; omega)
  obtain ⟨W1, hW1⟩ : ∃ W1, W0.alloc (.cells #[.slice none 0 0, .int .i64 0] 30) = W1 := ⟨_, rfl⟩
  rw [hW1, hs0] at hT
  rw [hW1] at hB2
  have HW : Hid (W0.alloc (.cells #[.slice none 0 0, .int .i64 0] 30) = W1 ∧ w.alloc (.cells #[.int .i64 0, .slice none 0 0, .slice none 0 0, .slice none 0 0, .slice none 0 0, .slice none 0 0, .slice none 0 0, .slice none 0 0, .slice none 0 0, .slice none 0 0, .slice none 0 0] 26) = W0) := ⟨hW1, hW0⟩
  clear hW1 hW0 hTa hTb hA1 hB1 hs0
  have hHp := hH.pos
  have HH := hid hH
  clear hH
  go_enter Tryd.func3, Tryd.ntmps3
  go_wp2_with fail
  rw [HW.out.2, HW.out.1]
  clear HW
  go_loopw [5] (fun v wr => ∃ (i : Nat) (last : Int) (vs : List Value) (lv : Value) (ks : List (List (Int × Int))) (L : List (Int × Int × Int)), i ≤ n ∧ v = .int .i64 i ∧ Both wr (w.heap.size + 2) w.heap.size (w.heap.size + 1) last last vs lv ks L ∧ Doc last ks L ∧ L.length ≤ 10 * i ∧ Below w.heap.size w wr) (fun v _ => n - (intOf v).toNat)
  case atStart => exact ⟨0, 0, noneV, _, noneK, [], Nat.zero_le _, rfl, hT, Doc.zero, by simp, hB2⟩
  case round =>
    clear hT hB2
    obtain ⟨i, last, vs, lv, ks, L, hi, rfl, hT, hD, hlen, hB⟩ := hrel
    obtain ⟨wa, rfl⟩ : ∃ wa, wa = wr := ⟨wr, rfl⟩
    by_cases hlt : i < n
    · obtain ⟨b, off, wh, t, k, u, rfl, c0, c1, c2, c3, hin⟩ := hO i hlt
      obtain ⟨ad', cap', ws, rfl, hws⟩ := inner_list hin
      have hbl := World.block_lt_of_cell? w _ c0
      have d0 := (hB.cell (p := ⟨b, off + i * 4, none⟩) hbl).trans c0
      have d1 := (hB.cell (p := ⟨b, off + i * 4 + 1, none⟩) hbl).trans c1
      have d2 := (hB.cell (p := ⟨b, off + i * 4 + 2, none⟩) hbl).trans c2
      have d3 := (hB.cell (p := ⟨b, off + i * 4 + 3, none⟩) hbl).trans c3
      have hi0 : (0 : Int) ≤ (i : Int) := by omega
      have hi1 : (i : Int) < (n : Int) := by omega
      have HT := hid hT
      have HD := hid hD
      have HW := hid hws
      clear hT hD hws c0 c1 c2 c3 hin hO
      by_cases hm : 20 < ws.length
      · have hm1 : (20 : Int) < (ws.length : Int) := by omega
        go_wp2
        go_roundw
        case rel => exact ⟨i + 1, last, vs, lv, ks, L, by omega, by go_num, HT.out.below ((Below.refl _ _).alloc (Nat.le_refl _) _), HD.out, by omega, hB.alloc hB.size _⟩
        case measure => simp [intOf]; omega
      · have hm1 : ¬ (20 : Int) < (ws.length : Int) := by omega
        have hAl : Below wa.heap.size wa (wa.alloc (.cells #[.int .i64 wh, .int .i64 t, .int .i64 k, .slice ad' ws.length cap'] 33)) := (Below.refl _ _).alloc (Nat.le_refl _) _
        have hX1 : (wa.alloc (.cells #[.int .i64 wh, .int .i64 t, .int .i64 k, .slice ad' ws.length cap'] 33)).heap[wa.heap.size]? = some (.cells #[.int .i64 wh, .int .i64 t, .int .i64 k, .slice ad' ws.length cap'] 33 (0, 0)) := World.alloc_heap_new wa _
        have hs1 : (wa.alloc (.cells #[.int .i64 wh, .int .i64 t, .int .i64 k, .slice ad' ws.length cap'] 33)).heap.size = wa.heap.size + 1 := by simp
        obtain ⟨w1, hw1⟩ : ∃ w1, wa.alloc (.cells #[.int .i64 wh, .int .i64 t, .int .i64 k, .slice ad' ws.length cap'] 33) = w1 := ⟨_, rfl⟩
        rw [hw1] at hAl hX1 hs1
        have hBa := hB.size
        have hHb := HT.out.hb
        have hB1 : Below w.heap.size w w1 := hB.trans (hAl.mono hBa)
        have HT1 := hid (HT.out.below hAl)
        have hXr : ¬ InRows vs wa.heap.size := fun hr => by have := (HT.out.a.row hr).2; omega
        have HXR := hid hXr
        obtain ⟨X, hXe⟩ : ∃ X, wa.heap.size = X := ⟨_, rfl⟩
        have HW1 := hid (HW.out.below hB1)
        have HE := hid (And.intro hw1 hXe)
        rw [hXe] at hX1 hs1 hBa hHb HXR
        have hub : ∀ l ∈ ks, l.length ≤ 1000 := fun l hl => by have := HD.out.bound l hl; omega
        have HUB := hid hub
        clear hAl hw1 hXe HW HT hub hXr
        by_cases hw0 : wh = 0
        · subst hw0
          obtain ⟨c, p, hout⟩ := out_some last t ws
          have HOUT := hid hout
          have x1 : w1.cell? ⟨X, 1, none⟩ = some (.int .i64 t) := (cell_of_row _ _ 1 _ 33 (0, 0) hX1).trans rfl
          have x3 : w1.cell? ⟨X, 3, none⟩ = some (.slice ad' ws.length cap') := (cell_of_row _ _ 3 _ 33 (0, 0) hX1).trans rfl
          have T1 := hid (HT1.out.below ((Below.refl _ w1).drew))
          have hBd : Below w.heap.size w w1.drew := hB1.drew
          have V1 := hid (HW1.out.below ((Below.refl w.heap.size w1).drew))
          have HX1 := hid hX1
          clear hout hX1 HT1 HW1
          go_wp2_with fail
          rw [HE.out.1, HE.out.2]
          go_region_held3 (fun w' => w'.cell? ⟨X, 1, none⟩ = some (.int .i64 t) ∧ w'.cell? ⟨X, 3, none⟩ = some (.slice ad' ws.length cap'))
            (first
              | go_keep
              | exact ⟨y1, y3⟩
              | exact ⟨z1, z3⟩
              | exact ⟨v1, v3⟩)
            (first
              | (go_at_call 9
                 refine (install_any (w.heap.size + 2) w.heap.size w.heap.size last t c p vs ks ws _ w1.drew T1.out.a T1.out.hb V1.out (Nat.le_refl _) (by omega) HOUT.out (by omega) (fun l hl => by have := HUB.out l hl; omega)).mono ?_
                 rintro e w2 ⟨ev, rfl, hev, vs2, hS2, hK2⟩
                 have T2 := hid (T1.out.left hS2 hK2)
                 have HEV := hid hev
                 have hX2 : w2.heap[X]? = some (.cells #[.int .i64 0, .int .i64 t, .int .i64 k, .slice ad' ws.length cap'] 33 (0, 0)) := (hK2.block X (by simp; omega) (by omega) HXR.out).trans HX1.out
                 have hB2 : Below w.heap.size w w2 := hBd.trans (hK2.below (by simp; omega) (Nat.le_refl _) (fun g h => by have := (T1.out.a.row h).1; omega))
                 have V2 := hid (V1.out.of_kept (fun b hb => hK2.block b (by simp; omega) (by omega) (fun h => by have := (T1.out.a.row h).1; omega)))
                 have hs2 : X < w2.heap.size := (Array.getElem?_eq_some_iff.1 hX2).1
                 have y1 : w2.cell? ⟨X, 1, none⟩ = some (.int .i64 t) := (cell_of_row _ _ 1 _ 33 (0, 0) hX2).trans rfl
                 have y3 : w2.cell? ⟨X, 3, none⟩ = some (.slice ad' ws.length cap') := (cell_of_row _ _ 3 _ 33 (0, 0) hX2).trans rfl
                 have HX2 := hid hX2
                 clear hS2 hK2 hev hX2)
              | (go_at_call 10
                 refine (refInst_any (w.heap.size + 2) (w.heap.size + 1) w.heap.size last t c p lv L ws _ w2 T2.out.b T2.out.hb V2.out (by omega) HOUT.out (by omega) (by omega)).mono ?_
                 rintro e w3 ⟨rfl, lv3, hR3, hK3, hg3⟩
                 have T3 := hid (T2.out.right hR3 hK3 hg3)
                 have HEV3 := hid (HEV.out.keptR T2.out.b hK3)
                 have hX3 : w3.heap[X]? = some (.cells #[.int .i64 0, .int .i64 t, .int .i64 k, .slice ad' ws.length cap'] 33 (0, 0)) := (hK3.block X hs2 (by omega)).trans HX2.out
                 have hB3 : Below w.heap.size w w3 := hB2.trans (hK3.below hB2.size (by omega))
                 have hs3 : X < w3.heap.size := (Array.getElem?_eq_some_iff.1 hX3).1
                 have z1 : w3.cell? ⟨X, 1, none⟩ = some (.int .i64 t) := (cell_of_row _ _ 1 _ 33 (0, 0) hX3).trans rfl
                 have z3 : w3.cell? ⟨X, 3, none⟩ = some (.slice ad' ws.length cap') := (cell_of_row _ _ 3 _ 33 (0, 0) hX3).trans rfl
                 have HX3 := hid hX3
                 clear hR3 hK3 hg3 hX3)
              | (go_at_call 8
                 refine (is_true c p ev w3 HEV3.out (HH.out.below hB3 hHp)).mono ?_
                 rintro e wy ⟨rfl, hB4⟩
                 have TY := hid (T3.out.below hB4)
                 have hXy : wy.heap[X]? = some (.cells #[.int .i64 0, .int .i64 t, .int .i64 k, .slice ad' ws.length cap'] 33 (0, 0)) := (hB4.block X hs3).trans HX3.out
                 have hBy : Below w.heap.size w wy := hB3.trans (hB4.mono hB3.size)
                 have hsy : X < wy.heap.size := (Array.getElem?_eq_some_iff.1 hXy).1
                 have v1 : wy.cell? ⟨X, 1, none⟩ = some (.int .i64 t) := (cell_of_row _ _ 1 _ 33 (0, 0) hXy).trans rfl
                 have v3 : wy.cell? ⟨X, 3, none⟩ = some (.slice ad' ws.length cap') := (cell_of_row _ _ 3 _ 33 (0, 0) hXy).trans rfl
                 have HXY := hid hXy
                 clear hB4 hXy)
              | fail)
          have DY := hid (HD.out.out HOUT.out)
          have LY : (aftL c t ws L).length ≤ 10 * (i + 1) := by have := aftL_length c t ws L; omega
          obtain ⟨last2, hla2⟩ : ∃ z, aftT c t last = z := ⟨_, rfl⟩
          obtain ⟨ks2, hks2⟩ : ∃ z, aftK c t ws ks = z := ⟨_, rfl⟩
          obtain ⟨L2, hL2⟩ : ∃ z, aftL c t ws L = z := ⟨_, rfl⟩
          rw [hla2, hks2, hL2] at DY TY
          rw [hL2] at LY
          clear hla2 hks2 hL2 x1 x3 y1 y3 z1 z3 v1 v3 T1 T2 T3 V1 V2 HX1 HX2 HX3 HEV HEV3 hB2 hB3 hs2 hs3 hBd HOUT HD HUB HXR hlen
          obtain ⟨adL, capL, rfl⟩ := TY.out.b.sliceV
          have hLb : L2.length ≤ 100000 := by omega
          obtain ⟨a, x, ee, ev1, hr1, hr2, he1⟩ := reads_alike DY.out hLb k t
          obtain ⟨l, ef, ev2, hll, hn1', hn2', he2⟩ := news_alike DY.out hLb k t
          have hmany := DY.out.many
          have hall := DY.out.all t
          have hkb : ∀ q ∈ ks2, q.length ≤ 1000000 := fun q hq => by have := DY.out.bound q hq; omega
          have R1 := hid hr1
          have R2 := hid hr2
          have N1 := hid hn1'
          have N2 := hid hn2'
          have E1 := hid he1
          have E2 := hid he2
          have MA := hid hmany
          have AL := hid hall
          have KB := hid hkb
          clear hr1 hr2 hn1' hn2' he1 he2 hmany hall hkb
          have x1 : wy.cell? ⟨X, 1, none⟩ = some (.int .i64 t) := (cell_of_row _ _ 1 _ 33 (0, 0) HXY.out).trans rfl
          have x2 : wy.cell? ⟨X, 2, none⟩ = some (.int .i64 k) := (cell_of_row _ _ 2 _ 33 (0, 0) HXY.out).trans rfl
          go_wp2_with fail
          refine (R1.out _ _ _ _ _ TY.out.b).mono ?_
          rintro e w5 ⟨rfl, hB5⟩
          have hs5 := hB5.size
          have T5 := hid (TY.out.below hB5)
          have hB5w : Below w.heap.size w w5 := hBy.trans (hB5.mono hBy.size)
          have hX5 := (hB5.block X hsy).trans HXY.out
          have y1 : w5.cell? ⟨X, 1, none⟩ = some (.int .i64 t) := (cell_of_row _ _ 1 _ 33 (0, 0) hX5).trans rfl
          have y2 : w5.cell? ⟨X, 2, none⟩ = some (.int .i64 k) := (cell_of_row _ _ 2 _ 33 (0, 0) hX5).trans rfl
          have ne5 : ¬ w5.heap.size = X := by omega
          have HX5 := hid hX5
          clear hB5 hX5 x1 x2 TY HXY hBy
          have hal : Below w5.heap.size w5 (w5.alloc (.cells #[.int .i64 a, .int .i64 x] 44)) := (Below.refl _ _).alloc (Nat.le_refl _) _
          have hv : (w5.alloc (.cells #[.int .i64 a, .int .i64 x] 44)).heap[w5.heap.size]? = some (.cells #[.int .i64 a, .int .i64 x] 44 (0, 0)) := World.alloc_heap_new w5 _
          have hsv : (w5.alloc (.cells #[.int .i64 a, .int .i64 x] 44)).heap.size = w5.heap.size + 1 := by simp
          have T5a := hid (T5.out.below hal)
          have HV := hid hv
          have HSV := hid hsv
          have HX5a := hid ((hal.block X (by omega)).trans HX5.out)
          have hB5a : Below w.heap.size w (w5.alloc (.cells #[.int .i64 a, .int .i64 x] 44)) := hB5w.alloc hB5w.size _
          have HB5a := hid hB5a
          clear hal hv hsv T5 hB5w hB5a HX5
          have yy1 : (w5.alloc (.cells #[.int .i64 a, .int .i64 x] 44)).cell? ⟨X, 1, none⟩ = some (.int .i64 t) := (cell_of_row _ _ 1 _ 33 (0, 0) HX5a.out).trans rfl
          have yy2 : (w5.alloc (.cells #[.int .i64 a, .int .i64 x] 44)).cell? ⟨X, 2, none⟩ = some (.int .i64 k) := (cell_of_row _ _ 2 _ 33 (0, 0) HX5a.out).trans rfl
          go_wp2_with fail
          refine (R2.out _ _ _ _ _ T5a.out.a).mono ?_
          rintro e w6 ⟨rfl, hB6⟩
          have hs6 : w5.heap.size < w6.heap.size := by have := hB6.size; rw [HSV.out] at this; omega
          have T6 := hid (T5a.out.below hB6)
          have hB6w : Below w.heap.size w w6 := HB5a.out.trans (hB6.mono HB5a.out.size)
          have hX6 := (hB6.block X (by rw [HSV.out]; omega)).trans HX5a.out
          have HV6 := hid ((hB6.block w5.heap.size (by rw [HSV.out]; omega)).trans HV.out)
          obtain ⟨V, hVe⟩ : ∃ V, w5.heap.size = V := ⟨_, rfl⟩
          rw [hVe] at HV6 hs6 hs5 ne5 ⊢
          clear yy1 yy2 y1 y2 hB6 T5a HV HSV HX5a HB5a hVe
          have y1 : w6.cell? ⟨X, 1, none⟩ = some (.int .i64 t) := (cell_of_row _ _ 1 _ 33 (0, 0) hX6).trans rfl
          have y2 : w6.cell? ⟨X, 2, none⟩ = some (.int .i64 k) := (cell_of_row _ _ 2 _ 33 (0, 0) hX6).trans rfl
          have HX6 := hid hX6
          clear hX6
          have ne6 : ¬ w6.heap.size = X := by omega
          have hal : Below w6.heap.size w6 (w6.alloc (.cells #[.int .i64 a, .int .i64 x] 44)) := (Below.refl _ _).alloc (Nat.le_refl _) _
          have hv : (w6.alloc (.cells #[.int .i64 a, .int .i64 x] 44)).heap[w6.heap.size]? = some (.cells #[.int .i64 a, .int .i64 x] 44 (0, 0)) := World.alloc_heap_new w6 _
          have hsv : (w6.alloc (.cells #[.int .i64 a, .int .i64 x] 44)).heap.size = w6.heap.size + 1 := by simp
          have T6a := hid (T6.out.below hal)
          have HG := hid hv
          have HSV := hid hsv
          have HX6a := hid ((hal.block X (by omega)).trans HX6.out)
          have HV6a := hid ((hal.block V (by omega)).trans HV6.out)
          have hB6a : Below w.heap.size w (w6.alloc (.cells #[.int .i64 a, .int .i64 x] 44)) := hB6w.alloc hB6w.size _
          have HB6a := hid hB6a
          clear hal hv hsv T6 hB6w hB6a HX6 HV6
          have yy1 : (w6.alloc (.cells #[.int .i64 a, .int .i64 x] 44)).cell? ⟨X, 1, none⟩ = some (.int .i64 t) := (cell_of_row _ _ 1 _ 33 (0, 0) HX6a.out).trans rfl
          have yy2 : (w6.alloc (.cells #[.int .i64 a, .int .i64 x] 44)).cell? ⟨X, 2, none⟩ = some (.int .i64 k) := (cell_of_row _ _ 2 _ 33 (0, 0) HX6a.out).trans rfl
          go_wp2_with fail
          refine (N1.out _ _ _ _ _ T6a.out.b).mono ?_
          rintro e w7 ⟨tv, rfl, hO7, hB7⟩
          have hs7 : w6.heap.size < w7.heap.size := by have := hB7.size; rw [HSV.out] at this; omega
          have T7 := hid (T6a.out.below hB7)
          have hB7w : Below w.heap.size w w7 := HB6a.out.trans (hB7.mono HB6a.out.size)
          have hX7 := (hB7.block X (by rw [HSV.out]; omega)).trans HX6a.out
          have HV7 := hid ((hB7.block V (by rw [HSV.out]; omega)).trans HV6a.out)
          have HG7 := hid ((hB7.block w6.heap.size (by rw [HSV.out]; omega)).trans HG.out)
          obtain ⟨G, hGe⟩ : ∃ G, w6.heap.size = G := ⟨_, rfl⟩
          rw [HSV.out] at hO7
          rw [hGe] at HG7 hs7 hs6 ne6 hO7 ⊢
          clear yy1 yy2 y1 y2 hB7 T6a HG HSV HX6a HV6a HB6a hGe
          have y1 : w7.cell? ⟨X, 1, none⟩ = some (.int .i64 t) := (cell_of_row _ _ 1 _ 33 (0, 0) hX7).trans rfl
          have y2 : w7.cell? ⟨X, 2, none⟩ = some (.int .i64 k) := (cell_of_row _ _ 2 _ 33 (0, 0) hX7).trans rfl
          have HX7 := hid hX7
          have HO7 := hid hO7
          clear hX7 hO7
          go_wp2_with fail
          refine (N2.out _ _ _ _ _ T7.out.a).mono ?_
          rintro e w8 ⟨uv, rfl, hO8, hB8⟩
          have hs8 := hB8.size
          have T8 := hid (T7.out.below hB8)
          have hB8w : Below w.heap.size w w8 := hB7w.trans (hB8.mono hB7w.size)
          have hX8 := (hB8.block X (by omega)).trans HX7.out
          have hV8 := (hB8.block V (by omega)).trans HV7.out
          have hG8 := (hB8.block G hs7).trans HG7.out
          have HO8 := hid (owns_same HO7.out (fun g e => hB8.block g (HO7.out.lt g e).2))
          have HP8 := hid hO8
          have sG0 : w8.cell? ⟨G, 0, none⟩ = some (.int .i64 a) := (cell_of_row _ _ 0 _ 44 (0, 0) hG8).trans rfl
          have sG1 : w8.cell? ⟨G, 1, none⟩ = some (.int .i64 x) := (cell_of_row _ _ 1 _ 44 (0, 0) hG8).trans rfl
          have sV0 : w8.cell? ⟨V, 0, none⟩ = some (.int .i64 a) := (cell_of_row _ _ 0 _ 44 (0, 0) hV8).trans rfl
          have sV1 : w8.cell? ⟨V, 1, none⟩ = some (.int .i64 x) := (cell_of_row _ _ 1 _ 44 (0, 0) hV8).trans rfl
          have sX1 : w8.cell? ⟨X, 1, none⟩ = some (.int .i64 t) := (cell_of_row _ _ 1 _ 33 (0, 0) hX8).trans rfl
          have gG : G < w8.heap.size := by omega
          have gV : V < w8.heap.size := by omega
          have gX : X < w8.heap.size := by omega
          have sR0 := T8.out.b.c0
          have sR1 := T8.out.b.c1
          have S8 := hid (show ∀ W, Below w8.heap.size w8 W → W.cell? ⟨G, 0, none⟩ = some (.int .i64 a) ∧ W.cell? ⟨G, 1, none⟩ = some (.int .i64 x) ∧ W.cell? ⟨V, 0, none⟩ = some (.int .i64 a) ∧ W.cell? ⟨V, 1, none⟩ = some (.int .i64 x) ∧ W.cell? ⟨X, 1, none⟩ = some (.int .i64 t) ∧ W.cell? ⟨w.heap.size + 1, 0, none⟩ = some (.slice adL L2.length capL) ∧ W.cell? ⟨w.heap.size + 1, 1, none⟩ = some (.int .i64 last2) from
            fun W hW => ⟨(hW.cell (p := ⟨G, 0, none⟩) gG).trans sG0, (hW.cell (p := ⟨G, 1, none⟩) gG).trans sG1, (hW.cell (p := ⟨V, 0, none⟩) gV).trans sV0, (hW.cell (p := ⟨V, 1, none⟩) gV).trans sV1, (hW.cell (p := ⟨X, 1, none⟩) gX).trans sX1, (hW.cell (p := ⟨w.heap.size + 1, 0, none⟩) T8.out.b.lt).trans sR0, (hW.cell (p := ⟨w.heap.size + 1, 1, none⟩) T8.out.b.lt).trans sR1⟩)
          have HB8 := hid hB8w
          have F8 := hid (show ∀ W, Below w8.heap.size w8 W → Handle W from fun W hW => (HH.out.below hB8w hHp).below hW (by have := hB8w.size; omega))
          have D8 : Below w8.heap.size w8 w8.drew := (Below.refl _ _).drew
          have HD8 := hid D8
          clear y1 y2 hB8 hX8 hV8 hG8 T7 HO7 hO8 HX7 HV7 HG7 hB7w hB8w R1 R2 N1 N2 D8
          go_wp2_with fail
          go_region_held3 (fun W => W.cell? ⟨G, 0, none⟩ = some (.int .i64 a) ∧ W.cell? ⟨G, 1, none⟩ = some (.int .i64 x) ∧ W.cell? ⟨V, 0, none⟩ = some (.int .i64 a) ∧ W.cell? ⟨V, 1, none⟩ = some (.int .i64 x) ∧ W.cell? ⟨X, 1, none⟩ = some (.int .i64 t) ∧ W.cell? ⟨w.heap.size + 1, 0, none⟩ = some (.slice adL L2.length capL) ∧ W.cell? ⟨w.heap.size + 1, 1, none⟩ = some (.int .i64 last2))
            (first
              | go_keep
              | exact S8.out _ b1.out
              | exact S8.out _ b2.out
              | exact S8.out _ b3.out
              | exact S8.out _ b6.out
              | exact S8.out _ b7.out
              | exact S8.out _ b8.out)
            (first
              | (go_at_call_of 17 ev1
                 refine (bare_true ee ev1 _ (E1.out _) (F8.out _ HD8.out)).mono ?_
                 rintro e v1 ⟨rfl, hb⟩
                 have b1 := hid (HD8.out.trans (hb.mono HD8.out.size))
                 clear hb)
              | (go_at_call_of 17 ev2
                 refine (bare_true ef ev2 _ (E2.out _) (F8.out _ b1.out)).mono ?_
                 rintro e v2 ⟨rfl, hb⟩
                 have b2 := hid (b1.out.trans (hb.mono b1.out.size))
                 clear hb)
              | (go_at_call 18
                 refine (sameR_true _ _ uv tv l v2 (by omega) (owns_same HP8.out (fun g e => b2.out.block g (HP8.out.lt g e).2)) (owns_same HO8.out (fun g e => b2.out.block g (HO8.out.lt g e).2))).mono ?_
                 rintro e v3 ⟨rfl, hb⟩
                 have b3 := hid (b2.out.trans (hb.mono b2.out.size))
                 have T9 := hid (T8.out.below b3.out)
                 clear hb)
              | (go_at_call 19
                 refine (last_any _ _ _ _ _ v3 T9.out.a).mono ?_
                 rintro e v4 ⟨rfl, hv4⟩
                 rw [hv4]
                 clear hv4 v4)
              | (go_at_call 20
                 refine (many_any _ _ _ _ _ v3 T9.out.a KB.out).mono ?_
                 rw [MA.out]
                 rintro e v5 ⟨rfl, hv5⟩
                 rw [hv5]
                 clear hv5 v5)
              | (go_at_call 22
                 refine (all_any _ _ _ t _ _ v3 T9.out.a KB.out).mono ?_
                 rintro e v6 ⟨av, rfl, ho6, hb⟩
                 have b6 := hid (b3.out.trans (hb.mono b3.out.size))
                 have T10 := hid (T9.out.below hb)
                 have P6 := hid ho6
                 clear hb ho6)
              | (go_at_call 23
                 refine (refAll_any _ _ t _ _ _ v6 (by omega) T10.out.b).mono ?_
                 rintro e v7 ⟨bv, rfl, ho7, hb⟩
                 have b7 := hid (b6.out.trans (hb.mono b6.out.size))
                 have T11 := hid (T10.out.below hb)
                 have P7 := hid ho7
                 have Q7 := hid (owns_same P6.out (fun g e => hb.block g (P6.out.lt g e).2))
                 clear hb ho7)
              | (go_at_call 21
                 refine (sameW_true _ _ av bv (allTo (fun k => readP t (ks2[k]?.getD [])) 10) v7 (by have := allTo_length (fun k => readP t (ks2[k]?.getD [])) 10; omega) Q7.out (by rw [← AL.out]; exact P7.out)).mono ?_
                 rintro e v8 ⟨rfl, hb⟩
                 have b8 := hid (b7.out.trans (hb.mono b7.out.size))
                 have T12 := hid (T11.out.below hb)
                 clear hb)
              | fail)
          clear sG0 sG1 sV0 sV1 sX1 sR0 sR1
          go_wp2
          go_roundw
          case rel => exact ⟨i + 1, last2, _, _, ks2, L2, by omega, by go_num, T12.out, DY.out, LY, HB8.out.trans (b8.out.mono HB8.out.size)⟩
          case measure => simp [intOf]; omega
        · have hw0' : (wh == (0 : Int)) = false := by simpa using hw0
          by_cases hw1 : wh = 1
          · subst hw1
            have x1 : w1.cell? ⟨X, 1, none⟩ = some (.int .i64 t) := (cell_of_row _ _ 1 _ 33 (0, 0) hX1).trans rfl
            have T1 := hid (HT1.out.below ((Below.refl _ w1).drew))
            have hBd : Below w.heap.size w w1.drew := hB1.drew
            have HX1 := hid hX1
            have hsn := HD.out.sweepN t
            have HSN := hid hsn
            clear hX1 HT1 HW1 hsn
            go_wp2_with fail
            rw [HE.out.1, HE.out.2]
            go_region_held3 (fun w' => w'.cell? ⟨X, 1, none⟩ = some (.int .i64 t))
              (first
                | go_keep
                | exact y1
                | exact z1)
              (first
                | (go_at_call 11
                   refine (sweep_any (w.heap.size + 2) w.heap.size last t vs ks w1.drew T1.out.a T1.out.hb (fun l hl => by have := HUB.out l hl; omega)).mono ?_
                   rintro e w2 ⟨rfl, vs2, hS2, hK2⟩
                   have T2 := hid (T1.out.left hS2 hK2)
                   have hX2 : w2.heap[X]? = some (.cells #[.int .i64 1, .int .i64 t, .int .i64 k, .slice ad' ws.length cap'] 33 (0, 0)) := (hK2.block X (by simp; omega) (by omega) HXR.out).trans HX1.out
                   have hB2 : Below w.heap.size w w2 := hBd.trans (hK2.below (by simp; omega) (Nat.le_refl _) (fun g h => by have := (T1.out.a.row h).1; omega))
                   have hs2 : X < w2.heap.size := (Array.getElem?_eq_some_iff.1 hX2).1
                   have y1 : w2.cell? ⟨X, 1, none⟩ = some (.int .i64 t) := (cell_of_row _ _ 1 _ 33 (0, 0) hX2).trans rfl
                   have HX2 := hid hX2
                   clear hS2 hK2 hX2)
                | (go_at_call 12
                   refine (refSweep_any (w.heap.size + 2) (w.heap.size + 1) t last lv L w2 HD.out.key (by omega) T2.out.hb T2.out.b).mono ?_
                   rw [HSN.out]
                   rintro e wy ⟨rfl, lv3, hR3, hK3, hg3⟩
                   have TY := hid (T2.out.right hR3 hK3 (fun g e => .inr (hg3 g e)))
                   have hXy : wy.heap[X]? = some (.cells #[.int .i64 1, .int .i64 t, .int .i64 k, .slice ad' ws.length cap'] 33 (0, 0)) := (hK3.block X hs2 (by omega)).trans HX2.out
                   have hBy : Below w.heap.size w wy := hB2.trans (hK3.below hB2.size (by omega))
                   have hsy : X < wy.heap.size := (Array.getElem?_eq_some_iff.1 hXy).1
                   have z1 : wy.cell? ⟨X, 1, none⟩ = some (.int .i64 t) := (cell_of_row _ _ 1 _ 33 (0, 0) hXy).trans rfl
                   have HXY := hid hXy
                   clear hR3 hK3 hg3 hXy)
                | fail)
            have DY := hid (HD.out.sweep t)
            have LY : (refSweep t L).length ≤ 10 * (i + 1) := by have := refSweep_length t L; omega
            obtain ⟨last2, hla2⟩ : ∃ z, last = z := ⟨_, rfl⟩
            obtain ⟨ks2, hks2⟩ : ∃ z, ks.map (sweepL t) = z := ⟨_, rfl⟩
            obtain ⟨L2, hL2⟩ : ∃ z, refSweep t L = z := ⟨_, rfl⟩
            rw [hla2, hks2, hL2] at DY TY
            rw [hL2] at LY
            clear hla2 hks2 hL2 x1 y1 z1 T1 T2 HX1 HX2 hB2 hs2 hBd HD HUB HXR hlen HSN
            obtain ⟨adL, capL, rfl⟩ := TY.out.b.sliceV
            have hLb : L2.length ≤ 100000 := by omega
            obtain ⟨a, x, ee, ev1, hr1, hr2, he1⟩ := reads_alike DY.out hLb k t
            obtain ⟨l, ef, ev2, hll, hn1', hn2', he2⟩ := news_alike DY.out hLb k t
            have hmany := DY.out.many
            have hall := DY.out.all t
            have hkb : ∀ q ∈ ks2, q.length ≤ 1000000 := fun q hq => by have := DY.out.bound q hq; omega
            have R1 := hid hr1
            have R2 := hid hr2
            have N1 := hid hn1'
            have N2 := hid hn2'
            have E1 := hid he1
            have E2 := hid he2
            have MA := hid hmany
            have AL := hid hall
            have KB := hid hkb
            clear hr1 hr2 hn1' hn2' he1 he2 hmany hall hkb
            have x1 : wy.cell? ⟨X, 1, none⟩ = some (.int .i64 t) := (cell_of_row _ _ 1 _ 33 (0, 0) HXY.out).trans rfl
            have x2 : wy.cell? ⟨X, 2, none⟩ = some (.int .i64 k) := (cell_of_row _ _ 2 _ 33 (0, 0) HXY.out).trans rfl
            go_wp2_with fail
            refine (R1.out _ _ _ _ _ TY.out.b).mono ?_
            rintro e w5 ⟨rfl, hB5⟩
            have hs5 := hB5.size
            have T5 := hid (TY.out.below hB5)
            have hB5w : Below w.heap.size w w5 := hBy.trans (hB5.mono hBy.size)
            have hX5 := (hB5.block X hsy).trans HXY.out
            have y1 : w5.cell? ⟨X, 1, none⟩ = some (.int .i64 t) := (cell_of_row _ _ 1 _ 33 (0, 0) hX5).trans rfl
            have y2 : w5.cell? ⟨X, 2, none⟩ = some (.int .i64 k) := (cell_of_row _ _ 2 _ 33 (0, 0) hX5).trans rfl
            have ne5 : ¬ w5.heap.size = X := by omega
            have HX5 := hid hX5
            clear hB5 hX5 x1 x2 TY HXY hBy
            have hal : Below w5.heap.size w5 (w5.alloc (.cells #[.int .i64 a, .int .i64 x] 44)) := (Below.refl _ _).alloc (Nat.le_refl _) _
            have hv : (w5.alloc (.cells #[.int .i64 a, .int .i64 x] 44)).heap[w5.heap.size]? = some (.cells #[.int .i64 a, .int .i64 x] 44 (0, 0)) := World.alloc_heap_new w5 _
            have hsv : (w5.alloc (.cells #[.int .i64 a, .int .i64 x] 44)).heap.size = w5.heap.size + 1 := by simp
            have T5a := hid (T5.out.below hal)
            have HV := hid hv
            have HSV := hid hsv
            have HX5a := hid ((hal.block X (by omega)).trans HX5.out)
            have hB5a : Below w.heap.size w (w5.alloc (.cells #[.int .i64 a, .int .i64 x] 44)) := hB5w.alloc hB5w.size _
            have HB5a := hid hB5a
            clear hal hv hsv T5 hB5w hB5a HX5
            have yy1 : (w5.alloc (.cells #[.int .i64 a, .int .i64 x] 44)).cell? ⟨X, 1, none⟩ = some (.int .i64 t) := (cell_of_row _ _ 1 _ 33 (0, 0) HX5a.out).trans rfl
            have yy2 : (w5.alloc (.cells #[.int .i64 a, .int .i64 x] 44)).cell? ⟨X, 2, none⟩ = some (.int .i64 k) := (cell_of_row _ _ 2 _ 33 (0, 0) HX5a.out).trans rfl
            go_wp2_with fail
            refine (R2.out _ _ _ _ _ T5a.out.a).mono ?_
            rintro e w6 ⟨rfl, hB6⟩
            have hs6 : w5.heap.size < w6.heap.size := by have := hB6.size; rw [HSV.out] at this; omega
            have T6 := hid (T5a.out.below hB6)
            have hB6w : Below w.heap.size w w6 := HB5a.out.trans (hB6.mono HB5a.out.size)
            have hX6 := (hB6.block X (by rw [HSV.out]; omega)).trans HX5a.out
            have HV6 := hid ((hB6.block w5.heap.size (by rw [HSV.out]; omega)).trans HV.out)
            obtain ⟨V, hVe⟩ : ∃ V, w5.heap.size = V := ⟨_, rfl⟩
            rw [hVe] at HV6 hs6 hs5 ne5 ⊢
            clear yy1 yy2 y1 y2 hB6 T5a HV HSV HX5a HB5a hVe
            have y1 : w6.cell? ⟨X, 1, none⟩ = some (.int .i64 t) := (cell_of_row _ _ 1 _ 33 (0, 0) hX6).trans rfl
            have y2 : w6.cell? ⟨X, 2, none⟩ = some (.int .i64 k) := (cell_of_row _ _ 2 _ 33 (0, 0) hX6).trans rfl
            have HX6 := hid hX6
            clear hX6
            have ne6 : ¬ w6.heap.size = X := by omega
            have hal : Below w6.heap.size w6 (w6.alloc (.cells #[.int .i64 a, .int .i64 x] 44)) := (Below.refl _ _).alloc (Nat.le_refl _) _
            have hv : (w6.alloc (.cells #[.int .i64 a, .int .i64 x] 44)).heap[w6.heap.size]? = some (.cells #[.int .i64 a, .int .i64 x] 44 (0, 0)) := World.alloc_heap_new w6 _
            have hsv : (w6.alloc (.cells #[.int .i64 a, .int .i64 x] 44)).heap.size = w6.heap.size + 1 := by simp
            have T6a := hid (T6.out.below hal)
            have HG := hid hv
            have HSV := hid hsv
            have HX6a := hid ((hal.block X (by omega)).trans HX6.out)
            have HV6a := hid ((hal.block V (by omega)).trans HV6.out)
            have hB6a : Below w.heap.size w (w6.alloc (.cells #[.int .i64 a, .int .i64 x] 44)) := hB6w.alloc hB6w.size _
            have HB6a := hid hB6a
            clear hal hv hsv T6 hB6w hB6a HX6 HV6
            have yy1 : (w6.alloc (.cells #[.int .i64 a, .int .i64 x] 44)).cell? ⟨X, 1, none⟩ = some (.int .i64 t) := (cell_of_row _ _ 1 _ 33 (0, 0) HX6a.out).trans rfl
            have yy2 : (w6.alloc (.cells #[.int .i64 a, .int .i64 x] 44)).cell? ⟨X, 2, none⟩ = some (.int .i64 k) := (cell_of_row _ _ 2 _ 33 (0, 0) HX6a.out).trans rfl
            go_wp2_with fail
            refine (N1.out _ _ _ _ _ T6a.out.b).mono ?_
            rintro e w7 ⟨tv, rfl, hO7, hB7⟩
            have hs7 : w6.heap.size < w7.heap.size := by have := hB7.size; rw [HSV.out] at this; omega
            have T7 := hid (T6a.out.below hB7)
            have hB7w : Below w.heap.size w w7 := HB6a.out.trans (hB7.mono HB6a.out.size)
            have hX7 := (hB7.block X (by rw [HSV.out]; omega)).trans HX6a.out
            have HV7 := hid ((hB7.block V (by rw [HSV.out]; omega)).trans HV6a.out)
            have HG7 := hid ((hB7.block w6.heap.size (by rw [HSV.out]; omega)).trans HG.out)
            obtain ⟨G, hGe⟩ : ∃ G, w6.heap.size = G := ⟨_, rfl⟩
            rw [HSV.out] at hO7
            rw [hGe] at HG7 hs7 hs6 ne6 hO7 ⊢
            clear yy1 yy2 y1 y2 hB7 T6a HG HSV HX6a HV6a HB6a hGe
            have y1 : w7.cell? ⟨X, 1, none⟩ = some (.int .i64 t) := (cell_of_row _ _ 1 _ 33 (0, 0) hX7).trans rfl
            have y2 : w7.cell? ⟨X, 2, none⟩ = some (.int .i64 k) := (cell_of_row _ _ 2 _ 33 (0, 0) hX7).trans rfl
            have HX7 := hid hX7
            have HO7 := hid hO7
            clear hX7 hO7
            go_wp2_with fail
            refine (N2.out _ _ _ _ _ T7.out.a).mono ?_
            rintro e w8 ⟨uv, rfl, hO8, hB8⟩
            have hs8 := hB8.size
            have T8 := hid (T7.out.below hB8)
            have hB8w : Below w.heap.size w w8 := hB7w.trans (hB8.mono hB7w.size)
            have hX8 := (hB8.block X (by omega)).trans HX7.out
            have hV8 := (hB8.block V (by omega)).trans HV7.out
            have hG8 := (hB8.block G hs7).trans HG7.out
            have HO8 := hid (owns_same HO7.out (fun g e => hB8.block g (HO7.out.lt g e).2))
            have HP8 := hid hO8
            have sG0 : w8.cell? ⟨G, 0, none⟩ = some (.int .i64 a) := (cell_of_row _ _ 0 _ 44 (0, 0) hG8).trans rfl
            have sG1 : w8.cell? ⟨G, 1, none⟩ = some (.int .i64 x) := (cell_of_row _ _ 1 _ 44 (0, 0) hG8).trans rfl
            have sV0 : w8.cell? ⟨V, 0, none⟩ = some (.int .i64 a) := (cell_of_row _ _ 0 _ 44 (0, 0) hV8).trans rfl
            have sV1 : w8.cell? ⟨V, 1, none⟩ = some (.int .i64 x) := (cell_of_row _ _ 1 _ 44 (0, 0) hV8).trans rfl
            have sX1 : w8.cell? ⟨X, 1, none⟩ = some (.int .i64 t) := (cell_of_row _ _ 1 _ 33 (0, 0) hX8).trans rfl
            have gG : G < w8.heap.size := by omega
            have gV : V < w8.heap.size := by omega
            have gX : X < w8.heap.size := by omega
            have sR0 := T8.out.b.c0
            have sR1 := T8.out.b.c1
            have S8 := hid (show ∀ W, Below w8.heap.size w8 W → W.cell? ⟨G, 0, none⟩ = some (.int .i64 a) ∧ W.cell? ⟨G, 1, none⟩ = some (.int .i64 x) ∧ W.cell? ⟨V, 0, none⟩ = some (.int .i64 a) ∧ W.cell? ⟨V, 1, none⟩ = some (.int .i64 x) ∧ W.cell? ⟨X, 1, none⟩ = some (.int .i64 t) ∧ W.cell? ⟨w.heap.size + 1, 0, none⟩ = some (.slice adL L2.length capL) ∧ W.cell? ⟨w.heap.size + 1, 1, none⟩ = some (.int .i64 last2) from
              fun W hW => ⟨(hW.cell (p := ⟨G, 0, none⟩) gG).trans sG0, (hW.cell (p := ⟨G, 1, none⟩) gG).trans sG1, (hW.cell (p := ⟨V, 0, none⟩) gV).trans sV0, (hW.cell (p := ⟨V, 1, none⟩) gV).trans sV1, (hW.cell (p := ⟨X, 1, none⟩) gX).trans sX1, (hW.cell (p := ⟨w.heap.size + 1, 0, none⟩) T8.out.b.lt).trans sR0, (hW.cell (p := ⟨w.heap.size + 1, 1, none⟩) T8.out.b.lt).trans sR1⟩)
            have HB8 := hid hB8w
            have F8 := hid (show ∀ W, Below w8.heap.size w8 W → Handle W from fun W hW => (HH.out.below hB8w hHp).below hW (by have := hB8w.size; omega))
            have D8 : Below w8.heap.size w8 w8.drew := (Below.refl _ _).drew
            have HD8 := hid D8
            clear y1 y2 hB8 hX8 hV8 hG8 T7 HO7 hO8 HX7 HV7 HG7 hB7w hB8w R1 R2 N1 N2 D8
            go_wp2_with fail
            go_region_held3 (fun W => W.cell? ⟨G, 0, none⟩ = some (.int .i64 a) ∧ W.cell? ⟨G, 1, none⟩ = some (.int .i64 x) ∧ W.cell? ⟨V, 0, none⟩ = some (.int .i64 a) ∧ W.cell? ⟨V, 1, none⟩ = some (.int .i64 x) ∧ W.cell? ⟨X, 1, none⟩ = some (.int .i64 t) ∧ W.cell? ⟨w.heap.size + 1, 0, none⟩ = some (.slice adL L2.length capL) ∧ W.cell? ⟨w.heap.size + 1, 1, none⟩ = some (.int .i64 last2))
              (first
                | go_keep
                | exact S8.out _ b1.out
                | exact S8.out _ b2.out
                | exact S8.out _ b3.out
                | exact S8.out _ b6.out
                | exact S8.out _ b7.out
                | exact S8.out _ b8.out)
              (first
                | (go_at_call_of 17 ev1
                   refine (bare_true ee ev1 _ (E1.out _) (F8.out _ HD8.out)).mono ?_
                   rintro e v1 ⟨rfl, hb⟩
                   have b1 := hid (HD8.out.trans (hb.mono HD8.out.size))
                   clear hb)
                | (go_at_call_of 17 ev2
                   refine (bare_true ef ev2 _ (E2.out _) (F8.out _ b1.out)).mono ?_
                   rintro e v2 ⟨rfl, hb⟩
                   have b2 := hid (b1.out.trans (hb.mono b1.out.size))
                   clear hb)
                | (go_at_call 18
                   refine (sameR_true _ _ uv tv l v2 (by omega) (owns_same HP8.out (fun g e => b2.out.block g (HP8.out.lt g e).2)) (owns_same HO8.out (fun g e => b2.out.block g (HO8.out.lt g e).2))).mono ?_
                   rintro e v3 ⟨rfl, hb⟩
                   have b3 := hid (b2.out.trans (hb.mono b2.out.size))
                   have T9 := hid (T8.out.below b3.out)
                   clear hb)
                | (go_at_call 19
                   refine (last_any _ _ _ _ _ v3 T9.out.a).mono ?_
                   rintro e v4 ⟨rfl, hv4⟩
                   rw [hv4]
                   clear hv4 v4)
                | (go_at_call 20
                   refine (many_any _ _ _ _ _ v3 T9.out.a KB.out).mono ?_
                   rw [MA.out]
                   rintro e v5 ⟨rfl, hv5⟩
                   rw [hv5]
                   clear hv5 v5)
                | (go_at_call 22
                   refine (all_any _ _ _ t _ _ v3 T9.out.a KB.out).mono ?_
                   rintro e v6 ⟨av, rfl, ho6, hb⟩
                   have b6 := hid (b3.out.trans (hb.mono b3.out.size))
                   have T10 := hid (T9.out.below hb)
                   have P6 := hid ho6
                   clear hb ho6)
                | (go_at_call 23
                   refine (refAll_any _ _ t _ _ _ v6 (by omega) T10.out.b).mono ?_
                   rintro e v7 ⟨bv, rfl, ho7, hb⟩
                   have b7 := hid (b6.out.trans (hb.mono b6.out.size))
                   have T11 := hid (T10.out.below hb)
                   have P7 := hid ho7
                   have Q7 := hid (owns_same P6.out (fun g e => hb.block g (P6.out.lt g e).2))
                   clear hb ho7)
                | (go_at_call 21
                   refine (sameW_true _ _ av bv (allTo (fun k => readP t (ks2[k]?.getD [])) 10) v7 (by have := allTo_length (fun k => readP t (ks2[k]?.getD [])) 10; omega) Q7.out (by rw [← AL.out]; exact P7.out)).mono ?_
                   rintro e v8 ⟨rfl, hb⟩
                   have b8 := hid (b7.out.trans (hb.mono b7.out.size))
                   have T12 := hid (T11.out.below hb)
                   clear hb)
                | fail)
            clear sG0 sG1 sV0 sV1 sX1 sR0 sR1
            go_wp2
            go_roundw
            case rel => exact ⟨i + 1, last2, _, _, ks2, L2, by omega, by go_num, T12.out, DY.out, LY, HB8.out.trans (b8.out.mono HB8.out.size)⟩
            case measure => simp [intOf]; omega
          · have hw1' : (wh == (1 : Int)) = false := by simpa using hw1
            obtain ⟨last2, rfl⟩ : ∃ z, z = last := ⟨last, rfl⟩
            obtain ⟨ks2, rfl⟩ : ∃ z, z = ks := ⟨ks, rfl⟩
            obtain ⟨L2, rfl⟩ : ∃ z, z = L := ⟨L, rfl⟩
            obtain ⟨wy, rfl⟩ : ∃ z, z = w1 := ⟨w1, rfl⟩
            have TY := HT1
            have DY := HD
            have hBy := hB1
            have LY : L2.length ≤ 10 * (i + 1) := by omega
            have HXY := hid hX1
            have hsy : X < wy.heap.size := by omega
            clear HD HUB HXR hlen hX1 hB1 HT1 HW1 hs1
            obtain ⟨adL, capL, rfl⟩ := TY.out.b.sliceV
            have hLb : L2.length ≤ 100000 := by omega
            obtain ⟨a, x, ee, ev1, hr1, hr2, he1⟩ := reads_alike DY.out hLb k t
            obtain ⟨l, ef, ev2, hll, hn1', hn2', he2⟩ := news_alike DY.out hLb k t
            have hmany := DY.out.many
            have hall := DY.out.all t
            have hkb : ∀ q ∈ ks2, q.length ≤ 1000000 := fun q hq => by have := DY.out.bound q hq; omega
            have R1 := hid hr1
            have R2 := hid hr2
            have N1 := hid hn1'
            have N2 := hid hn2'
            have E1 := hid he1
            have E2 := hid he2
            have MA := hid hmany
            have AL := hid hall
            have KB := hid hkb
            clear hr1 hr2 hn1' hn2' he1 he2 hmany hall hkb
            have x1 : wy.cell? ⟨X, 1, none⟩ = some (.int .i64 t) := (cell_of_row _ _ 1 _ 33 (0, 0) HXY.out).trans rfl
            have x2 : wy.cell? ⟨X, 2, none⟩ = some (.int .i64 k) := (cell_of_row _ _ 2 _ 33 (0, 0) HXY.out).trans rfl
            go_wp2_with fail
            rw [HE.out.1, HE.out.2]
            refine (R1.out _ _ _ _ _ TY.out.b).mono ?_
            rintro e w5 ⟨rfl, hB5⟩
            have hs5 := hB5.size
            have T5 := hid (TY.out.below hB5)
            have hB5w : Below w.heap.size w w5 := hBy.trans (hB5.mono hBy.size)
            have hX5 := (hB5.block X hsy).trans HXY.out
            have y1 : w5.cell? ⟨X, 1, none⟩ = some (.int .i64 t) := (cell_of_row _ _ 1 _ 33 (0, 0) hX5).trans rfl
            have y2 : w5.cell? ⟨X, 2, none⟩ = some (.int .i64 k) := (cell_of_row _ _ 2 _ 33 (0, 0) hX5).trans rfl
            have ne5 : ¬ w5.heap.size = X := by omega
            have HX5 := hid hX5
            clear hB5 hX5 x1 x2 TY HXY hBy
            have hal : Below w5.heap.size w5 (w5.alloc (.cells #[.int .i64 a, .int .i64 x] 44)) := (Below.refl _ _).alloc (Nat.le_refl _) _
            have hv : (w5.alloc (.cells #[.int .i64 a, .int .i64 x] 44)).heap[w5.heap.size]? = some (.cells #[.int .i64 a, .int .i64 x] 44 (0, 0)) := World.alloc_heap_new w5 _
            have hsv : (w5.alloc (.cells #[.int .i64 a, .int .i64 x] 44)).heap.size = w5.heap.size + 1 := by simp
            have T5a := hid (T5.out.below hal)
            have HV := hid hv
            have HSV := hid hsv
            have HX5a := hid ((hal.block X (by omega)).trans HX5.out)
            have hB5a : Below w.heap.size w (w5.alloc (.cells #[.int .i64 a, .int .i64 x] 44)) := hB5w.alloc hB5w.size _
            have HB5a := hid hB5a
            clear hal hv hsv T5 hB5w hB5a HX5
            have yy1 : (w5.alloc (.cells #[.int .i64 a, .int .i64 x] 44)).cell? ⟨X, 1, none⟩ = some (.int .i64 t) := (cell_of_row _ _ 1 _ 33 (0, 0) HX5a.out).trans rfl
            have yy2 : (w5.alloc (.cells #[.int .i64 a, .int .i64 x] 44)).cell? ⟨X, 2, none⟩ = some (.int .i64 k) := (cell_of_row _ _ 2 _ 33 (0, 0) HX5a.out).trans rfl
            go_wp2_with fail
            refine (R2.out _ _ _ _ _ T5a.out.a).mono ?_
            rintro e w6 ⟨rfl, hB6⟩
            have hs6 : w5.heap.size < w6.heap.size := by have := hB6.size; rw [HSV.out] at this; omega
            have T6 := hid (T5a.out.below hB6)
            have hB6w : Below w.heap.size w w6 := HB5a.out.trans (hB6.mono HB5a.out.size)
            have hX6 := (hB6.block X (by rw [HSV.out]; omega)).trans HX5a.out
            have HV6 := hid ((hB6.block w5.heap.size (by rw [HSV.out]; omega)).trans HV.out)
            obtain ⟨V, hVe⟩ : ∃ V, w5.heap.size = V := ⟨_, rfl⟩
            rw [hVe] at HV6 hs6 hs5 ne5 ⊢
            clear yy1 yy2 y1 y2 hB6 T5a HV HSV HX5a HB5a hVe
            have y1 : w6.cell? ⟨X, 1, none⟩ = some (.int .i64 t) := (cell_of_row _ _ 1 _ 33 (0, 0) hX6).trans rfl
            have y2 : w6.cell? ⟨X, 2, none⟩ = some (.int .i64 k) := (cell_of_row _ _ 2 _ 33 (0, 0) hX6).trans rfl
            have HX6 := hid hX6
            clear hX6
            have ne6 : ¬ w6.heap.size = X := by omega
            have hal : Below w6.heap.size w6 (w6.alloc (.cells #[.int .i64 a, .int .i64 x] 44)) := (Below.refl _ _).alloc (Nat.le_refl _) _
            have hv : (w6.alloc (.cells #[.int .i64 a, .int .i64 x] 44)).heap[w6.heap.size]? = some (.cells #[.int .i64 a, .int .i64 x] 44 (0, 0)) := World.alloc_heap_new w6 _
            have hsv : (w6.alloc (.cells #[.int .i64 a, .int .i64 x] 44)).heap.size = w6.heap.size + 1 := by simp
            have T6a := hid (T6.out.below hal)
            have HG := hid hv
            have HSV := hid hsv
            have HX6a := hid ((hal.block X (by omega)).trans HX6.out)
            have HV6a := hid ((hal.block V (by omega)).trans HV6.out)
            have hB6a : Below w.heap.size w (w6.alloc (.cells #[.int .i64 a, .int .i64 x] 44)) := hB6w.alloc hB6w.size _
            have HB6a := hid hB6a
            clear hal hv hsv T6 hB6w hB6a HX6 HV6
            have yy1 : (w6.alloc (.cells #[.int .i64 a, .int .i64 x] 44)).cell? ⟨X, 1, none⟩ = some (.int .i64 t) := (cell_of_row _ _ 1 _ 33 (0, 0) HX6a.out).trans rfl
            have yy2 : (w6.alloc (.cells #[.int .i64 a, .int .i64 x] 44)).cell? ⟨X, 2, none⟩ = some (.int .i64 k) := (cell_of_row _ _ 2 _ 33 (0, 0) HX6a.out).trans rfl
            go_wp2_with fail
            refine (N1.out _ _ _ _ _ T6a.out.b).mono ?_
            rintro e w7 ⟨tv, rfl, hO7, hB7⟩
            have hs7 : w6.heap.size < w7.heap.size := by have := hB7.size; rw [HSV.out] at this; omega
            have T7 := hid (T6a.out.below hB7)
            have hB7w : Below w.heap.size w w7 := HB6a.out.trans (hB7.mono HB6a.out.size)
            have hX7 := (hB7.block X (by rw [HSV.out]; omega)).trans HX6a.out
            have HV7 := hid ((hB7.block V (by rw [HSV.out]; omega)).trans HV6a.out)
            have HG7 := hid ((hB7.block w6.heap.size (by rw [HSV.out]; omega)).trans HG.out)
            obtain ⟨G, hGe⟩ : ∃ G, w6.heap.size = G := ⟨_, rfl⟩
            rw [HSV.out] at hO7
            rw [hGe] at HG7 hs7 hs6 ne6 hO7 ⊢
            clear yy1 yy2 y1 y2 hB7 T6a HG HSV HX6a HV6a HB6a hGe
            have y1 : w7.cell? ⟨X, 1, none⟩ = some (.int .i64 t) := (cell_of_row _ _ 1 _ 33 (0, 0) hX7).trans rfl
            have y2 : w7.cell? ⟨X, 2, none⟩ = some (.int .i64 k) := (cell_of_row _ _ 2 _ 33 (0, 0) hX7).trans rfl
            have HX7 := hid hX7
            have HO7 := hid hO7
            clear hX7 hO7
            go_wp2_with fail
            refine (N2.out _ _ _ _ _ T7.out.a).mono ?_
            rintro e w8 ⟨uv, rfl, hO8, hB8⟩
            have hs8 := hB8.size
            have T8 := hid (T7.out.below hB8)
            have hB8w : Below w.heap.size w w8 := hB7w.trans (hB8.mono hB7w.size)
            have hX8 := (hB8.block X (by omega)).trans HX7.out
            have hV8 := (hB8.block V (by omega)).trans HV7.out
            have hG8 := (hB8.block G hs7).trans HG7.out
            have HO8 := hid (owns_same HO7.out (fun g e => hB8.block g (HO7.out.lt g e).2))
            have HP8 := hid hO8
            have sG0 : w8.cell? ⟨G, 0, none⟩ = some (.int .i64 a) := (cell_of_row _ _ 0 _ 44 (0, 0) hG8).trans rfl
            have sG1 : w8.cell? ⟨G, 1, none⟩ = some (.int .i64 x) := (cell_of_row _ _ 1 _ 44 (0, 0) hG8).trans rfl
            have sV0 : w8.cell? ⟨V, 0, none⟩ = some (.int .i64 a) := (cell_of_row _ _ 0 _ 44 (0, 0) hV8).trans rfl
            have sV1 : w8.cell? ⟨V, 1, none⟩ = some (.int .i64 x) := (cell_of_row _ _ 1 _ 44 (0, 0) hV8).trans rfl
            have sX1 : w8.cell? ⟨X, 1, none⟩ = some (.int .i64 t) := (cell_of_row _ _ 1 _ 33 (0, 0) hX8).trans rfl
            have gG : G < w8.heap.size := by omega
            have gV : V < w8.heap.size := by omega
            have gX : X < w8.heap.size := by omega
            have sR0 := T8.out.b.c0
            have sR1 := T8.out.b.c1
            have S8 := hid (show ∀ W, Below w8.heap.size w8 W → W.cell? ⟨G, 0, none⟩ = some (.int .i64 a) ∧ W.cell? ⟨G, 1, none⟩ = some (.int .i64 x) ∧ W.cell? ⟨V, 0, none⟩ = some (.int .i64 a) ∧ W.cell? ⟨V, 1, none⟩ = some (.int .i64 x) ∧ W.cell? ⟨X, 1, none⟩ = some (.int .i64 t) ∧ W.cell? ⟨w.heap.size + 1, 0, none⟩ = some (.slice adL L2.length capL) ∧ W.cell? ⟨w.heap.size + 1, 1, none⟩ = some (.int .i64 last2) from
              fun W hW => ⟨(hW.cell (p := ⟨G, 0, none⟩) gG).trans sG0, (hW.cell (p := ⟨G, 1, none⟩) gG).trans sG1, (hW.cell (p := ⟨V, 0, none⟩) gV).trans sV0, (hW.cell (p := ⟨V, 1, none⟩) gV).trans sV1, (hW.cell (p := ⟨X, 1, none⟩) gX).trans sX1, (hW.cell (p := ⟨w.heap.size + 1, 0, none⟩) T8.out.b.lt).trans sR0, (hW.cell (p := ⟨w.heap.size + 1, 1, none⟩) T8.out.b.lt).trans sR1⟩)
            have HB8 := hid hB8w
            have F8 := hid (show ∀ W, Below w8.heap.size w8 W → Handle W from fun W hW => (HH.out.below hB8w hHp).below hW (by have := hB8w.size; omega))
            have D8 : Below w8.heap.size w8 w8.drew := (Below.refl _ _).drew
            have HD8 := hid D8
            clear y1 y2 hB8 hX8 hV8 hG8 T7 HO7 hO8 HX7 HV7 HG7 hB7w hB8w R1 R2 N1 N2 D8
            go_wp2_with fail
            go_region_held3 (fun W => W.cell? ⟨G, 0, none⟩ = some (.int .i64 a) ∧ W.cell? ⟨G, 1, none⟩ = some (.int .i64 x) ∧ W.cell? ⟨V, 0, none⟩ = some (.int .i64 a) ∧ W.cell? ⟨V, 1, none⟩ = some (.int .i64 x) ∧ W.cell? ⟨X, 1, none⟩ = some (.int .i64 t) ∧ W.cell? ⟨w.heap.size + 1, 0, none⟩ = some (.slice adL L2.length capL) ∧ W.cell? ⟨w.heap.size + 1, 1, none⟩ = some (.int .i64 last2))
              (first
                | go_keep
                | exact S8.out _ b1.out
                | exact S8.out _ b2.out
                | exact S8.out _ b3.out
                | exact S8.out _ b6.out
                | exact S8.out _ b7.out
                | exact S8.out _ b8.out)
              (first
                | (go_at_call_of 17 ev1
                   refine (bare_true ee ev1 _ (E1.out _) (F8.out _ HD8.out)).mono ?_
                   rintro e v1 ⟨rfl, hb⟩
                   have b1 := hid (HD8.out.trans (hb.mono HD8.out.size))
                   clear hb)
                | (go_at_call_of 17 ev2
                   refine (bare_true ef ev2 _ (E2.out _) (F8.out _ b1.out)).mono ?_
                   rintro e v2 ⟨rfl, hb⟩
                   have b2 := hid (b1.out.trans (hb.mono b1.out.size))
                   clear hb)
                | (go_at_call 18
                   refine (sameR_true _ _ uv tv l v2 (by omega) (owns_same HP8.out (fun g e => b2.out.block g (HP8.out.lt g e).2)) (owns_same HO8.out (fun g e => b2.out.block g (HO8.out.lt g e).2))).mono ?_
                   rintro e v3 ⟨rfl, hb⟩
                   have b3 := hid (b2.out.trans (hb.mono b2.out.size))
                   have T9 := hid (T8.out.below b3.out)
                   clear hb)
                | (go_at_call 19
                   refine (last_any _ _ _ _ _ v3 T9.out.a).mono ?_
                   rintro e v4 ⟨rfl, hv4⟩
                   rw [hv4]
                   clear hv4 v4)
                | (go_at_call 20
                   refine (many_any _ _ _ _ _ v3 T9.out.a KB.out).mono ?_
                   rw [MA.out]
                   rintro e v5 ⟨rfl, hv5⟩
                   rw [hv5]
                   clear hv5 v5)
                | (go_at_call 22
                   refine (all_any _ _ _ t _ _ v3 T9.out.a KB.out).mono ?_
                   rintro e v6 ⟨av, rfl, ho6, hb⟩
                   have b6 := hid (b3.out.trans (hb.mono b3.out.size))
                   have T10 := hid (T9.out.below hb)
                   have P6 := hid ho6
                   clear hb ho6)
                | (go_at_call 23
                   refine (refAll_any _ _ t _ _ _ v6 (by omega) T10.out.b).mono ?_
                   rintro e v7 ⟨bv, rfl, ho7, hb⟩
                   have b7 := hid (b6.out.trans (hb.mono b6.out.size))
                   have T11 := hid (T10.out.below hb)
                   have P7 := hid ho7
                   have Q7 := hid (owns_same P6.out (fun g e => hb.block g (P6.out.lt g e).2))
                   clear hb ho7)
                | (go_at_call 21
                   refine (sameW_true _ _ av bv (allTo (fun k => readP t (ks2[k]?.getD [])) 10) v7 (by have := allTo_length (fun k => readP t (ks2[k]?.getD [])) 10; omega) Q7.out (by rw [← AL.out]; exact P7.out)).mono ?_
                   rintro e v8 ⟨rfl, hb⟩
                   have b8 := hid (b7.out.trans (hb.mono b7.out.size))
                   have T12 := hid (T11.out.below hb)
                   clear hb)
                | fail)
            clear sG0 sG1 sV0 sV1 sX1 sR0 sR1
            go_wp2
            go_roundw
            case rel => exact ⟨i + 1, last2, _, _, ks2, L2, by omega, by go_num, T12.out, DY.out, LY, HB8.out.trans (b8.out.mono HB8.out.size)⟩
            case measure => simp [intOf]; omega
    · go_wp2
      go_ret
      exact ⟨rfl, hB⟩

end Go.Proofs.YtjefgmeejhakbaaDoor
