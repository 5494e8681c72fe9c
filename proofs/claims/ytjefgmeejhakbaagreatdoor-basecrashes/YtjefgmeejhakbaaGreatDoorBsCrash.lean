/- keep's BaseCrashes: wherever the power goes off, a base that is opened anew has what those wrote whose commit was told to be done. -/
import Derived.Test.YtjefgmeejhakbaaGreatDoorMgAS
import Derived.Test.YtjefgmeejhakbaaGreatDoorMgAB
import Derived.Deep.RegionHeld3
import Derived.Deep.QuietTactic
import Derived.BigQuiet
import Derived.Deep.CutBlock
import Derived.Deep.DeepCutAuto
namespace Go.Proofs.YtjefgmeejhakbaaGreatDoor
open Go.RowKit

set_option maxRecDepth 100000 in
set_option maxHeartbeats 4000000 in
theorem crash_long (ad ad1 ad2 : Option Addr) (n cap n1 cap1 n2 cap2 : Nat) (w : World) (h : 90 < n ∨ 60 < n1 ∨ 60 < n2) :
    Calls Tryz.prog 9 #[.slice ad n cap, .slice ad1 n1 cap1, .slice ad2 n2 cap2] w fun e w' => e = .returned (.bool true) ∧ w' = w := by
  by_cases h1 : 90 < n
  · have g1 : (90 : Int) < (n : Int) := by omega
    go_enter Tryz.func9, Tryz.ntmps9
    go_wp2
    go_ret
    exact ⟨rfl, rfl⟩
  · have g1 : ¬ (90 : Int) < (n : Int) := by omega
    by_cases h2 : 60 < n1
    · have g2 : (60 : Int) < (n1 : Int) := by omega
      go_enter Tryz.func9, Tryz.ntmps9
      go_wp2
      go_ret
      exact ⟨rfl, rfl⟩
    · have g2 : ¬ (60 : Int) < (n1 : Int) := by omega
      have g3 : (60 : Int) < (n2 : Int) := by omega
      go_enter Tryz.func9, Tryz.ntmps9
      go_wp2
      go_ret
      exact ⟨rfl, rfl⟩

set_option maxRecDepth 100000 in
set_option maxHeartbeats 8000000 in
theorem crash_walk (ad ad1 ad2 : Option Addr) (n cap n1 cap1 n2 cap2 : Nat) (w : World) (hn : n ≤ 90) (hn1 : n1 ≤ 60) (hn2 : n2 ≤ 60) (hA : ActsAt w ad n) (hC1 : IntsAt w ad1 n1) (hC2 : IntsAt w ad2 n2) (hg : Handle w) :
    Calls Tryz.prog 9 #[.slice ad n cap, .slice ad1 n1 cap1, .slice ad2 n2 cap2] w fun e w' => e = .returned (.bool true) ∧ Below w.heap.size w w' := by
  have HK := hid (kept_any w)
  have HA := hid hA
  have HC1 := hid hC1
  have HC2 := hid hC2
  have HG := hid hg
  have g1 : ¬ (90 : Int) < (n : Int) := by omega
  have g2 : ¬ (60 : Int) < (n1 : Int) := by omega
  have g3 : ¬ (60 : Int) < (n2 : Int) := by omega
  clear hA hg hC1 hC2
  go_enter Tryz.func9, Tryz.ntmps9
  go_wp2_with fail
  refine HK.out.mono ?_
  rintro e w1 ⟨rfl, hB1⟩
  obtain ⟨w2, hw2⟩ : ∃ w2, w1.alloc (.cells Tryz.zeroCells96 96) = w2 := ⟨_, rfl⟩
  obtain ⟨d, hd⟩ : ∃ d, w1.heap.size = d := ⟨_, rfl⟩
  have hD2 : DiskAt w2 d dv0 dsk0 := by rw [← hw2, ← hd]; exact disk0 w1
  have hB2 : Below w.heap.size w w2 := by rw [← hw2]; exact hB1.alloc hB1.size _
  have HO2 := hid (open_any' hD2 dskOk0.1)
  have HD2 := hid (And.intro hD2 (And.intro hB2 (show ∀ g, dOwn d dv0 g → w.heap.size ≤ g from fun g hg => by rw [dOwn0 hg, ← hd]; exact hB1.size)))
  have HW2 := hid (And.intro hw2 hd)
  clear hD2 hB2 hw2 hB1 HK hd
  go_wp2_with fail
  rw [HW2.out.1, HW2.out.2]
  refine HO2.out.mono ?_
  rintro e w3 ⟨b, L, rfl, hb, hE, hB, ho, hob, hnb⟩
  have HC3 := hid (cr_open HD2.out.1 HD2.out.2.1 HD2.out.2.2 ⟨hb, hE, hB, ho, hob, hnb⟩)
  have HEN := hid (bengine_any HC3.out.bas)
  clear hb hE hB ho hob hnb HO2 HW2 HD2
  go_wp2_with fail
  refine HEN.out.mono ?_
  rintro e w4 ⟨rfl, hw4⟩
  rw [hw4]
  clear hw4 w4 HEN
  have hmm := @run_makeMap Tryz.prog
  obtain ⟨mb, hmb⟩ : ∃ mb, w3.heap.size = mb := ⟨_, rfl⟩
  obtain ⟨w4, hw4⟩ : ∃ w4, w3.alloc (.map #[] 0) = w4 := ⟨_, rfl⟩
  have HS4 := hid (cr_start HC3.out)
  rw [hmb, hw4] at HS4
  have HW4 := hid (And.intro hw4 hmb)
  clear hw4 hmb HC3
  go_wp2
  rw [HW4.out.1, HW4.out.2]
  clear HW4
  go_loopw [8, 11, 12] (fun bv vv iv wr => ∃ (b i : Nat) (x : Int) (L : EnL) (E : Eng) (dv : List Value) (D : Dsk) (torn : Int) (recs : List (List (Int × Int))), bv = .pointer (some ⟨b, 0, none⟩) ∧ vv = .int .i64 x ∧ (0 ≤ x ∧ x ≤ i) ∧ iv = .int .i64 i ∧ i ≤ n ∧ Hid (CrOk w wr d mb b i L E dv D torn false recs (lastOf recs.flatten))) (fun _ _ iv _ => n - (intOf iv).toNat)
  case atStart => exact ⟨b, 0, 0, L, _, dv0, dsk0, 0, [], rfl, rfl, ⟨by omega, by omega⟩, rfl, Nat.zero_le _, HS4⟩
  case round =>
    clear HS4 hmm
    obtain ⟨b, i, x, L, E, dv, D, torn, recs, rfl, rfl, hx, rfl, hi, HX⟩ := hrel
    by_cases hlt : i < n
    · obtain ⟨gb, off, a0, a1, a2, a3, rfl, x0, x1, x2, x3⟩ := HA.out i hlt
      have hbw : gb < w.heap.size := World.block_lt_of_cell? w _ x0
      have s1 := (HX.out.cr.fr.cell (p := ⟨gb, off + i * 4, none⟩) hbw).trans x0
      have s2 := (HX.out.cr.fr.cell (p := ⟨gb, off + i * 4 + 1, none⟩) hbw).trans x1
      have s3 := (HX.out.cr.fr.cell (p := ⟨gb, off + i * 4 + 2, none⟩) hbw).trans x2
      have s4 := (HX.out.cr.fr.cell (p := ⟨gb, off + i * 4 + 3, none⟩) hbw).trans x3
      have gi1 : (i : Int) < (n : Int) := by omega
      have gi0 : (0 : Int) ≤ (i : Int) := by omega
      obtain ⟨X, hX⟩ : ∃ X, wr.heap.size = X := ⟨_, rfl⟩
      obtain ⟨w5, hw5⟩ : ∃ w5, wr.alloc (.cells #[.int .i64 a0, .int .i64 a1, .int .i64 a2, .int .i64 a3] 62) = w5 := ⟨_, rfl⟩
      have HX5 := hid (show w5.heap[X]? = some (.cells #[.int .i64 a0, .int .i64 a1, .int .i64 a2, .int .i64 a3] 62 (0, 0)) by rw [← hw5, ← hX]; exact heap_alloc_new wr _)
      have HC5 := hid (HX.out.below (show Below wr.heap.size wr w5 by rw [← hw5]; exact (Below.refl _ wr).alloc (Nat.le_refl _) _))
      have HEN := hid (bengine_any HC5.out.cr.bas)
      have HW5 := hid (And.intro hw5 hX)
      have c2 : w5.cell? ⟨X, 2, none⟩ = some (.int .i64 a2) := (cell_of_row _ _ 2 _ 62 (0, 0) HX5.out).trans rfl
      clear x0 x1 x2 x3 hw5 hX
      go_wp2_with fail
      rw [HW5.out.1, HW5.out.2]
      refine HEN.out.mono ?_
      rintro e w6 ⟨rfl, hw6⟩
      rw [hw6]
      clear hw6 w6 HEN s1 s2 s3 s4 HX HW5
      have HTX := hid (fun q => txsE_any (HC5.out.drewN q).cr.bas.en)
      have HPK := hid (fun q => pick_eq a2 6 (w5.drewN q) (by decide) (by decide))
      go_wp2_with fail
      go_quiet (first | (go_at_call 35; refine Calls.quiet_of_same (HPK.out _)) | (go_at_call 32; refine Calls.quiet_of_same (HTX.out _)))
      obtain ⟨w7, hw7⟩ : ∃ w7, w5.drewN nq = w7 := ⟨_, rfl⟩
      have HC7 := hid (HC5.out.drewN nq)
      rw [hw7] at HC7
      have HX7 := hid (show w7.heap[X]? = some (.cells #[.int .i64 a0, .int .i64 a1, .int .i64 a2, .int .i64 a3] 62 (0, 0)) by rw [← hw7]; exact ((below_drewN (Below.refl _ w5) nq).block X (Array.getElem?_eq_some_iff.1 HX5.out).1).trans HX5.out)
      have c0 : w7.cell? ⟨X, 0, none⟩ = some (.int .i64 a0) := (cell_of_row _ _ 0 _ 62 (0, 0) HX7.out).trans rfl
      have hpk := pickP_in a2 6 (by decide) (by decide)
      have hle := HC7.out.cr.bas.en.le
      obtain ⟨m, hm⟩ : ∃ m, wrap64 ((E.txs.length : Int) - pickP a2 6) = m := ⟨_, rfl⟩
      have hmN : m ≤ E.txs.length := by rw [← hm, IntWalk.wrap64_in _ (by omega)]; omega
      have HMN := hid hmN
      rw [hw7, hm]
      clear hm hw7 hpk hle hmN HC5 HX5 c2 HTX HPK
      go_upto_block 2 with fail
      go_cut [11] (fun vv wx => ∃ (x' : Int) (L' : EnL) (E' : Eng) (dv' : List Value) (D' : Dsk) (torn' : Int) (down' : Bool) (recs' : List (List (Int × Int))), vv = .int .i64 x' ∧ (0 ≤ x' ∧ x' ≤ (i : Int) + 1) ∧ Hid (CrOk w wx d mb b (i + 1) L' E' dv' D' torn' down' recs' (lastOf recs'.flatten)))
      case first =>
        have c1 : w7.cell? ⟨X, 1, none⟩ = some (.int .i64 a1) := (cell_of_row _ _ 1 _ 62 (0, 0) HX7.out).trans rfl
        have c3 : w7.cell? ⟨X, 3, none⟩ = some (.int .i64 a3) := (cell_of_row _ _ 3 _ 62 (0, 0) HX7.out).trans rfl
        have hp1 := pickP_in a1 3 (by decide) (by decide)
        have hp3 := pickP_in a3 4 (by decide) (by decide)
        have HP1 := hid (pick_eq a1 3 w7 (by decide) (by decide))
        have HP3 := hid (pick_eq a3 4 w7 (by decide) (by decide))
        obtain ⟨l1, hl1⟩ : ∃ l1, pickP a1 3 = l1 := ⟨_, rfl⟩
        obtain ⟨k3, hk3⟩ : ∃ k3, pickP a3 4 = k3 := ⟨_, rfl⟩
        rw [hl1] at hp1 HP1
        rw [hk3] at hp3 HP3
        clear hl1 hk3
        by_cases e0 : a0 = 0
        · as_aux_lemma =>
          subst e0
          have HBG := hid (cr_begin HC7.out (level := l1) (by omega))
          go_wp2_with fail
          refine HP1.out.mono ?_
          rintro e w8 ⟨rfl, hw8⟩
          rw [hw8]
          clear hw8 w8
          go_wp2_with fail
          refine HBG.out.mono ?_
          rintro e w8 ⟨v1, v2, rfl, L8, E8, h8⟩
          have H8 := hid h8
          clear h8 HBG
          go_wp2
          go_meet
          exact ⟨x, L8, E8, dv, D, torn, false, recs, rfl, ⟨by omega, by omega⟩, H8⟩
        · have q0 : (a0 == 0) = false := by simpa using e0
          by_cases e1 : a0 = 1
          · as_aux_lemma =>
            subst e1
            have HRD := hid (cr_read HC7.out HG.out (m := m) (key := k3) HMN.out (by omega) (by omega))
            go_wp2_with fail
            refine HP3.out.mono ?_
            rintro e w8 ⟨rfl, hw8⟩
            rw [hw8]
            clear hw8 w8
            go_wp2_with fail
            refine HRD.out.mono ?_
            rintro e w8 ⟨v1, v2, rfl, L8, E8, h8⟩
            have H8 := hid h8
            clear h8 HRD
            go_wp2
            go_meet
            exact ⟨x, L8, E8, dv, D, torn, false, recs, rfl, ⟨by omega, by omega⟩, H8⟩
          · have q1 : (a0 == 1) = false := by simpa using e1
            by_cases e2 : a0 = 2
            · as_aux_lemma =>
              subst e2
              have HWR := hid (cr_write HC7.out (m := m) (key := k3) (val := x + 1) HMN.out (by omega) (by omega))
              have gx : IntKind.i64.wrap (x + 1) = x + 1 := IntWalk.i64_in _ (by omega)
              go_wp2_with fail
              refine HP3.out.mono ?_
              rintro e w8 ⟨rfl, hw8⟩
              rw [hw8]
              clear hw8 w8
              go_wp2_with fail
              refine HWR.out.mono ?_
              rintro e w8 ⟨v1, v2, rfl, L8, E8, h8⟩
              have H8 := hid h8
              clear h8 HWR
              go_wp2
              go_meet
              exact ⟨x + 1, L8, E8, dv, D, torn, false, recs, rfl, ⟨by omega, by omega⟩, H8⟩
            · have q2 : (a0 == 2) = false := by simpa using e2
              by_cases e3 : a0 = 3
              · as_aux_lemma =>
                subst e3
                have HWS := hid (cr_writes HC7.out (m := m) HMN.out)
                go_wp2_with fail
                refine HWS.out.mono ?_
                rintro e w8 ⟨wv, ev, rfl, hrow, hB8⟩
                have HCM := hid (cr_commit (HC7.out.below hB8) (by omega) (m := m) HMN.out)
                have hxn : (wsAt E m).length ≤ 10 := ws_len E m
                have hxk : ∀ p ∈ wsAt E m, 0 ≤ p.1 ∧ p.1 < 10 := ws_key E m
                obtain ⟨xl, hxl⟩ : ∃ xl, wsAt E m = xl := ⟨_, rfl⟩
                rw [hxl] at hrow HCM hxn hxk
                have HXK := hid hxk
                have HROW := hid hrow
                have HB8 := hid hB8
                obtain ⟨wad, wcap, hwv⟩ := row_form hrow
                subst hwv
                clear hxl hxk hrow hB8 HWS HP1 HP3 c0 c1 c3
                go_wp2_with fail
                refine HCM.out.mono ?_
                rintro e w9 (⟨rfl, L9, E9, dv9, D9, recs9, h9, hfl, hP9⟩ | ⟨c, rfl, L9, E9, dv9, D9, down9, h9⟩)
                · have H9 := hid h9
                  have HFL := hid hfl
                  have hr9 : xl.length = 0 ∨ ∃ g cc, Value.slice wad xl.length wcap = .slice (some ⟨g, 0, none⟩) xl.length cc ∧ g < w9.heap.size ∧ g ≠ mb ∧ ∀ j u, (vrow xl)[j]? = some u → w9.cell? ⟨g, j, none⟩ = some u := by
                    rcases row_slice HROW.out with ⟨_, e0⟩ | ⟨g, cc, e, hg, hc⟩
                    · exact .inl e0
                    · have h1 := (HROW.out.lt g (by rw [e]; rfl)).1
                      have hC7 := HC7.out
                      have hb7 := hC7.cr.bas.lt
                      have hm7 := hC7.mp.map.lt
                      have hblk : w9.heap[g]? = w8.heap[g]? := hP9.block g hg (by omega) (fun e => by have := hC7.cr.bas.dsk.lt; omega) (fun ho => by have := hC7.cr.bas.en.own_lt ho; omega)
                      exact .inr ⟨g, cc, e, Nat.lt_of_lt_of_le hg hP9.size, by omega, fun j u hu => (World.cell?_of_block (w := w8) (a := ⟨g, j, none⟩) hblk).trans (hc j u hu)⟩
                  have HR9 := hid hr9
                  clear h9 hfl hP9 hr9 HCM HROW HB8
                  go_wp2
                  go_loopw [18] (fun av wr4 => ∃ a : Nat, av = .int .i64 a ∧ a ≤ xl.length ∧ IMap wr4 mb (10 + a) (fun y => (lastOf (recs.flatten ++ xl.take a) y).map (Value.int .i64)) ∧ Hid (Below mb w9 wr4 ∧ ∀ g, g < w9.heap.size → g ≠ mb → wr4.heap[g]? = w9.heap[g]?)) (fun av _ => xl.length - (intOf av).toNat)
                  case atStart => exact ⟨0, rfl, Nat.zero_le _, H9.out.mp.map.congr (fun y => by rw [List.take_zero, List.append_nil]), Below.refl _ _, fun _ _ _ => rfl⟩
                  case round =>
                    obtain ⟨a, rfl, ha, hI, HA2⟩ := hrel
                    by_cases hlt3 : a < xl.length
                    · obtain ⟨⟨kx, vx⟩, hkx⟩ : ∃ p, xl[a]? = some p := ⟨xl[a], List.getElem?_eq_getElem hlt3⟩
                      rcases HR9.out with e0 | ⟨g6, c6, e6, hg6, hgb, hc6⟩
                      · omega
                      · injection e6 with e1 e2 e3
                        subst e1 e3
                        have hget := vrow_get xl a _ _ hkx
                        have hsk : ∀ W : World, (∀ g, g < w9.heap.size → g ≠ mb → W.heap[g]? = w9.heap[g]?) → W.cell? ⟨g6, a * 2, none⟩ = some (.int .i64 kx) ∧ W.cell? ⟨g6, a * 2 + 1, none⟩ = some (.int .i64 vx) := fun W hW => ⟨(World.cell?_of_block (w := w9) (a := ⟨g6, a * 2, none⟩) (hW g6 hg6 hgb)).trans (hc6 _ _ hget.1), (World.cell?_of_block (w := w9) (a := ⟨g6, a * 2 + 1, none⟩) (hW g6 hg6 hgb)).trans (hc6 _ _ hget.2)⟩
                        have hkr : 0 ≤ kx ∧ kx < 10 := HXK.out (kx, vx) (List.mem_of_getElem? hkx)
                        obtain ⟨w11, hrun, hI11, hg11⟩ := (hI.same (w' := wr.drew) ((below_drewN (Below.refl _ wr) 1).block _ hI.lt)).store Tryz.underlying69 (by unfold maxLen; omega) (a := kx) (by unfold I64; omega) (.int .i64 vx)
                        have hblk : ∀ g, g < wr.heap.size → g ≠ mb → w11.heap[g]? = wr.heap[g]? := fun g h1 h2 => hg11.block g h1 (fun e => by injection e with e; exact h2 e)
                        have hb11 : Below mb w9 w11 := (HA2.out.1.drew).grown hg11 (by show mb ≤ wr.heap.size; have := hI.lt; omega) (fun k e => by injection e with e; omega)
                        have H11 := hid (And.intro (show IMap w11 mb (10 + (a + 1)) (fun y => (lastOf (recs.flatten ++ xl.take (a + 1)) y).map (Value.int .i64)) from hI11.congr (fun y => by
                          rw [List.take_add_one, hkx, Option.toList_some, ← List.append_assoc, lastOf_snoc]
                          by_cases ey : y = kx
                          · subst ey; simp [updT]
                          · simp [updT, ey])) (And.intro hb11 (fun g h1 h2 => (hblk g (Nat.lt_of_lt_of_le h1 HA2.out.1.size) h2).trans (HA2.out.2 g h1 h2))))
                        obtain ⟨s1, s2⟩ := hsk wr HA2.out.2
                        have dK : w11.cell? ⟨g6, a * 2, none⟩ = some (.int .i64 kx) ∧ w11.cell? ⟨g6, a * 2 + 1, none⟩ = some (.int .i64 vx) := hsk w11 H11.out.2.2
                        have ga0 : (0 : Int) ≤ (a : Int) := by omega
                        have ga1 : (a : Int) < (xl.length : Int) := by omega
                        clear hI hI11 hg11 hblk hb11 hsk hget hc6 hkx
                        go_wp2
                        go_region_held3 (fun W => W.cell? ⟨g6, a * 2, none⟩ = some (.int .i64 kx) ∧ W.cell? ⟨g6, a * 2 + 1, none⟩ = some (.int .i64 vx))
                          (first | go_keep | exact dK)
                          (fail)
                        go_wp2
                        go_roundw
                        case rel => exact ⟨a + 1, by go_num, by omega, H11.out.1, H11.out.2⟩
                        case measure => simp [intOf]; omega
                    · obtain rfl : a = xl.length := by omega
                      have ga1 : ¬ (xl.length : Int) < (xl.length : Int) := by omega
                      rw [List.take_length, ← HFL.out] at hI
                      have HS12 := hid (H9.out.stored (hI.upTo 10 (fun y hy => lastOf_keys H9.out.keys y (fun e => hy (by rw [e]; rfl)))) HA2.out.1 HA2.out.2)
                      clear hI
                      go_wp2
                      go_meet
                      exact ⟨x, L9, E9, dv9, D9, torn, false, recs9, rfl, ⟨by omega, by omega⟩, HS12⟩
                · have H9 := hid h9
                  clear h9 HCM HROW HB8
                  go_wp2
                  go_meet
                  exact ⟨x, L9, E9, dv9, D9, torn, down9, recs, rfl, ⟨by omega, by omega⟩, H9⟩
              · have q3 : (a0 == 3) = false := by simpa using e3
                by_cases e4 : a0 = 4
                · as_aux_lemma =>
                  subst e4
                  have HAB := hid (cr_abort HC7.out (m := m) HMN.out)
                  go_wp2_with fail
                  refine HAB.out.mono ?_
                  rintro e w8 ⟨v1, rfl, L8, E8, h8⟩
                  have H8 := hid h8
                  clear h8 HAB
                  go_wp2
                  go_meet
                  exact ⟨x, L8, E8, dv, D, torn, false, recs, rfl, ⟨by omega, by omega⟩, H8⟩
                · have q4 : (a0 == 4) = false := by simpa using e4
                  by_cases e5 : a0 = 5
                  · as_aux_lemma =>
                    subst e5
                    clear c0 c1 c3 HP1 HP3 HX7
                    by_cases z1 : 0 < n1
                    · have gz1 : (0 : Int) < (n1 : Int) := by omega
                      obtain ⟨hb, hoff, hv, hadd, hcx⟩ := HC1.out (i % n1) (Nat.mod_lt _ z1)
                      subst hadd
                      have hhb : hb < w.heap.size := World.block_lt_of_cell? w _ hcx
                      have hcx6 := (HC7.out.cr.fr.cell (p := ⟨hb, hoff + i % n1, none⟩) hhb).trans hcx
                      have hrem : (i : Int).tmod (n1 : Int) = ((i % n1 : Nat) : Int) := rfl
                      have hrlt := Nat.mod_lt i z1
                      obtain ⟨r, hr⟩ : ∃ r, i % n1 = r := ⟨_, rfl⟩
                      rw [hr] at hcx6 hrem hrlt
                      have gr0 : (0 : Int) ≤ (r : Int) := by omega
                      have gr1 : (r : Int) < (n1 : Int) := by omega
                      have gw : IntKind.i64.wrap (r : Int) = (r : Int) := IntWalk.i64_in _ (by omega)
                      have hpc := pickP_in hv 3 (by decide) (by decide)
                      have HPC := hid (pick_eq hv 3 w7 (by decide) (by decide))
                      obtain ⟨pc, hpe⟩ : ∃ pc, pickP hv 3 = pc := ⟨_, rfl⟩
                      rw [hpe] at hpc HPC
                      have HCT := hid (cr_cut HC7.out (n := pc) (by omega))
                      clear hpe hr hcx
                      go_wp2_with fail
                      refine HPC.out.mono ?_
                      rintro e w8 ⟨rfl, hw8⟩
                      rw [hw8]
                      clear hw8 w8
                      go_wp2_with fail
                      refine HCT.out.mono ?_
                      rintro e w8 ⟨rfl, D8, h8⟩
                      have H8 := hid h8
                      clear h8 HCT HPC hcx6 hrem gr0 gr1 gw
                      by_cases z2 : 0 < n2
                      · have gz2 : (0 : Int) < (n2 : Int) := by omega
                        obtain ⟨hb2, hoff2, hv2, hadd2, hcx2⟩ := HC2.out (i % n2) (Nat.mod_lt _ z2)
                        subst hadd2
                        have hhb2 : hb2 < w.heap.size := World.block_lt_of_cell? w _ hcx2
                        have hcx7 := (H8.out.cr.fr.cell (p := ⟨hb2, hoff2 + i % n2, none⟩) hhb2).trans hcx2
                        have hrem2 : (i : Int).tmod (n2 : Int) = ((i % n2 : Nat) : Int) := rfl
                        have hrlt2 := Nat.mod_lt i z2
                        obtain ⟨r2, hr2⟩ : ∃ r2, i % n2 = r2 := ⟨_, rfl⟩
                        rw [hr2] at hcx7 hrem2 hrlt2
                        have gr2 : (0 : Int) ≤ (r2 : Int) := by omega
                        have gr3 : (r2 : Int) < (n2 : Int) := by omega
                        have gw2 : IntKind.i64.wrap (r2 : Int) = (r2 : Int) := IntWalk.i64_in _ (by omega)
                        have hpt := pickP_in hv2 100 (by decide) (by decide)
                        have HPT := hid (pick_eq hv2 100 w8 (by decide) (by decide))
                        obtain ⟨pt, hpe2⟩ : ∃ pt, pickP hv2 100 = pt := ⟨_, rfl⟩
                        rw [hpe2] at hpt HPT
                        have gp : IntKind.i64.wrap (pt - 1) = pt - 1 := IntWalk.i64_in _ (by omega)
                        have HTN := hid (cr_torn H8.out (n := pt - 1) (by omega))
                        clear hpe2 hr2 hcx2
                        go_wp2_with fail
                        refine HPT.out.mono ?_
                        rintro e w9 ⟨rfl, hw9⟩
                        rw [hw9]
                        clear hw9 w9
                        go_wp2_with fail
                        refine HTN.out.mono ?_
                        rintro e w9 ⟨rfl, t9, h9⟩
                        have H9 := hid h9
                        clear h9 HTN HPT hcx7 hrem2 gr2 gr3 gw2
                        go_wp2
                        go_meet
                        exact ⟨x, L, E, dv, D8, t9, false, recs, rfl, ⟨by omega, by omega⟩, H9.out.next⟩
                      · have gz2 : ¬ (0 : Int) < (n2 : Int) := by omega
                        go_wp2
                        go_meet
                        exact ⟨x, L, E, dv, D8, torn, false, recs, rfl, ⟨by omega, by omega⟩, H8.out.next⟩
                    · have gz1 : ¬ (0 : Int) < (n1 : Int) := by omega
                      by_cases z2 : 0 < n2
                      · have gz2 : (0 : Int) < (n2 : Int) := by omega
                        obtain ⟨hb2, hoff2, hv2, hadd2, hcx2⟩ := HC2.out (i % n2) (Nat.mod_lt _ z2)
                        subst hadd2
                        have hhb2 : hb2 < w.heap.size := World.block_lt_of_cell? w _ hcx2
                        have hcx7 := (HC7.out.cr.fr.cell (p := ⟨hb2, hoff2 + i % n2, none⟩) hhb2).trans hcx2
                        have hrem2 : (i : Int).tmod (n2 : Int) = ((i % n2 : Nat) : Int) := rfl
                        have hrlt2 := Nat.mod_lt i z2
                        obtain ⟨r2, hr2⟩ : ∃ r2, i % n2 = r2 := ⟨_, rfl⟩
                        rw [hr2] at hcx7 hrem2 hrlt2
                        have gr2 : (0 : Int) ≤ (r2 : Int) := by omega
                        have gr3 : (r2 : Int) < (n2 : Int) := by omega
                        have gw2 : IntKind.i64.wrap (r2 : Int) = (r2 : Int) := IntWalk.i64_in _ (by omega)
                        have hpt := pickP_in hv2 100 (by decide) (by decide)
                        have HPT := hid (pick_eq hv2 100 w7 (by decide) (by decide))
                        obtain ⟨pt, hpe2⟩ : ∃ pt, pickP hv2 100 = pt := ⟨_, rfl⟩
                        rw [hpe2] at hpt HPT
                        have gp : IntKind.i64.wrap (pt - 1) = pt - 1 := IntWalk.i64_in _ (by omega)
                        have HTN := hid (cr_torn HC7.out (n := pt - 1) (by omega))
                        clear hpe2 hr2 hcx2
                        go_wp2_with fail
                        refine HPT.out.mono ?_
                        rintro e w9 ⟨rfl, hw9⟩
                        rw [hw9]
                        clear hw9 w9
                        go_wp2_with fail
                        refine HTN.out.mono ?_
                        rintro e w9 ⟨rfl, t9, h9⟩
                        have H9 := hid h9
                        clear h9 HTN HPT hcx7 hrem2 gr2 gr3 gw2
                        go_wp2
                        go_meet
                        exact ⟨x, L, E, dv, D, t9, false, recs, rfl, ⟨by omega, by omega⟩, H9.out.next⟩
                      · have gz2 : ¬ (0 : Int) < (n2 : Int) := by omega
                        go_wp2
                        go_meet
                        exact ⟨x, L, E, dv, D, torn, false, recs, rfl, ⟨by omega, by omega⟩, HC7.out.next⟩
                  · have q5 : (a0 == 5) = false := by simpa using e5
                    go_wp2
                    go_meet
                    exact ⟨x, L, E, dv, D, torn, false, recs, rfl, ⟨by omega, by omega⟩, HC7.out.next⟩
      case rest =>
        as_aux_lemma =>
        obtain ⟨x', L', E', dv', D', torn', down', recs', rfl, hx', H8⟩ := hcut
        clear c0 HC7 HX7 HMN hx
        have HO := hid (open_any' H8.out.cr.bas.dsk H8.out.dsk.1)
        go_wp2_with fail
        refine HO.out.mono ?_
        rintro e w9 ⟨b9, L9, rfl, hO9⟩
        have hB9 := hO9.2.2.1
        have H9 := hid (H8.out.below hB9)
        have HR9 := hid (H8.out.reopen hO9)
        have HEN := hid (bengine_any HR9.out.cr.bas)
        have HAL := hid (allE_any HR9.out.cr.bas.en HR9.out.fits)
        clear hO9 hB9 HO H8
        go_wp2_with fail
        refine HEN.out.mono ?_
        rintro e w10 ⟨rfl, hw10⟩
        rw [hw10]
        clear hw10 w10
        go_wp2_with fail
        refine HEN.out.mono ?_
        rintro e w10 ⟨rfl, hw10⟩
        rw [hw10]
        clear hw10 w10 HEN
        go_wp2_with fail
        refine HAL.out.mono ?_
        rintro e w10 ⟨av, rfl, harow, hB10⟩
        have H10 := hid (H9.out.below hB10)
        have hlen10 := fun ty => H10.out.mp.map.lenEq (fun a ha => lastOf_keys H10.out.keys a (fun e => ha (by rw [e]; rfl))) Tryz.underlying69 ty
        rw [keysOf_mapI, ← count_engO (t := (recs'.length : Int)) H10.out.keys] at hlen10
        obtain ⟨al, hal⟩ : ∃ al, allE (engO recs'.length recs'.flatten) = al := ⟨_, rfl⟩
        have gal : al.length ≤ 10 := by rw [← hal]; exact allK_length _ _
        rw [hal] at harow hlen10
        have HALL := hid hal
        have HAR := hid harow
        obtain ⟨aad, acap, hav⟩ := row_form harow
        subst hav
        clear harow hB10 hal HAL HR9 H9
        go_wp2
        go_loopw [22] (fun iv wr => ∃ i : Nat, iv = .int .i64 i ∧ i ≤ al.length ∧ wr = w10) (fun iv _ => al.length - (intOf iv).toNat)
        case atStart => exact ⟨0, rfl, Nat.zero_le _, rfl⟩
        case round =>
          clear hlen10
          obtain ⟨j, rfl, hj, rfl⟩ := hrel
          by_cases hltj : j < al.length
          · obtain ⟨⟨k, v⟩, hkx⟩ : ∃ o, al[j]? = some o := ⟨al[j], List.getElem?_eq_getElem hltj⟩
            obtain ⟨hnow, hkr⟩ := each_engO (t := (recs'.length : Int)) H10.out.keys (k := k) (x := v) (by rw [HALL.out]; exact List.mem_of_getElem? hkx)
            rcases row_slice HAR.out with ⟨_, e0⟩ | ⟨g, c, e, hg, hc⟩
            · omega
            · injection e with e1 e2 e3
              subst e1 e3
              have hget := vrow_get al j _ _ hkx
              have c0 := hc _ _ hget.1
              have c1 := hc _ _ hget.2
              have hlk := H10.out.mp.map.look Tryz.underlying69 (zeroI _) (a := k) (by unfold I64; omega)
              rw [hnow] at hlk
              simp only [Option.map_some, Option.getD_some, Option.isSome_some] at hlk
              have gj0 : (0 : Int) ≤ (j : Int) := by omega
              have gj1 : (j : Int) < (al.length : Int) := by omega
              clear hget hc hkx hnow
              go_wp2
              go_roundw
              case rel => exact ⟨j + 1, by go_num, by omega, by first | trivial | rfl⟩
              case measure => simp [intOf]; omega
          · have gj1 : ¬ (j : Int) < (al.length : Int) := by omega
            have HDN := hid (bdown_any H10.out.cr.bas)
            clear HAR HALL
            go_wp2_with fail
            refine HDN.out.mono ?_
            rintro e w11 ⟨rfl, hw11⟩
            rw [hw11]
            clear hw11 w11 HDN
            cases down' with
            | false =>
              go_wp2
              go_roundw
              case rel => exact ⟨b, i + 1, x', L', E', dv', D', torn', recs', rfl, rfl, ⟨by omega, by omega⟩, by go_num, by omega, H10⟩
              case measure => simp [intOf]; omega
            | true =>
              have HCT := hid (cr_cut H10.out (n := -1) (by decide))
              go_wp2_with fail
              refine HCT.out.mono ?_
              rintro e w11 ⟨rfl, D11, h11⟩
              have H11 := hid h11
              have HO := hid (open_any' h11.cr.bas.dsk h11.dsk.1)
              clear h11 HCT
              go_wp2_with fail
              refine HO.out.mono ?_
              rintro e w12 ⟨b12, L12, rfl, hO12⟩
              have H12 := hid (H11.out.reopen hO12)
              have HEN := hid (bengine_any H12.out.cr.bas)
              clear hO12 HO
              go_wp2_with fail
              refine HEN.out.mono ?_
              rintro e w13 ⟨rfl, hw13⟩
              rw [hw13]
              clear hw13 w13 HEN
              go_wp2
              go_roundw
              case rel => exact ⟨b12, i + 1, x', L12, _, dv', D11, 0, recs', rfl, rfl, ⟨by omega, by omega⟩, by go_num, by omega, H12⟩
              case measure => simp [intOf]; omega
    · have gi1 : ¬ (i : Int) < (n : Int) := by omega
      go_wp2
      go_ret
      exact ⟨rfl, HX.out.cr.fr⟩

end Go.Proofs.YtjefgmeejhakbaaGreatDoor
