/- keep's EngineMoves: the acts, and all are over in the end. -/
import Derived.Test.YtjefgmeejhakbaaGreatDoorMgAPQ
import Derived.Test.YtjefgmeejhakbaaGreatDoorKtMovesQ
import Derived.Test.YtjefgmeejhakbaaGreatDoorMgAQQ
import Derived.Deep.RegionHeld3
import Derived.Deep.QuietTactic
import Derived.BigQuiet
namespace Go.Proofs.YtjefgmeejhakbaaGreatDoor
open Go.RowKit
set_option maxRecDepth 100000 in
set_option maxHeartbeats 4000000 in
theorem moves_long (ad hd : Option Addr) (n cap m hcap : Nat) (w : World) (h : 90 < n ∨ 60 < m) :
    Calls Tryz.prog 7 #[.slice ad n cap, .slice hd m hcap] w fun e w' => e = .returned (.bool true) ∧ w' = w := by
  by_cases h1 : 90 < n
  · have g1 : (90 : Int) < (n : Int) := by omega
    go_enter Tryz.func7, Tryz.ntmps7
    go_wp2
    go_ret
    exact ⟨rfl, rfl⟩
  · have g1 : ¬ (90 : Int) < (n : Int) := by omega
    have g2 : (60 : Int) < (m : Int) := by omega
    go_enter Tryz.func7, Tryz.ntmps7
    go_wp2
    go_ret
    exact ⟨rfl, rfl⟩
set_option maxRecDepth 100000 in
set_option maxHeartbeats 4000000 in
theorem moves_walk (ad hd : Option Addr) (n cap m hcap : Nat) (w : World) (hn : n ≤ 90) (hm : m ≤ 60) (hA : ActsAt w ad n) (hI : IntsAt w hd m) (hg : Handle w) :
    Calls Tryz.prog 7 #[.slice ad n cap, .slice hd m hcap] w fun e w' => e = .returned (.bool true) ∧ Below w.heap.size w w' := by
  have HR := hid (ran_any w hg)
  have HA := hid hA
  have HI := hid hI
  have HG := hid hg
  have g1 : ¬ (90 : Int) < (n : Int) := by omega
  have g2 : ¬ (60 : Int) < (m : Int) := by omega
  clear hA hI hg
  go_enter Tryz.func7, Tryz.ntmps7
  go_wp2_with fail
  refine HR.out.mono ?_
  rintro e w1 ⟨rfl, hB1⟩
  have HT := hid (tells_any w1)
  have HB1 := hid hB1
  clear hB1 HR
  go_wp2_with fail
  refine HT.out.mono ?_
  rintro e w2 ⟨L, TL, rfl, hT⟩
  have hBb : Below w2.heap.size w2 (w2.alloc (.cells #[.pointer (some ⟨TL.b, 0, none⟩)] 58)) := (Below.refl _ w2).alloc (Nat.le_refl _) _
  have hT3 := (hT.below hBb).reground
  have hbox : (w2.alloc (.cells #[.pointer (some ⟨TL.b, 0, none⟩)] 58)).cell? ⟨w2.heap.size, 0, none⟩ = some (.pointer (some ⟨TL.b, 0, none⟩)) := (cell_of_row _ w2.heap.size 0 _ _ (0, 0) (heap_alloc_new w2 _)).trans rfl
  obtain ⟨w3, hw3⟩ : ∃ w3, w2.alloc (.cells #[.pointer (some ⟨TL.b, 0, none⟩)] 58) = w3 := ⟨_, rfl⟩
  have hs3 : w3.heap.size = w2.heap.size + 1 := by rw [← hw3]; simp
  rw [hw3] at hT3 hbox
  have hPb : (ground w3 L TL).P w2.heap.size := ⟨by omega, fun h => by have := hT.en.own_lt h; omega, fun h => by have := hT.tal.own_lt h; omega⟩
  have hB13 : Below w1.heap.size w1 w3 := ⟨by rw [← hw3]; exact hT.kept.os, by rw [← hw3]; exact hT.kept.tape, by rw [← hw3]; exact hT.kept.output, by have := hT.kept.size; have h1 : w1.heap.size ≤ w2.heap.size := this; omega, fun g hg => by rw [← hw3]; exact (Below.heap_alloc w2 _ g (Nat.lt_of_lt_of_le hg hT.kept.size)).trans (hT.kept.block g hg)⟩
  have hPo : ∀ g, g < w.heap.size → (ground w3 L TL).P g := fun g hg => by
    have h1 : g < w1.heap.size := Nat.lt_of_lt_of_le hg HB1.out.size
    exact ⟨Nat.lt_of_lt_of_le h1 hB13.size, fun h => hT.newE g h h1, fun h => hT.newT g h h1⟩
  have hBw3 : Below w.heap.size w w3 := HB1.out.trans (hB13.mono HB1.out.size)
  have hG3 : Handle (ground w3 L TL).w ∧ (ground w3 L TL).P 0 := ⟨HG.out.below hBw3 HG.out.pos, hPo 0 HG.out.pos⟩
  obtain ⟨G, hG⟩ : ∃ G, ground w3 L TL = G := ⟨_, rfl⟩
  have hGw : G.w = w3 := by rw [← hG]; rfl
  rw [hG] at hT3 hPb hPo hG3
  have HT3 := hid hT3
  have HPB := hid hPb
  have HPO := hid hPo
  have HG3 := hid hG3
  have HBW := hid hBw3
  have HGW := hid hGw
  obtain ⟨vb, hvb⟩ : ∃ vb, w2.heap.size = vb := ⟨_, rfl⟩
  obtain ⟨tb, htb⟩ : ∃ tb, TL.b = tb := ⟨_, rfl⟩
  have HTB := hid htb
  rw [hvb] at HPB hbox
  rw [htb] at hbox hw3
  have HBX := hid hbox
  have HW3 := hid hw3
  clear hw3
  go_wp2_with fail
  rw [HW3.out]
  clear HW3 hT hBb hT3 hbox hs3 hPb hB13 hPo hBw3 hG3 hG hGw hvb HT HB1 HG htb
  go_loopw [7] (fun iv wr => ∃ (i : Nat) (L' : EnL) (E' : Eng) (TL' : TalL) (t' : Tal), iv = .int .i64 i ∧ i ≤ n ∧ Hid (TaleAt G wr L' E' TL' t' ∧ POk E' t' i ∧ TL'.b = tb)) (fun iv _ => n - (intOf iv).toNat)
  case atStart => exact ⟨0, L, eng0, TL, tal0, rfl, Nat.zero_le _, HT3.out, pok0, HTB.out⟩
  case round =>
    clear HT3 HTB
    obtain ⟨i, L', E', TL', t', rfl, hi, HX⟩ := hrel
    by_cases hlt : i < n
    · obtain ⟨b, off, a0, a1, a2, a3, rfl, x0, x1, x2, x3⟩ := HA.out i hlt
      have hbw : b < w.heap.size := World.block_lt_of_cell? w _ x0
      have hold : ∀ W L' E' TL' t', TaleAt G W L' E' TL' t' → ∀ (o : Nat) (v : Value), w.cell? ⟨b, o, none⟩ = some v → W.cell? ⟨b, o, none⟩ = some v := fun W L' E' TL' t' hT o v hv => hT.cell (HPO.out b hbw) (by rw [HGW.out]; exact (HBW.out.cell (p := ⟨b, o, none⟩) hbw).trans hv)
      have hbxW : ∀ W L' E' TL' t', TaleAt G W L' E' TL' t' → W.cell? ⟨vb, 0, none⟩ = some (.pointer (some ⟨tb, 0, none⟩)) := fun W L' E' TL' t' hT => hT.cell HPB.out (by rw [HGW.out]; exact HBX.out)
      have hSW : ∀ W L' E' TL' t', TaleAt G W L' E' TL' t' → W.cell? ⟨vb, 0, none⟩ = some (.pointer (some ⟨tb, 0, none⟩)) ∧ W.cell? ⟨b, off + i * 4, none⟩ = some (.int .i64 a0) ∧ W.cell? ⟨b, off + i * 4 + 1, none⟩ = some (.int .i64 a1) ∧ W.cell? ⟨b, off + i * 4 + 2, none⟩ = some (.int .i64 a2) ∧ W.cell? ⟨b, off + i * 4 + 3, none⟩ = some (.int .i64 a3) := fun W L' E' TL' t' hT => ⟨hbxW W L' E' TL' t' hT, hold W _ _ _ _ hT _ _ x0, hold W _ _ _ _ hT _ _ x1, hold W _ _ _ _ hT _ _ x2, hold W _ _ _ _ hT _ _ x3⟩
      have HSW := hid hSW
      have HBXW := hid hbxW
      obtain ⟨s0, s1, s2, s3, s4⟩ := hSW _ _ _ _ _ HX.out.1
      have HD := hid (fun W (hB : Below wr.heap.size wr W) => does_any (HX.out.1.below hB) HX.out.2.1 HG3.out (by omega) a0 a1 a2 a3)
      rw [HX.out.2.2] at HD
      have gi1 : (i : Int) < (n : Int) := by omega
      have gi0 : (0 : Int) ≤ (i : Int) := by omega
      clear hold hbxW hSW x0 x1 x2 x3 hbw
      go_wp2
      go_region_held3 (fun W => W.cell? ⟨vb, 0, none⟩ = some (.pointer (some ⟨tb, 0, none⟩)) ∧ W.cell? ⟨b, off + i * 4, none⟩ = some (.int .i64 a0) ∧ W.cell? ⟨b, off + i * 4 + 1, none⟩ = some (.int .i64 a1) ∧ W.cell? ⟨b, off + i * 4 + 2, none⟩ = some (.int .i64 a2) ∧ W.cell? ⟨b, off + i * 4 + 3, none⟩ = some (.int .i64 a3))
        (first | go_keep | exact sK4)
        (first
          | (go_at_call 24
             refine (HD.out _ ((Below.refl _ wr).drew)).mono ?_
             rintro e w4 ⟨rfl, L4, E4, TL4, t4, hT4, hD4, hb4⟩
             have sK4 := HSW.out w4 _ _ _ _ hT4
             have HX4 := hid (And.intro hT4 (And.intro (hD4.pok HX.out.2.1 (by omega)) hb4))
             have HMV := hid (moves_any (vb := vb) hT4 HX4.out.2.1.mid (by rw [HX4.out.2.2]; exact sK4.1))
             clear hT4 hD4 hb4)
          | fail)
      go_wp2_with fail
      refine HMV.out.mono ?_
      rintro e w5 ⟨rfl, q5, hw5⟩
      have HX5 := hid (show TaleAt G w5 L4 E4 TL4 t4 by rw [hw5]; exact HX4.out.1.drewN q5)
      clear hw5 HMV s0 s1 s2 s3 s4 sK4
      go_wp2
      go_roundw
      case rel => exact ⟨i + 1, L4, E4, TL4, t4, by go_num, by omega, HX5.out, HX4.out.2.1, HX4.out.2.2⟩
      case measure => simp [intOf]; omega
    · have gi1 : ¬ (i : Int) < (n : Int) := by omega
      go_wp2
      go_loopw [11] (fun iv wr => ∃ (i : Nat) (L' : EnL) (E' : Eng) (TL' : TalL) (t' : Tal), iv = .int .i64 i ∧ i + E'.ce.live ≤ 6 ∧ Hid (TaleAt G wr L' E' TL' t' ∧ Mid0 E' ∧ (∀ u ∈ E'.txs, u.reads.length ≤ 1000) ∧ TL'.b = tb)) (fun iv _ => 7 - (intOf iv).toNat)
      case atStart => exact ⟨0, L', E', TL', t', rfl, by have h6 : E'.ce.live ≤ 6 := HX.out.2.1.mid.reg.num; omega, HX.out.1, HX.out.2.1.mid, fun u hu => by have := HX.out.2.1.rd u hu; omega, HX.out.2.2⟩
      case round =>
        clear HX
        obtain ⟨i, L', E', TL', t', rfl, hil, HX⟩ := hrel
        have hbx : ∀ W L' E' TL' t', TaleAt G W L' E' TL' t' → W.cell? ⟨vb, 0, none⟩ = some (.pointer (some ⟨tb, 0, none⟩)) := fun W L' E' TL' t' hT => hT.cell HPB.out (by rw [HGW.out]; exact HBX.out)
        have HBXW := hid hbx
        have HMV := hid (moves_any (vb := vb) HX.out.1 HX.out.2.1 (by rw [HX.out.2.2.2]; exact hbx _ _ _ _ _ HX.out.1))
        have hsum := cntS_live E'
        obtain ⟨n0, hn0⟩ : ∃ n0, cntS E' 0 E'.txs.length = n0 := ⟨_, rfl⟩
        obtain ⟨n1, hn1⟩ : ∃ n1, cntS E' 1 E'.txs.length = n1 := ⟨_, rfl⟩
        rw [hn0, hn1] at HMV hsum
        have HN0 := hid hn0
        have HN1 := hid hn1
        have gs : IntKind.i64.wrap ((n0 : Int) + (n1 : Int)) = (n0 : Int) + (n1 : Int) := IntWalk.i64_in _ (by omega)
        have gi20 : decide ((i : Int) > 20) = false := by simp; omega
        have hil6 : i ≤ 6 := by omega
        have HSUM := hid (And.intro hil hsum)
        clear hbx hn0 hn1 hil hsum
        go_wp2_with fail
        refine HMV.out.mono ?_
        rintro e w5 ⟨rfl, q5, hw5⟩
        have HX5 := hid (show TaleAt G w5 L' E' TL' t' by rw [hw5]; exact HX.out.1.drewN q5)
        clear hw5 HMV
        by_cases hz : n0 + n1 = 0
        · have gz : (((n0 : Int) + (n1 : Int)) == 0) = true := by simp; omega
          have y0 := HBXW.out _ _ _ _ _ HX5.out
          have y1 := HX5.out.tal.cell 0
          simp only [talCells, List.getElem?_toArray, List.getElem?_cons_zero] at y1
          rw [HX.out.2.2.2] at y1
          have HH := hid (hist_any HX5.out.en HX.out.2.2.1 HX.out.2.1.com_len)
          have hmm := @run_makeMap Tryz.prog
          go_wp2_with fail
          refine HH.out.mono ?_
          rintro e w6 ⟨hv, rfl, hrow, hB6⟩
          have HX6 := hid (HX5.out.below hB6)
          have HRW := hid hrow
          obtain ⟨had, hcap', hvv⟩ := row_form hrow
          have HI0 := hid (IMap.made w6)
          have HB0 := hid ((Below.refl w6.heap.size w6).alloc (Nat.le_refl _) (.map #[] 0))
          have HLEN := hid (histTo_len HX.out.2.2.1 E'.com.length)
          have HCL := hid HX.out.2.1.com_len
          obtain ⟨hl, hhl⟩ : ∃ hl, histP E' = hl := ⟨_, rfl⟩
          have hln : hl.length ≤ 202000 := by rw [← hhl]; have h1 := HLEN.out; have h2 := HCL.out; have e : E'.ce.com = E'.com := rfl; rw [e] at h2; unfold histP; omega
          rw [hhl] at HRW hvv
          have HHL := hid hhl
          subst hvv
          clear hrow hB6 HH hhl HX5 y0 y1
          go_wp2
          go_loopw [21] (fun iv wr => ∃ i : Nat, iv = .int .i64 i ∧ i ≤ hl.length ∧ IMap wr w6.heap.size i (fun y => (lastH (hl.take i) y).map (Value.int .i64)) ∧ Hid (Below w6.heap.size w6 wr)) (fun iv _ => hl.length - (intOf iv).toNat)
          case atStart => exact ⟨0, rfl, Nat.zero_le _, HI0.out.congr (fun a => rfl), HB0⟩
          case round =>
            obtain ⟨i, rfl, hi, hI, HBQ⟩ := hrel
            by_cases hlt : i < hl.length
            · obtain ⟨⟨ot, ok, ow, of⟩, ho⟩ : ∃ o, hl[i]? = some o := ⟨hl[i], List.getElem?_eq_getElem hlt⟩
              rcases row_slice HRW.out with ⟨_, e0⟩ | ⟨g, c, e, hg, hc⟩
              · omega
              · injection e with e1 e2 e3
                subst e1 e3
                have hget := opsV_get hl i _ ho
                have cw := (HBQ.out.cell (p := ⟨g, i * 4 + 2, none⟩) hg).trans (hc _ _ hget.2.2.1)
                have ck := (HBQ.out.cell (p := ⟨g, i * 4 + 1, none⟩) hg).trans (hc _ _ hget.2.1)
                have ct := (HBQ.out.cell (p := ⟨g, i * 4, none⟩) hg).trans (hc _ _ hget.1)
                have hstep := lastH_take ho
                have gi0 : (0 : Int) ≤ (i : Int) := by omega
                have gi1 : (i : Int) < (hl.length : Int) := by omega
                by_cases hwt : ow = true
                · subst hwt
                  have hik : I64 ok := by
                    have := hist_keys (E := E') (o := (ot, ok, true, of)) (by rw [HHL.out]; exact List.mem_of_getElem? ho) rfl
                    unfold I64
                    simp only at this
                    omega
                  obtain ⟨w4, hrun4, hI4, hg4⟩ := (hI.same (w' := wr.drew) ((below_drewN (Below.refl _ wr) 1).block _ hI.lt)).store Tryz.underlying69 (by unfold maxLen; omega) hik (.int .i64 ot)
                  have H4 := hid (And.intro (show IMap w4 w6.heap.size (i + 1) (fun y => (lastH (hl.take (i + 1)) y).map (Value.int .i64)) from hI4.congr (fun y => by
                    rw [hstep]
                    simp only [if_true]
                    by_cases ey : y = ok
                    · subst ey; simp [updT]
                    · simp [updT, ey])) ((HBQ.out.drew).grown hg4 HBQ.out.size (fun k e => by injection e with e; omega)))
                  have d1 : w4.cell? ⟨g, i * 4 + 1, none⟩ = some (.int .i64 ok) := (H4.out.2.cell (p := ⟨g, i * 4 + 1, none⟩) hg).trans (hc _ _ hget.2.1)
                  have d0 : w4.cell? ⟨g, i * 4, none⟩ = some (.int .i64 ot) := (H4.out.2.cell (p := ⟨g, i * 4, none⟩) hg).trans (hc _ _ hget.1)
                  clear hI hI4 hg4 hstep hget hc ho hik
                  go_wp2
                  go_region_held3 (fun W => W.cell? ⟨g, i * 4 + 1, none⟩ = some (.int .i64 ok) ∧ W.cell? ⟨g, i * 4, none⟩ = some (.int .i64 ot))
                    (first | go_keep | exact ⟨d1, d0⟩)
                    (fail)
                  go_wp2
                  go_roundw
                  case rel => exact ⟨i + 1, by go_num, by omega, H4.out.1, H4.out.2⟩
                  case measure => simp [intOf]; omega
                · have hwf : ow = false := by simpa using hwt
                  subst hwf
                  have H4 := hid (show IMap wr w6.heap.size (i + 1) (fun y => (lastH (hl.take (i + 1)) y).map (Value.int .i64)) from (hI.mono (Nat.le_succ _)).congr (fun y => by rw [hstep]; simp))
                  clear hI hstep hget hc ho hwt
                  go_wp2
                  go_roundw
                  case rel => exact ⟨i + 1, by go_num, by omega, H4.out, HBQ⟩
                  case measure => simp [intOf]; omega
            · obtain rfl : i = hl.length := by omega
              have gi1 : ¬ (hl.length : Int) < (hl.length : Int) := by omega
              rw [List.take_length] at hI
              have HX7 := hid (HX6.out.below HBQ.out)
              have z0 := HBXW.out _ _ _ _ _ HX7.out
              have z1 := HX7.out.tal.cell 0
              simp only [talCells, List.getElem?_toArray, List.getElem?_cons_zero] at z1
              rw [HX.out.2.2.2] at z1
              have HAL := hid (allE_any HX7.out.en HX.out.2.1.fits)
              have HIM := hid hI
              clear hI
              go_wp2_with fail
              refine HAL.out.mono ?_
              rintro e w8 ⟨av, rfl, harow, hB8⟩
              have hI8 : IMap w8 w6.heap.size hl.length (fun y => (lastH hl y).map (Value.int .i64)) := HIM.out.same (hB8.block _ HIM.out.lt)
              have hlen8 := fun ty => hI8.lenEq (fun a ha => lastH_keys_in HX.out.2.1 a (by rw [HHL.out]; intro e; exact ha (by rw [e]; rfl))) Tryz.underlying69 ty
              have hcount := all_count HX.out.2.1
              rw [HHL.out] at hcount
              rw [keysOf_mapI, ← hcount] at hlen8
              obtain ⟨al, hal⟩ : ∃ al, allE E' = al := ⟨_, rfl⟩
              rw [hal] at harow hlen8
              have HALL := hid hal
              have HAR := hid harow
              have HI8 := hid hI8
              have HX8 := hid (HX7.out.below hB8)
              obtain ⟨aad, acap, hav⟩ := row_form harow
              subst hav
              have gal : al.length ≤ 10 := by rw [← hal, all_count HX.out.2.1]; exact keysOf_len _
              clear harow hB8 hI8 hcount hal HAL z0 z1 HX7 HIM
              go_wp2
              go_loopw [23] (fun iv wr => ∃ i : Nat, iv = .int .i64 i ∧ i ≤ al.length ∧ Hid (Below w8.heap.size w8 wr)) (fun iv _ => al.length - (intOf iv).toNat)
              case atStart => exact ⟨0, rfl, Nat.zero_le _, Below.refl _ _⟩
              case round =>
                clear hlen8
                obtain ⟨i, rfl, hi, HBR⟩ := hrel
                by_cases hlt : i < al.length
                · obtain ⟨⟨k, x⟩, hkx⟩ : ∃ o, al[i]? = some o := ⟨al[i], List.getElem?_eq_getElem hlt⟩
                  obtain ⟨j, u, hj1, hj2, hj3, hj4, hj5⟩ := all_each HX.out.2.1 (k := k) (x := x) (by rw [HALL.out]; exact List.mem_of_getElem? hkx)
                  rw [HHL.out] at hj1
                  have hof : ofP (writesP u.vals) k = x := by
                    unfold ofP
                    rw [of_writes (V := u.vals) (HX.out.2.1.reg.fair _ _ (cs_get hj2)).vk k, hj4]
                    rfl
                  rcases row_slice HAR.out with ⟨_, e0⟩ | ⟨g, c, e, hg, hc⟩
                  · omega
                  · injection e with e1 e2 e3
                    subst e1 e3
                    have hget := vrow_get al i _ _ hkx
                    have hS : ∀ W, Below wr.heap.size wr W → W.cell? ⟨vb, 0, none⟩ = some (.pointer (some ⟨tb, 0, none⟩)) ∧ W.cell? ⟨tb, 0, none⟩ = some (.pointer (some ⟨L'.s, 0, none⟩)) ∧ W.cell? ⟨g, i * 2, none⟩ = some (.int .i64 k) ∧ W.cell? ⟨g, i * 2 + 1, none⟩ = some (.int .i64 x) := fun W hW => by
                      have hB : Below w8.heap.size w8 W := HBR.out.trans (hW.mono HBR.out.size)
                      have hT := HX8.out.below hB
                      have z1 := hT.tal.cell 0
                      simp only [talCells, List.getElem?_toArray, List.getElem?_cons_zero] at z1
                      rw [HX.out.2.2.2] at z1
                      exact ⟨HBXW.out _ _ _ _ _ hT, z1, (hB.cell (p := ⟨g, i * 2, none⟩) hg).trans (hc _ _ hget.1), (hB.cell (p := ⟨g, i * 2 + 1, none⟩) hg).trans (hc _ _ hget.2)⟩
                    have hL : ∀ W, Below wr.heap.size wr W → (Instr.lookup 69 (.map (some w6.heap.size)) (.int .i64 k) false).run Tryz.prog W = .ok (.int .i64 ((j : Int) + 1)) W := fun W hW => by
                      have hB : Below w8.heap.size w8 W := HBR.out.trans (hW.mono HBR.out.size)
                      have h1 := (HI8.out.same (hB.block _ HI8.out.lt)).look1 Tryz.underlying69 (zeroI _) (a := k) (by unfold I64; omega)
                      rw [h1, hj1]
                      rfl
                    have HS := hid hS
                    have HLK := hid hL
                    have HWR := hid (fun W (hW : Below wr.heap.size wr W) => writesE_ok ((HX8.out.below (HBR.out.trans (hW.mono HBR.out.size))).en) hj2)
                    have HU := hid (And.intro hj2 (And.intro hj3 hof))
                    obtain ⟨s0, s1, s2, s3⟩ := hS wr (Below.refl _ _)
                    have l1 := hL wr.drew ((Below.refl _ wr).drew)
                    have hjN : (j : Int) < 1000000 := by have := (List.getElem?_eq_some_iff.1 hj2).1; have := HX8.out.en.le; omega
                    have gj : IntKind.i64.wrap ((j : Int) + 1 - 1) = (j : Int) := by rw [show (j : Int) + 1 - 1 = (j : Int) by omega]; exact IntWalk.i64_in _ (by omega)
                    have gi0 : (0 : Int) ≤ (i : Int) := by omega
                    have gi1 : (i : Int) < (al.length : Int) := by omega
                    clear hS hL hget hc hkx hj1 hj2 hj3 hj4 hj5 hof
                    go_wp2
                    go_region_held3 (fun W => W.cell? ⟨vb, 0, none⟩ = some (.pointer (some ⟨tb, 0, none⟩)) ∧ W.cell? ⟨tb, 0, none⟩ = some (.pointer (some ⟨L'.s, 0, none⟩)) ∧ W.cell? ⟨g, i * 2, none⟩ = some (.int .i64 k))
                      (first | go_keep | exact sK9)
                      (first
                        | (go_at_call 28
                           refine (HWR.out _ ((Below.refl _ wr).drew)).mono ?_
                           rintro e w9 ⟨wv, rfl, hwrow, hB9⟩
                           have HB9 := hid (((Below.refl _ wr).drew).trans (hB9.mono (Nat.le_refl _)))
                           have hS9 := HS.out w9 HB9.out
                           have sK9 := And.intro hS9.1 (And.intro hS9.2.1 hS9.2.2.1)
                           have HOW := hid hwrow
                           clear hwrow hB9)
                        | fail)
                    obtain ⟨s0, s1, s2, s3⟩ := HS.out w9 HB9.out
                    have HX9 := hid (HX8.out.below (HBR.out.trans (HB9.out.mono HBR.out.size)))
                    have hl9 : ∀ q, (Instr.lookup 69 (.map (some w6.heap.size)) (.int .i64 k) false).run Tryz.prog (w9.drewN q) = .ok (.int .i64 ((j : Int) + 1)) (w9.drewN q) := fun q => HLK.out _ (below_drewN HB9.out q)
                    have l0 := hl9 0
                    have l1' := hl9 1
                    have HOF := hid (fun q => of_any (owns_same HOW.out (w' := w9.drewN q) (fun g hg => by simp)) (by have := writesP_len u.vals; omega) k)
                    have HCM := hid (fun q => committed_any (HX9.out.drewN q) HU.out.1)
                    rw [HX.out.2.2.2] at HCM
                    have HB9' := hid (fun q => HBR.out.trans ((below_drewN HB9.out q).mono HBR.out.size))
                    rw [HU.out.2.2] at HOF
                    rw [HU.out.2.1] at HCM
                    go_wp2
                    go_quiet (first | (go_at_call 30; refine Calls.quiet_of_same (HOF.out _)) | (go_at_call 27; refine Calls.quiet_of (HCM.out _)))
                    go_wp2
                    go_roundw
                    case rel => exact ⟨i + 1, by go_num, by omega, HB9'.out _⟩
                    case measure => simp [intOf]; omega
                · obtain rfl : i = al.length := by omega
                  have gi1 : ¬ (al.length : Int) < (al.length : Int) := by omega
                  go_wp2
                  go_ret
                  refine ⟨rfl, ?_⟩
                  have hk := (HX8.out.below HBR.out).kept
                  have hb := HBW.out
                  have hs := hk.size
                  rw [← HGW.out] at hb
                  exact ⟨hk.os.trans hb.os, hk.tape.trans hb.tape, hk.output.trans hb.output, Nat.le_trans hb.size hs, fun g hg => (hk.block g (HPO.out g hg)).trans (hb.block g hg)⟩
        · have gz : (((n0 : Int) + (n1 : Int)) == 0) = false := by simp; omega
          have hopen : ∃ (j : Nat) (u : Tx), E'.txs[j]? = some u ∧ u.state = 0 := by
            by_cases h0 : 0 < n0
            · rw [← HN0.out] at h0
              exact cntS_pos h0
            · have h1 : 0 < cntS E' 1 E'.txs.length := by rw [HN1.out]; omega
              obtain ⟨j, u, hu, hs⟩ := cntS_pos h1
              exact HX.out.2.1.open_one j u hu hs
          have HOP := hid hopen
          obtain ⟨N, hN⟩ : ∃ N, E'.txs.length = N := ⟨_, rfl⟩
          have HN := hid hN
          have hle := HX.out.1.en.le
          rw [hN] at hle
          clear hopen hN
          go_wp2
          go_loopw [15] (fun kv wr2 => ∃ k : Nat, kv = .int .i64 ((k : Int) + 1) ∧ k ≤ N ∧ Hid (TaleAt G wr2 L' E' TL' t') ∧ Hid (∀ j, j < k → ∀ u, E'.txs[j]? = some u → u.state ≠ 0)) (fun kv _ => N + 1 - (intOf kv).toNat)
          case atStart => exact ⟨0, rfl, Nat.zero_le _, HX5.out, fun j hj => absurd hj (by omega)⟩
          case round =>
            obtain ⟨k, rfl, hk, HZ, HNO⟩ := hrel
            have z0 := HBXW.out _ _ _ _ _ HZ.out
            have z1 := HZ.out.tal.cell 0
            simp only [talCells, List.getElem?_toArray, List.getElem?_cons_zero] at z1
            rw [HX.out.2.2.2] at z1
            have HTX := hid (txsE_any HZ.out.en)
            rw [HN.out] at HTX
            go_wp2_with fail
            refine HTX.out.mono ?_
            rintro e w6 ⟨rfl, hw6⟩
            rw [hw6]
            clear hw6 w6 HTX
            by_cases hkN : k < N
            · obtain ⟨u, hu⟩ : ∃ u, E'.txs[k]? = some u := ⟨E'.txs[k]'(by have := HN.out; omega), List.getElem?_eq_getElem _⟩
              have HST := hid (state_ok HZ.out.en hu)
              obtain ⟨st, hst⟩ : ∃ st, u.state = st := ⟨_, rfl⟩
              rw [hst] at HST
              have HU := hid hu
              have HST2 := hid hst
              have gk : (k : Int) + 1 ≤ (N : Int) := by omega
              have gk2 : IntKind.i64.wrap ((k : Int) + 1 + 1) = (k : Int) + 1 + 1 := IntWalk.i64_in _ (by omega)
              clear hu hst
              go_wp2_with fail
              refine HST.out.mono ?_
              rintro e w6 ⟨rfl, q6, hw6⟩
              have HZ6 := hid (show TaleAt G w6 L' E' TL' t' by rw [hw6]; exact HZ.out.drewN q6)
              have y0 := HBXW.out _ _ _ _ _ HZ6.out
              have y1 := HZ6.out.tal.cell 0
              simp only [talCells, List.getElem?_toArray, List.getElem?_cons_zero] at y1
              rw [HX.out.2.2.2] at y1
              clear hw6 HST z0 z1 HZ
              by_cases hs0 : st = 0
              · subst hs0
                by_cases hm0 : m = 0
                · have gm : ¬ (0 : Int) < (m : Int) := by omega
                  clear hm0
                  obtain ⟨⟨c7, E7⟩, hR7⟩ := commit_ends HX.out.2.1 HU.out HST2.out
                  have HW7 := hid (went_commit HX.out.2.1 HX.out.2.2.1 HU.out HST2.out hR7)
                  have HC := hid (commit_main HZ6.out.en HX.out.2.1.fits HU.out HST2.out (HX.out.2.1.fine HU.out) (by have := HX.out.2.1.last_le; have e : E'.ce.last = E'.last := rfl; omega) (by have := HX.out.2.1.com.nwc; have := HX.out.2.1.cw_len; have e : E'.ce.nw = E'.nw := rfl; omega) (by have := HX.out.2.1.com_len; have e : E'.ce.com = E'.com := rfl; rw [e] at this; omega) (HX.out.2.1.inst_ks k) hR7)
                  clear hR7
                  go_wp2_with fail
                  refine HC.out.mono ?_
                  rintro e w7 ⟨rfl, hP⟩
                  obtain ⟨L7, hT7, _, _⟩ := HZ6.out.post hP
                  have HT7 := hid hT7
                  clear hP hT7 HC
                  go_wp2
                  go_roundw
                  case rel => exact ⟨i + 1, L7, E7, TL', t', by go_num, by have := HW7.out.2; have := HSUM.out; omega, HT7.out, HW7.out.1.mid, HW7.out.1.rd, HX.out.2.2.2⟩
                  case measure => simp [intOf]; omega
                · have gm : (0 : Int) < (m : Int) := by omega
                  have gm2 : ((m : Int) == 0) = false := by simp; omega
                  obtain ⟨hb, hoff, hx, rfl, hcx⟩ := HI.out (i % m) (Nat.mod_lt _ (by omega))
                  have hhb : hb < w.heap.size := World.block_lt_of_cell? w _ hcx
                  have hcx6 : w6.cell? ⟨hb, hoff + i % m, none⟩ = some (.int .i64 hx) := HZ6.out.cell (HPO.out hb hhb) (by rw [HGW.out]; exact (HBW.out.cell (p := ⟨hb, hoff + i % m, none⟩) hhb).trans hcx)
                  have hrem : (i : Int).tmod (m : Int) = ((i % m : Nat) : Int) := rfl
                  obtain ⟨r, hr⟩ : ∃ r, i % m = r := ⟨_, rfl⟩
                  have hrm : r < m := by rw [← hr]; exact Nat.mod_lt _ (by omega)
                  rw [hr] at hrem hcx6
                  have gr0 : (0 : Int) ≤ (r : Int) := by omega
                  have gr1 : (r : Int) < (m : Int) := by omega
                  have gr2 : IntKind.i64.wrap (r : Int) = (r : Int) := IntWalk.i64_in _ (by omega)
                  have hpk := pickP_in hx 2 (by decide) (by decide)
                  clear hcx hr
                  go_wp2_with fail
                  refine (pick_eq hx 2 w6 (by decide) (by decide)).mono ?_
                  rintro e w7 ⟨rfl, hw7⟩
                  rw [hw7]
                  clear hw7 w7
                  obtain ⟨pv, hpv⟩ : ∃ pv, pickP hx 2 = pv := ⟨_, rfl⟩
                  rw [hpv]
                  clear hpv hpk
                  by_cases hp0 : pv = 0
                  · have gp0 : (pv == 0) = true := by simpa using hp0
                    clear hp0
                    obtain ⟨E7, hR7⟩ := abort_ends HX.out.2.1 HU.out (live_iff.2 (.inl HST2.out))
                    have HW7 := hid (went_abort HX.out.2.1 HX.out.2.2.1 HU.out (live_iff.2 (.inl HST2.out)) hR7)
                    have HC := hid (abort_main HZ6.out.en HX.out.2.1.fits HU.out (live_iff.2 (.inl HST2.out)) hR7)
                    clear hR7
                    go_wp2_with fail
                    refine HC.out.mono ?_
                    rintro e w7 ⟨rfl, hP⟩
                    obtain ⟨L7, hT7, _, _⟩ := HZ6.out.post hP
                    have HT7 := hid hT7
                    clear hP hT7 HC
                    go_wp2
                    go_roundw
                    case rel => exact ⟨i + 1, L7, E7, TL', t', by go_num, by have := HW7.out.2; have := HSUM.out; omega, HT7.out, HW7.out.1.mid, HW7.out.1.rd, HX.out.2.2.2⟩
                    case measure => simp [intOf]; omega
                  · have gp0 : (pv == 0) = false := by simpa using hp0
                    clear hp0
                    obtain ⟨⟨c7, E7⟩, hR7⟩ := commit_ends HX.out.2.1 HU.out HST2.out
                    have HW7 := hid (went_commit HX.out.2.1 HX.out.2.2.1 HU.out HST2.out hR7)
                    have HC := hid (commit_main HZ6.out.en HX.out.2.1.fits HU.out HST2.out (HX.out.2.1.fine HU.out) (by have := HX.out.2.1.last_le; have e : E'.ce.last = E'.last := rfl; omega) (by have := HX.out.2.1.com.nwc; have := HX.out.2.1.cw_len; have e : E'.ce.nw = E'.nw := rfl; omega) (by have := HX.out.2.1.com_len; have e : E'.ce.com = E'.com := rfl; rw [e] at this; omega) (HX.out.2.1.inst_ks k) hR7)
                    clear hR7
                    go_wp2_with fail
                    refine HC.out.mono ?_
                    rintro e w7 ⟨rfl, hP⟩
                    obtain ⟨L7, hT7, _, _⟩ := HZ6.out.post hP
                    have HT7 := hid hT7
                    clear hP hT7 HC
                    go_wp2
                    go_roundw
                    case rel => exact ⟨i + 1, L7, E7, TL', t', by go_num, by have := HW7.out.2; have := HSUM.out; omega, HT7.out, HW7.out.1.mid, HW7.out.1.rd, HX.out.2.2.2⟩
                    case measure => simp [intOf]; omega
              · have gs0 : (st == 0) = false := by simpa using hs0
                go_wp2
                go_roundw
                case rel =>
                  refine ⟨k + 1, by go_num, by omega, HZ6, fun j hj u hu => ?_⟩
                  by_cases e : j = k
                  · subst e
                    have := HU.out
                    rw [hu] at this
                    injection this with this
                    rw [this, HST2.out]
                    exact hs0
                  · exact HNO.out j (by omega) u hu
                case measure => simp [intOf]; omega
            · exfalso
              obtain ⟨j, u, hu, hs⟩ := HOP.out
              exact HNO.out j (by have := (List.getElem?_eq_some_iff.1 hu).1; have := HN.out; omega) u hu hs
end Go.Proofs.YtjefgmeejhakbaaGreatDoor
