/- keep's EngineStrict: put one behind the other, as they stand in the line, each one reads just what it read, and in the end all is as it is. -/
import Derived.Test.YtjefgmeejhakbaaGreatDoorMgAZ
import Derived.Test.YtjefgmeejhakbaaGreatDoorMgAU
namespace Go.Proofs.YtjefgmeejhakbaaGreatDoor
open Go.RowKit

set_option maxRecDepth 100000 in
set_option maxHeartbeats 4000000 in
theorem strict_long (ad : Option Addr) (n cap : Nat) (w : World) (h : 90 < n) :
    Calls Tryz.prog 5 #[.slice ad n cap] w fun e w' => e = .returned (.bool true) ∧ w' = w := by
  have g1 : (90 : Int) < (n : Int) := by omega
  go_enter Tryz.func5, Tryz.ntmps5
  go_wp2
  go_ret
  exact ⟨rfl, rfl⟩

set_option maxRecDepth 100000 in
set_option maxHeartbeats 8000000 in
theorem strict_walk (ad : Option Addr) (n cap : Nat) (w : World) (hn : n ≤ 90) (hA : ActsAt w ad n) (hg : Handle w) :
    Calls Tryz.prog 5 #[.slice ad n cap] w fun e w' => e = .returned (.bool true) ∧ Below w.heap.size w w' := by
  have HR := hid (ran_any w hg)
  have HA := hid hA
  have HG := hid hg
  have g1 : ¬ (90 : Int) < (n : Int) := by omega
  clear hA hg
  go_enter Tryz.func5, Tryz.ntmps5
  go_wp2_with fail
  refine HR.out.mono ?_
  rintro e w1 ⟨rfl, hB1⟩
  have HT := hid (tells_any w1)
  have HB1 := hid hB1
  clear hB1 HR
  go_wp2_with fail
  refine HT.out.mono ?_
  rintro e w2 ⟨L, TL, rfl, hT⟩
  have hG3 : Handle w1 ∧ 0 < w1.heap.size := ⟨HG.out.below HB1.out HG.out.pos, Nat.lt_of_lt_of_le HG.out.pos HB1.out.size⟩
  have hPo : ∀ g, g < w.heap.size → g < w1.heap.size := fun g hg => Nat.lt_of_lt_of_le hg HB1.out.size
  obtain ⟨G, hG⟩ : ∃ G : Gr, (⟨w1, fun g => g < w1.heap.size⟩ : Gr) = G := ⟨_, rfl⟩
  have HGW := hid (show G.w = w1 by rw [← hG])
  have HPO := hid (show ∀ g, g < w.heap.size → G.P g by rw [← hG]; exact hPo)
  have HG3 := hid (show Handle G.w ∧ G.P 0 by rw [← hG]; exact hG3)
  rw [hG] at hT
  have HT3 := hid hT
  obtain ⟨tb, htb⟩ : ∃ tb, TL.b = tb := ⟨_, rfl⟩
  have HTB := hid htb
  rw [htb]
  clear hG3 hPo hG hT htb HT HG
  go_wp2
  go_loopw [4] (fun iv wr => ∃ (i : Nat) (L' : EnL) (E' : Eng) (TL' : TalL) (t' : Tal), iv = .int .i64 i ∧ i ≤ n ∧ Hid (TaleAt G wr L' E' TL' t' ∧ POk E' t' i ∧ Tells E' t' ∧ StrB noQ (keysR t') i E' ∧ TL'.b = tb)) (fun iv _ => n - (intOf iv).toNat)
  case atStart => exact ⟨0, L, eng0, TL, tal0, rfl, Nat.zero_le _, HT3.out, pok0, tells0, str0, HTB.out⟩
  case round =>
    clear HT3 HTB
    obtain ⟨i, L', E', TL', t', rfl, hi, HX⟩ := hrel
    by_cases hlt : i < n
    · obtain ⟨b, off, a0, a1, a2, a3, rfl, x0, x1, x2, x3⟩ := HA.out i hlt
      have hbw : b < w.heap.size := World.block_lt_of_cell? w _ x0
      have hold : ∀ (o : Nat) (v : Value), w.cell? ⟨b, o, none⟩ = some v → wr.cell? ⟨b, o, none⟩ = some v := fun o v hv => HX.out.1.cell (HPO.out b hbw) (by rw [HGW.out]; exact (HB1.out.cell (p := ⟨b, o, none⟩) hbw).trans hv)
      have s1 := hold _ _ x0
      have s2 := hold _ _ x1
      have s3 := hold _ _ x2
      have s4 := hold _ _ x3
      have HD := hid (does_strict HX.out.1 HX.out.2.1 HG3.out (by omega) a0 a1 a2 a3)
      rw [HX.out.2.2.2.2] at HD
      have gi1 : (i : Int) < (n : Int) := by omega
      have gi0 : (0 : Int) ≤ (i : Int) := by omega
      clear hold x0 x1 x2 x3 hbw
      go_wp2_with fail
      refine HD.out.mono ?_
      rintro e w4 ⟨rfl, L4, E4, TL4, t4, hT4, hD4, hb4⟩
      have hn4 : t'.n ≤ 1000000 := by have := HX.out.2.1.num; omega
      have HX4 := hid (And.intro hT4 (And.intro (hD4.pok HX.out.2.1 (by omega)) (And.intro (hD4.tells HX.out.2.2.1 hn4 ⟨_, HX.out.2.1.rd⟩) (And.intro (hD4.str HX.out.2.2.1 hn4 HX.out.2.2.2.1) hb4))))
      have z9 := hT4.tal.cell 9
      simp only [talCells, List.getElem?_toArray, List.getElem?_cons_zero, List.getElem?_cons_succ] at z9
      rw [HX4.out.2.2.1.ok, HX4.out.2.2.2.2] at z9
      clear hT4 hD4 hb4 HD s1 s2 s3 s4 hn4
      go_wp2
      go_roundw
      case rel => exact ⟨i + 1, L4, E4, TL4, t4, by go_num, by omega, HX4.out⟩
      case measure => simp [intOf]; omega
    · have gi1 : ¬ (i : Int) < (n : Int) := by omega
      have z0 := HX.out.1.tal.cell 0
      simp only [talCells, List.getElem?_toArray, List.getElem?_cons_zero] at z0
      rw [HX.out.2.2.2.2] at z0
      have HH := hid (hist_any HX.out.1.en (fun u hu => by have := HX.out.2.1.rd u hu; omega) HX.out.2.1.mid.com_len)
      have hlen : (histP E').length ≤ 1000 := by
        have h1 := hist_len HX.out.2.1.mid
        have h2 := HX.out.2.2.2.1.cnt
        omega
      have HLEN := hid hlen
      clear hlen
      go_wp2_with fail
      refine HH.out.mono ?_
      rintro e w4 ⟨hv, rfl, hrow, hB4⟩
      obtain ⟨had, hcap, hvv⟩ := row_form hrow
      subst hvv
      have HX4 := hid (HX.out.1.below hB4)
      have hfine := hist_fine HX.out.2.2.1 HX.out.2.2.2.1
      have HLN := hid (lineL_ok had hcap (histP E') w4 HLEN.out (hist_at HX.out.2.2.1 HX.out.2.2.2.1 hrow) (fineTo_all (fun o ho => (hfine o ho).1)) (fineTo_all (fun o ho => (hfine o ho).2)))
      clear hrow hB4 hfine HH z0
      go_wp2_with fail
      refine HLN.out.mono ?_
      rintro e w6 ⟨d, hd, hB6, ⟨lv, out, rfl, hlp, hlrow⟩ | ⟨rfl, hlp⟩⟩
      case inr =>
        exfalso
        obtain ⟨out, h⟩ := line_there HX.out.2.2.1 HX.out.2.2.2.1 hd
        rw [hlp] at h
        cases h
      case inl =>
        have HLD := hid (lined_of hd hlp)
        have hol := line_len hlp
        have hol2 : out.length ≤ 1000 := Nat.le_trans hol HLEN.out
        have HX6 := hid (HX4.out.below hB6)
        obtain ⟨lad, lcap, hlv⟩ := row_form hlrow
        subst hlv
        have HLR := hid hlrow
        have hmm := @run_makeMap Tryz.prog
        obtain ⟨mb, hmb⟩ : ∃ mb, w6.heap.size = mb := ⟨_, rfl⟩
        obtain ⟨w7, hw7⟩ : ∃ w7, (w6.alloc (.map #[] 0)).alloc (.cells #[.map (some mb)] 69) = w7 := ⟨_, rfl⟩
        have hs1 : (w6.alloc (.map #[] 0)).heap.size = w6.heap.size + 1 := by simp
        have HS7 := hid (show StW w6 w7 mb (nowP E' (out.take 0)) by
          rw [← hw7, ← hmb]
          refine ⟨((IMap.made w6).mono (Nat.zero_le _)).same (Below.heap_alloc _ _ _ (by omega)) |>.congr (fun a => rfl), ?_, ((Below.refl _ w6).alloc (Nat.le_refl _) _).alloc (by omega) _⟩
          rw [show w6.heap.size + 1 = (w6.alloc (.map #[] 0)).heap.size from hs1.symm]
          exact (cell_of_row _ _ 0 _ _ (0, 0) (heap_alloc_new _ _)).trans rfl)
        have HMB := hid hmb.symm
        have HW7 := hid hw7
        clear hd hlp hB6 hlrow HLN HX4 hol hw7
        go_wp2
        rw [HW7.out]
        clear HW7 hs1 hmb
        go_loopw [57] (fun jv wr => ∃ j : Nat, jv = .int .i64 j ∧ j ≤ out.length ∧ Hid (StW w6 wr mb (nowP E' (out.take j)))) (fun jv _ => out.length - (intOf jv).toNat)
        case atStart => exact ⟨0, rfl, Nat.zero_le _, HS7⟩
        case round =>
          clear HS7
          obtain ⟨j, rfl, hj, HJ⟩ := hrel
          have HXW := hid (HX6.out.below (show Below w6.heap.size w6 wr by rw [← HMB.out]; exact HJ.out.2.2))
          by_cases hlt : j < out.length
          · obtain ⟨x, hx⟩ : ∃ x, out[j]? = some x := ⟨_, List.getElem?_eq_getElem hlt⟩
            obtain ⟨m, u, hxm, hu, hus⟩ := HLD.out.tx HX.out.2.2.1 (List.mem_of_getElem? hx)
            subst hxm
            obtain ⟨N, hN⟩ : ∃ N, E'.txs.length = N := ⟨_, rfl⟩
            have hmN : m < N := by rw [← hN]; exact (List.getElem?_eq_some_iff.1 hu).1
            have hN2 := HXW.out.en.le
            rw [hN] at hN2
            have HN := hid hN
            have hsplit : out = out.take j ++ ((m : Int) + 1) :: out.drop (j + 1) := by
              obtain ⟨h1, h2⟩ := List.getElem?_eq_some_iff.1 hx
              rw [← h2, List.getElem_cons_drop, List.take_append_drop]
            have HSP := hid hsplit
            have HXJ := hid hx
            rcases row_slice HLR.out with ⟨_, e0⟩ | ⟨g, c, e, hg, hc⟩
            · omega
            · injection e with e1 e2 e3
              subst e1 e3
              have cl : wr.cell? ⟨g, j, none⟩ = some (.int .i64 ((m : Int) + 1)) := (HJ.out.2.2.cell (p := ⟨g, j, none⟩) (by rw [HMB.out]; exact hg)).trans (hc _ _ (intsV_get hx))
              obtain ⟨ad0, cap0, hr0⟩ := row_form (HXW.out.tal.rows 0 (by omega))
              have z1 := HXW.out.tal.cell 1
              simp only [talCells, List.getElem?_toArray, List.getElem?_cons_zero, List.getElem?_cons_succ] at z1
              rw [HX.out.2.2.2.2, hr0, hN] at z1
              have HC := hid (committed_any HXW.out hu)
              rw [HX.out.2.2.2.2, show decide (u.state = 2) = true by simpa using hus] at HC
              have ga : decide (((m : Int) + 1) < 1) = false := decide_eq_false (by omega)
              have gb : decide (((m : Int) + 1) > (N : Int)) = false := decide_eq_false (by omega)
              have gs : IntKind.i64.wrap ((m : Int) + 1 - 1) = (m : Int) := by rw [show (m : Int) + 1 - 1 = (m : Int) by omega]; exact IntWalk.i64_in _ (by omega)
              have gj0 : (0 : Int) ≤ (j : Int) := by omega
              have gj1 : (j : Int) < (out.length : Int) := by omega
              have HU := hid (And.intro hu hus)
              clear hsplit hr0 hN hc hx hu hus
              go_wp2_with fail
              refine HC.out.mono ?_
              rintro e w8 ⟨rfl, q8, hw8⟩
              have HS8 := hid (show StW w6 w8 mb (nowP E' (out.take j)) by rw [hw8]; exact HJ.out.more (below_drewN (Below.refl _ wr) q8) HMB.out)
              have HX8 := hid (HX6.out.below (show Below w6.heap.size w6 w8 by rw [← HMB.out]; exact HS8.out.2.2))
              clear hw8 HC cl z1 HXW
              have hNp : 0 < E'.txs.length := by have := HN.out; omega
              obtain ⟨g3, c3, e3⟩ := HX8.out.rowIs (j := 3) (by omega) hNp
              obtain ⟨rv, rl, hrv, hrl⟩ := HX8.out.tal.getR (i := m) (by have := HN.out; omega)
              have y3 : w8.cell? ⟨g3, m, none⟩ = some rv := HX8.out.rowAt (j := 3) (by omega) e3 hrv
              obtain ⟨rad, rcap, hrvf⟩ := row_form (HX8.out.tal.rd m rv rl hrv hrl)
              subst hrvf
              have z4 := HX8.out.tal.cell 4
              simp only [talCells, List.getElem?_toArray, List.getElem?_cons_zero, List.getElem?_cons_succ] at z4
              rw [HX.out.2.2.2.2, e3, HN.out] at z4
              have hrl2 : rl.length ≤ 90 := Nat.le_trans (HX.out.2.1.tr rl (List.mem_of_getElem? hrl)) (by omega)
              have gm0 : (0 : Int) ≤ (m : Int) := by omega
              have gm1 : (m : Int) < (N : Int) := by omega
              have HRV := hid (And.intro hrv hrl)
              clear e3 hrv hrl hNp
              go_wp2
              go_loopw [88] (fun kv wr2 => ∃ k : Nat, kv = .int .i64 k ∧ k ≤ rl.length ∧ Hid (StW w6 wr2 mb (nowP E' (out.take j)))) (fun kv _ => rl.length - (intOf kv).toNat)
              case atStart => exact ⟨0, rfl, Nat.zero_le _, HS8⟩
              case round =>
                clear HS8 HX8 y3 z4
                obtain ⟨k, rfl, hk, HK⟩ := hrel
                have HX9 := hid (HX6.out.below (show Below w6.heap.size w6 wr by rw [← HMB.out]; exact HK.out.2.2))
                by_cases hlt2 : k < rl.length
                · obtain ⟨⟨key, v⟩, hkv⟩ : ∃ p, rl[k]? = some p := ⟨_, List.getElem?_eq_getElem hlt2⟩
                  have hread := HLD.out.read HX.out.2.2.1 HX.out.2.2.2.1 HSP.out HU.out.1 HU.out.2 HRV.out.2 (List.mem_of_getElem? hkv)
                  have hkr := (HX.out.2.2.1.rds m u rl HU.out.1 (by rw [HX.out.2.2.2.1.lev m u HU.out.1]; decide) HRV.out.2 _ (List.mem_of_getElem? hkv)).1
                  simp only at hread hkr
                  rcases row_slice (HX9.out.tal.rd m _ rl HRV.out.1 HRV.out.2) with ⟨_, e0⟩ | ⟨g5, c5, e5, hg5, hc5⟩
                  · omega
                  · injection e5 with e1 e2 e3
                    subst e1 e3
                    have hget := vrow_get rl k _ _ hkv
                    have c0 := hc5 _ _ hget.1
                    have c1 := hc5 _ _ hget.2
                    obtain ⟨w10, hw10⟩ : ∃ w10, wr.alloc (.cells #[.int .i64 key, .int .i64 v] 75) = w10 := ⟨_, rfl⟩
                    have hB10 : Below wr.heap.size wr w10 := by rw [← hw10]; exact (Below.refl _ wr).alloc (Nat.le_refl _) _
                    have HS10 := hid (HK.out.more hB10 HMB.out)
                    have d0 : w10.cell? ⟨wr.heap.size, 0, none⟩ = some (.int .i64 key) := by rw [← hw10]; exact (cell_of_row _ wr.heap.size 0 _ _ (0, 0) (heap_alloc_new wr _)).trans rfl
                    have d1 : w10.cell? ⟨wr.heap.size, 1, none⟩ = some (.int .i64 v) := by rw [← hw10]; exact (cell_of_row _ wr.heap.size 1 _ _ (0, 0) (heap_alloc_new wr _)).trans rfl
                    have HAT := hid (fun q => (HS10.out.more (below_drewN (Below.refl _ w10) q) HMB.out).at (k := key) (by unfold I64; omega))
                    rw [hread] at HAT
                    have HW10 := hid hw10
                    have gk0 : (0 : Int) ≤ (k : Int) := by omega
                    have gk1 : (k : Int) < (rl.length : Int) := by omega
                    clear hw10 hB10 hget hc5 hread hkv
                    go_wp2
                    rw [HW10.out]
                    go_quiet (first | (go_at_call 26; refine Calls.quiet_of_same (HAT.out _)))
                    go_wp2
                    go_roundw
                    case rel => exact ⟨k + 1, by go_num, by omega, HS10.out.more (below_drewN (Below.refl _ _) _) HMB.out⟩
                    case measure => simp [intOf]; omega
                · have gk1 : ¬ (k : Int) < (rl.length : Int) := by omega
                  have z0 := HX9.out.tal.cell 0
                  simp only [talCells, List.getElem?_toArray, List.getElem?_cons_zero] at z0
                  rw [HX.out.2.2.2.2] at z0
                  have HWR := hid (writesE_ok HX9.out.en HU.out.1)
                  go_wp2_with fail
                  refine HWR.out.mono ?_
                  rintro e w9 ⟨wv, rfl, hwrow, hB9⟩
                  have HS9 := hid (HK.out.more hB9 HMB.out)
                  obtain ⟨wad, wcap, hwv⟩ := row_form hwrow
                  subst hwv
                  obtain ⟨xl, hxl⟩ : ∃ xl, writesP u.vals = xl := ⟨_, rfl⟩
                  have hxn := writesP_len u.vals
                  have hmlt : mb < wr.heap.size := HK.out.1.lt
                  rw [hxl] at hwrow hxn
                  rw [hxl]
                  have HXL := hid hxl
                  have HWROW := hid hwrow
                  have HMLT := hid hmlt
                  clear hxl hwrow hB9 HWR z0 hmlt
                  go_wp2
                  go_loopw [15] (fun av wr4 => ∃ a : Nat, av = .int .i64 a ∧ a ≤ xl.length ∧ IMap wr4 mb (10 + a) (fun y => (putW (nowP E' (out.take j)) (xl.take a) y).map (Value.int .i64)) ∧ Hid (wr4.cell? ⟨mb + 1, 0, none⟩ = some (.map (some mb)) ∧ Below mb w6 wr4 ∧ w9.heap.size ≤ wr4.heap.size ∧ ∀ g, g < w9.heap.size → g ≠ mb → wr4.heap[g]? = w9.heap[g]?)) (fun av _ => xl.length - (intOf av).toNat)
                  case atStart => exact ⟨0, rfl, Nat.zero_le _, HS9.out.1, HS9.out.2.1, HS9.out.2.2, Nat.le_refl _, fun _ _ _ => rfl⟩
                  case round =>
                    obtain ⟨a, rfl, ha, hI, HA2⟩ := hrel
                    by_cases hlt3 : a < xl.length
                    · obtain ⟨⟨kx, vx⟩, hkx⟩ : ∃ p, xl[a]? = some p := ⟨xl[a], List.getElem?_eq_getElem hlt3⟩
                      rcases row_slice HWROW.out with ⟨_, e0⟩ | ⟨g6, c6, e6, hg6, hc6⟩
                      · omega
                      · have hgb : g6 ≠ mb := by
                          have h1 := (HWROW.out.lt g6 (by rw [e6]; rfl)).1
                          have h2 := HMLT.out
                          omega
                        injection e6 with e1 e2 e3
                        subst e1 e3
                        have hget := vrow_get xl a _ _ hkx
                        have hsk : ∀ W : World, (∀ g, g < w9.heap.size → g ≠ mb → W.heap[g]? = w9.heap[g]?) → W.cell? ⟨g6, a * 2, none⟩ = some (.int .i64 kx) ∧ W.cell? ⟨g6, a * 2 + 1, none⟩ = some (.int .i64 vx) := fun W hW => ⟨(World.cell?_of_block (w := w9) (a := ⟨g6, a * 2, none⟩) (hW g6 hg6 hgb)).trans (hc6 _ _ hget.1), (World.cell?_of_block (w := w9) (a := ⟨g6, a * 2 + 1, none⟩) (hW g6 hg6 hgb)).trans (hc6 _ _ hget.2)⟩
                        have hkr : 0 ≤ kx ∧ kx < 10 := writesP_key (V := u.vals) (p := (kx, vx)) (by rw [HXL.out]; exact List.mem_of_getElem? hkx)
                        have hbl : mb + 1 < wr.heap.size := World.block_lt_of_cell? wr _ HA2.out.1
                        obtain ⟨w11, hrun, hI11, hg11⟩ := (hI.same (w' := wr.drew) ((below_drewN (Below.refl _ wr) 1).block _ hI.lt)).store Tryz.underlying69 (by unfold maxLen; omega) (a := kx) (by unfold I64; omega) (.int .i64 vx)
                        have hblk : ∀ g, g < wr.heap.size → g ≠ mb → w11.heap[g]? = wr.heap[g]? := fun g h1 h2 => hg11.block g h1 (fun e => by injection e with e; exact h2 e)
                        have hb11 : Below mb w6 w11 := (HA2.out.2.1.drew).grown hg11 (by show mb ≤ wr.heap.size; omega) (fun k e => by injection e with e; omega)
                        have H11 := hid (And.intro (show IMap w11 mb (10 + (a + 1)) (fun y => (putW (nowP E' (out.take j)) (xl.take (a + 1)) y).map (Value.int .i64)) from hI11.congr (fun y => by
                          rw [putW_take hkx]
                          by_cases ey : y = kx
                          · subst ey; simp [updT]
                          · simp [updT, ey])) (And.intro ((World.cell?_of_block (w := wr) (a := ⟨mb + 1, 0, none⟩) (hblk (mb + 1) hbl (by omega))).trans HA2.out.1) (And.intro hb11 (And.intro (Nat.le_trans HA2.out.2.2.1 hg11.size) (fun g h1 h2 => (hblk g (Nat.lt_of_lt_of_le h1 HA2.out.2.2.1) h2).trans (HA2.out.2.2.2 g h1 h2))))))
                        obtain ⟨s1, s2⟩ := hsk wr HA2.out.2.2.2
                        have s0 := HA2.out.1
                        have dK : w11.cell? ⟨mb + 1, 0, none⟩ = some (.map (some mb)) ∧ w11.cell? ⟨g6, a * 2, none⟩ = some (.int .i64 kx) ∧ w11.cell? ⟨g6, a * 2 + 1, none⟩ = some (.int .i64 vx) := ⟨H11.out.2.1, hsk w11 H11.out.2.2.2.2⟩
                        have ga0 : (0 : Int) ≤ (a : Int) := by omega
                        have ga1 : (a : Int) < (xl.length : Int) := by omega
                        clear hI hI11 hg11 hblk hb11 hsk hget hc6 hkx
                        go_wp2
                        go_region_held3 (fun W => W.cell? ⟨mb + 1, 0, none⟩ = some (.map (some mb)) ∧ W.cell? ⟨g6, a * 2, none⟩ = some (.int .i64 kx) ∧ W.cell? ⟨g6, a * 2 + 1, none⟩ = some (.int .i64 vx))
                          (first | go_keep | exact dK)
                          (fail)
                        go_wp2
                        go_roundw
                        case rel => exact ⟨a + 1, by go_num, by omega, H11.out.1, H11.out.2⟩
                        case measure => simp [intOf]; omega
                    · obtain rfl : a = xl.length := by omega
                      have ga1 : ¬ (xl.length : Int) < (xl.length : Int) := by omega
                      rw [List.take_length] at hI
                      have HS12 := hid (show StW w6 wr mb (nowP E' (out.take (j + 1))) from ⟨(hI.upTo 10 (fun y hy => putW_keys (nowP_keys HX.out.2.1.mid _) (fun p hp => writesP_key (V := u.vals) (by rw [HXL.out]; exact hp)) y (fun e => hy (by rw [e]; rfl)))).congr (fun y => by
                        rw [List.take_add_one, HXJ.out, ← HXL.out, putW_all _ u.vals (HX.out.2.1.mid.reg.fair _ _ (cs_get HU.out.1)).vk]
                        simp only [Option.toList_some]
                        rw [nowP_snoc, show ((m : Int) + 1 - 1).toNat = m by omega, CE.v_some (cs_get HU.out.1)]
                        rfl), HA2.out.1, HA2.out.2.1⟩)
                      clear hI
                      go_wp2
                      go_roundw
                      case rel => exact ⟨j + 1, by go_num, by omega, HS12⟩
                      case measure => simp [intOf]; omega
          · obtain rfl : j = out.length := by omega
            have gj1 : ¬ (out.length : Int) < (out.length : Int) := by omega
            rw [List.take_length] at HJ
            have z0 := HXW.out.tal.cell 0
            simp only [talCells, List.getElem?_toArray, List.getElem?_cons_zero] at z0
            rw [HX.out.2.2.2.2] at z0
            have HAL := hid (allE_any HXW.out.en HX.out.2.1.mid.fits)
            go_wp2_with fail
            refine HAL.out.mono ?_
            rintro e w8 ⟨av, rfl, harow, hB8⟩
            have HS8 := hid (HJ.out.more hB8 HMB.out)
            have hlen8 := fun ty => HS8.out.1.lenEq (fun a ha => nowP_keys HX.out.2.1.mid _ a (fun e => ha (by rw [e]; rfl))) Tryz.underlying69 ty
            rw [keysOf_mapI, ← now_count HLD.out HX.out.2.2.1] at hlen8
            have hbx := HS8.out.2.1
            obtain ⟨al, hal⟩ : ∃ al, allE E' = al := ⟨_, rfl⟩
            have gal : al.length ≤ 10 := by rw [← hal]; exact all_len E'
            rw [hal] at harow hlen8
            have HALL := hid hal
            have HAR := hid harow
            obtain ⟨aad, acap, hav⟩ := row_form harow
            subst hav
            clear harow hB8 hal HAL z0 HXW HJ
            go_wp2
            go_loopw [17] (fun iv wr => ∃ i : Nat, iv = .int .i64 i ∧ i ≤ al.length ∧ Hid (Below w8.heap.size w8 wr)) (fun iv _ => al.length - (intOf iv).toNat)
            case atStart => exact ⟨0, rfl, Nat.zero_le _, Below.refl _ _⟩
            case round =>
              clear hlen8 hbx
              obtain ⟨i, rfl, hi, HBR⟩ := hrel
              have HSR := hid (HS8.out.more HBR.out HMB.out)
              by_cases hlt : i < al.length
              · obtain ⟨⟨k, x⟩, hkx⟩ : ∃ o, al[i]? = some o := ⟨al[i], List.getElem?_eq_getElem hlt⟩
                obtain ⟨hnow, hkr⟩ := now_each HLD.out HX.out.2.2.1 (k := k) (x := x) (by rw [HALL.out]; exact List.mem_of_getElem? hkx)
                rcases row_slice HAR.out with ⟨_, e0⟩ | ⟨g, c, e, hg, hc⟩
                · omega
                · injection e with e1 e2 e3
                  subst e1 e3
                  have hget := vrow_get al i _ _ hkx
                  have c0 := (HBR.out.cell (p := ⟨g, i * 2, none⟩) hg).trans (hc _ _ hget.1)
                  have c1 := (HBR.out.cell (p := ⟨g, i * 2 + 1, none⟩) hg).trans (hc _ _ hget.2)
                  have HAT := hid (fun q => (HSR.out.more (below_drewN (Below.refl _ wr) q) HMB.out).at (k := k) (by unfold I64; omega))
                  rw [hnow, Option.getD_some] at HAT
                  have gi0 : (0 : Int) ≤ (i : Int) := by omega
                  have gi1 : (i : Int) < (al.length : Int) := by omega
                  clear hget hc hkx hnow
                  go_wp2
                  go_quiet (first | (go_at_call 26; refine Calls.quiet_of_same (HAT.out _)))
                  go_wp2
                  go_roundw
                  case rel => exact ⟨i + 1, by go_num, by omega, below_drewN HBR.out _⟩
                  case measure => simp [intOf]; omega
              · have gi1 : ¬ (i : Int) < (al.length : Int) := by omega
                go_wp2
                go_ret
                refine ⟨rfl, ?_⟩
                have hk := (HX6.out.below (show Below w6.heap.size w6 wr by rw [← HMB.out]; exact HSR.out.2.2)).kept
                have hb := HB1.out
                have hs := hk.size
                rw [← HGW.out] at hb
                exact ⟨hk.os.trans hb.os, hk.tape.trans hb.tape, hk.output.trans hb.output, Nat.le_trans hb.size hs, fun g hg => (hk.block g (HPO.out g hg)).trans (hb.block g hg)⟩

end Go.Proofs.YtjefgmeejhakbaaGreatDoor
