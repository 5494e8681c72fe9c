/- keep's ran. -/
import Derived.Test.YtjefgmeejhakbaaGreatDoorMgAC
namespace Go.Proofs.YtjefgmeejhakbaaGreatDoor
open Go.RowKit

theorem EnPost.go {w0 w w' : World} {L : EnL} {E' : Eng} (hB : Below w0.heap.size w0 w) (hn : ∀ g, L.own g → w0.heap.size ≤ g) (hp : EnPost L E' w w') : ∃ L', EnAt w' L' E' ∧ Below w0.heap.size w0 w' ∧ (∀ g, L'.own g → w0.heap.size ≤ g) ∧ L'.s = L.s := by
  obtain ⟨L', hE, hK, hs, _⟩ := hp
  exact ⟨L', hE, hB.trans (hK.below hB.size hn), fun g hg => (hK.sub g hg).elim (hn g) (fun e => Nat.le_trans hB.size e), hs⟩

set_option maxRecDepth 100000 in
set_option maxHeartbeats 4000000 in
theorem ran_any (w : World) (hg : Handle w) : Calls Tryz.prog 22 #[] w fun e w' => e = .returned (.bool true) ∧ Below w.heap.size w w' := by
  have hh : ∀ W, Below w.heap.size w W → Handle W := fun W hB => hg.below hB hg.pos
  have HH := hid hh
  have HN := hid (new_any w)
  clear hh hg
  go_enter Tryz.func22, Tryz.ntmps22
  go_wp2_with fail
  refine HN.out.mono ?_
  rintro e w1 ⟨L1, rfl, hE1, hB1, hn1⟩
  have hs1 : L1.s = L1.s := rfl
  have HB1 : Hid (Calls Tryz.prog 51 #[.pointer (some ⟨L1.s, 0, none⟩), .int .i64 2] w1 fun e w' => e = .returned (.tuple #[.int .i64 1, .nilIface]) ∧ ∃ L' b, EnAt w' L' rA ∧ KeptO L1.own L'.own w1 w' ∧ L'.s = L1.s ∧ L'.bs = L1.bs ++ [b]) := by
    have := begin_ok (E := eng0) hE1 (level := 2) (.inr (.inr rfl)) (by decide) (by decide)
    exact this
  have HX1 := hid (And.intro hB1 (And.intro hn1 hs1))
  clear hE1 hB1 hn1 hs1
  go_wp2_with fail
  refine HB1.out.mono ?_
  rintro e w2 ⟨rfl, L2, b2, hE2, hK, hs, _⟩
  have hB2 : Below w.heap.size w w2 := HX1.out.1.trans (hK.below HX1.out.1.size HX1.out.2.1)
  have hn2 : ∀ g, L2.own g → w.heap.size ≤ g := fun g hg => (hK.sub g hg).elim (HX1.out.2.1 g) (fun e => Nat.le_trans HX1.out.1.size e)
  have hs2 : L2.s = L1.s := hs
  clear hK hs HB1 HX1
  have HB2 : Hid (Calls Tryz.prog 51 #[.pointer (some ⟨L1.s, 0, none⟩), .int .i64 2] w2 fun e w' => e = .returned (.tuple #[.int .i64 2, .nilIface]) ∧ ∃ L' b, EnAt w' L' rB ∧ KeptO L2.own L'.own w2 w' ∧ L'.s = L2.s ∧ L'.bs = L2.bs ++ [b]) := by
    have := begin_ok (E := rA) hE2 (level := 2) (.inr (.inr rfl)) (by decide) (by decide)
    rw [hs2] at this ⊢
    exact this
  have HX2 := hid (And.intro hB2 (And.intro hn2 hs2))
  clear hE2 hB2 hn2 hs2
  go_wp2_with fail
  refine HB2.out.mono ?_
  rintro e w3 ⟨rfl, L3, b3, hE3, hK, hs, _⟩
  have hB3 : Below w.heap.size w w3 := HX2.out.1.trans (hK.below HX2.out.1.size HX2.out.2.1)
  have hn3 : ∀ g, L3.own g → w.heap.size ≤ g := fun g hg => (hK.sub g hg).elim (HX2.out.2.1 g) (fun e => Nat.le_trans HX2.out.1.size e)
  have hs3 : L3.s = L1.s := hs.trans HX2.out.2.2
  clear hK hs HB2 HX2
  have HC3 : Hid (Calls Tryz.prog 52 #[.pointer (some ⟨L1.s, 0, none⟩), .int .i64 1, .int .i64 1] w3 fun e w' => e = .returned (.tuple #[.int .i64 0, errV 8]) ∧ EnPost L3 rC w3 w') := by
    have := read_any hE3 (HH.out w3 hB3) rB_mid (fun u hu => by have := rB_rd u hu; omega) (i := 0) (u := newTx 2 0) rfl rfl (by decide) rC_eq
    rw [hs3] at this
    exact this
  have HX3 := hid (And.intro hB3 (And.intro hn3 hs3))
  clear hE3 hB3 hn3 hs3
  go_wp2_with fail
  refine HC3.out.mono ?_
  rintro e w4 ⟨rfl, hP⟩
  obtain ⟨L4, hE4, hB4, hn4, hs⟩ := EnPost.go HX3.out.1 HX3.out.2.1 hP
  have hs4 : L4.s = L1.s := hs.trans HX3.out.2.2
  clear hP hs HC3 HX3
  have HC4 : Hid (Calls Tryz.prog 52 #[.pointer (some ⟨L1.s, 0, none⟩), .int .i64 2, .int .i64 2] w4 fun e w' => e = .returned (.tuple #[.int .i64 0, errV 8]) ∧ EnPost L4 rD w4 w') := by
    have := read_any hE4 (HH.out w4 hB4) rC_went.mid (fun u hu => by have := rC_went.rd u hu; omega) (i := 1) (Classical.choose_spec (show ∃ u, rC.txs[1]? = some u ∧ u.state = 0 from ⟨_, rfl, rfl⟩)).1 (Classical.choose_spec (show ∃ u, rC.txs[1]? = some u ∧ u.state = 0 from ⟨_, rfl, rfl⟩)).2 (by decide) rD_eq
    rw [hs4] at this
    exact this
  have HX4 := hid (And.intro hB4 (And.intro hn4 hs4))
  clear hE4 hB4 hn4 hs4
  go_wp2_with fail
  refine HC4.out.mono ?_
  rintro e w5 ⟨rfl, hP⟩
  obtain ⟨L5, hE5, hB5, hn5, hs⟩ := EnPost.go HX4.out.1 HX4.out.2.1 hP
  have hs5 : L5.s = L1.s := hs.trans HX4.out.2.2
  clear hP hs HC4 HX4
  have HC5 : Hid (Calls Tryz.prog 53 #[.pointer (some ⟨L1.s, 0, none⟩), .int .i64 1, .int .i64 2, .int .i64 5] w5 fun e w' => e = .returned (.tuple #[.bool true, errV 0]) ∧ EnPost L5 rF w5 w') := by
    have := write_main hE5 rD_went.mid.fits rD_rank (i := 0) (Classical.choose_spec (show ∃ u, rD.txs[0]? = some u ∧ u.state = 0 from ⟨_, rfl, rfl⟩)).1 (Classical.choose_spec (show ∃ u, rD.txs[0]? = some u ∧ u.state = 0 from ⟨_, rfl, rfl⟩)).2 (by decide) (by decide) rF_eq
    rw [hs5] at this
    exact this
  have HX5 := hid (And.intro hB5 (And.intro hn5 hs5))
  clear hE5 hB5 hn5 hs5
  go_wp2_with fail
  refine HC5.out.mono ?_
  rintro e w6 ⟨rfl, hP⟩
  obtain ⟨L6, hE6, hB6, hn6, hs⟩ := EnPost.go HX5.out.1 HX5.out.2.1 hP
  have hs6 : L6.s = L1.s := hs.trans HX5.out.2.2
  clear hP hs HC5 HX5
  have HC6 : Hid (Calls Tryz.prog 53 #[.pointer (some ⟨L1.s, 0, none⟩), .int .i64 2, .int .i64 1, .int .i64 6] w6 fun e w' => e = .returned (.tuple #[.bool true, errV 0]) ∧ EnPost L6 rG w6 w') := by
    have := write_main hE6 rF_went.mid.fits rF_rank (i := 1) (Classical.choose_spec (show ∃ u, rF.txs[1]? = some u ∧ u.state = 0 from ⟨_, rfl, rfl⟩)).1 (Classical.choose_spec (show ∃ u, rF.txs[1]? = some u ∧ u.state = 0 from ⟨_, rfl, rfl⟩)).2 (by decide) (by decide) rG_eq
    rw [hs6] at this
    exact this
  have HX6 := hid (And.intro hB6 (And.intro hn6 hs6))
  clear hE6 hB6 hn6 hs6
  go_wp2_with fail
  refine HC6.out.mono ?_
  rintro e w7 ⟨rfl, hP⟩
  obtain ⟨L7, hE7, hB7, hn7, hs⟩ := EnPost.go HX6.out.1 HX6.out.2.1 hP
  have hs7 : L7.s = L1.s := hs.trans HX6.out.2.2
  clear hP hs HC6 HX6
  have HT8 := hid (fun W (hB : Below w7.heap.size w7 W) => tellV 8 W (HH.out W (hB7.trans (hB.mono hB7.size))))
  have HCc : Hid (∀ W, Below w7.heap.size w7 W → Calls Tryz.prog 37 #[.pointer (some ⟨L1.s, 0, none⟩), .int .i64 1] W fun e w' => e = .returned (errV 13) ∧ EnPost L7 rH W w') := fun W hB => by
    have CH := (Classical.choose_spec (show ∃ u, rG.txs[0]? = some u ∧ u.state = 0 from ⟨_, rfl, rfl⟩))
    have := commit_main (hE7.below hB) rG_went.mid.fits (i := 0) CH.1 CH.2 (rG_went.mid.fine CH.1) (by have := rG_went.mid.last_le; have e : rG.ce.last = rG.last := rfl; omega) (by have := rG_went.mid.com.nwc; have := rG_went.mid.cw_len; have e : rG.ce.nw = rG.nw := rfl; omega) (by have := rG_went.mid.com_len; have e : rG.ce.com = rG.com := rfl; rw [e] at this; omega) (rG_went.mid.inst_ks _) rH_eq
    rw [hs7] at this
    exact this
  have HX7 := hid (And.intro hB7 (And.intro hn7 hs7))
  rw [show errV 8 = Value.iface 24 (.int .i64 8) from rfl, show errV 0 = Value.nilIface from rfl]
  rw [show errV 8 = Value.iface 24 (.int .i64 8) from rfl] at HT8
  clear hE7 hB7 hn7 hs7
  go_wp2_with fail
  refine (HT8.out _ (Below.refl _ _)).mono ?_
  rintro e w8 ⟨rfl, hB8⟩
  go_wp2_with fail
  refine (HT8.out _ hB8).mono ?_
  rintro e w9 ⟨rfl, hB9'⟩
  have hB9 : Below w7.heap.size w7 w9 := hB8.trans (hB9'.mono hB8.size)
  have HB9 := hid hB9
  clear hB8 hB9' hB9
  go_wp2_with fail
  refine (HCc.out _ HB9.out).mono ?_
  rintro e w10 ⟨rfl, hP⟩
  obtain ⟨L10, hE10, hB10, hn10, hs⟩ := EnPost.go (HX7.out.1.trans (HB9.out.mono HX7.out.1.size)) HX7.out.2.1 hP
  have hs10 : L10.s = L1.s := hs.trans HX7.out.2.2
  clear hP hs HCc HT8 HX7 HB9
  have HCd : Hid (Calls Tryz.prog 37 #[.pointer (some ⟨L1.s, 0, none⟩), .int .i64 2] w10 fun e w' => e = .returned (errV 0) ∧ EnPost L10 rI w10 w') := by
    have CH := (Classical.choose_spec (show ∃ u, rH.txs[1]? = some u ∧ u.state = 0 from ⟨_, rfl, rfl⟩))
    have := commit_main hE10 rH_went.mid.fits (i := 1) CH.1 CH.2 (rH_went.mid.fine CH.1) (by have := rH_went.mid.last_le; have e : rH.ce.last = rH.last := rfl; omega) (by have := rH_went.mid.com.nwc; have := rH_went.mid.cw_len; have e : rH.ce.nw = rH.nw := rfl; omega) (by have := rH_went.mid.com_len; have e : rH.ce.com = rH.com := rfl; rw [e] at this; omega) (rH_went.mid.inst_ks _) rI_eq
    rw [hs10] at this
    exact this
  have HX10 := hid (And.intro hB10 (And.intro hn10 hs10))
  clear hE10 hB10 hn10 hs10
  go_wp2_with fail
  refine HCd.out.mono ?_
  rintro e w11 ⟨rfl, hP⟩
  obtain ⟨L11, hE11, hB11, hn11, hs⟩ := EnPost.go HX10.out.1 HX10.out.2.1 hP
  have hs11 : L11.s = L1.s := hs.trans HX10.out.2.2
  have HT := hid (tellV 13 w11 (HH.out w11 hB11))
  have HL : Hid (∀ W, Below w11.heap.size w11 W → Calls Tryz.prog 86 #[.pointer (some ⟨L1.s, 0, none⟩)] W fun e w' => e = .returned (.int .i64 1) ∧ w' = W) := fun W hB => by
    have := lastE_any (hE11.below hB)
    rw [hs11] at this
    exact this
  have HB11 := hid hB11
  rw [show errV 0 = Value.nilIface from rfl]
  clear hP hs HCd HX10 hE11 hB11 hn11 hs11
  go_wp2_with fail
  refine HT.out.mono ?_
  rintro e w12 ⟨rfl, hB12⟩
  have HB12 := hid hB12
  clear hB12
  go_wp2_with fail
  refine (HL.out _ HB12.out).mono ?_
  rintro e w13 ⟨rfl, hw13⟩
  rw [hw13]
  go_wp2
  go_ret
  exact ⟨rfl, HB11.out.trans (HB12.out.mono HB11.out.size)⟩

end Go.Proofs.YtjefgmeejhakbaaGreatDoor
