/- keep's kept: a commit that is there behind a restart. -/
import Derived.Test.YtjefgmeejhakbaaGreatDoorMgAC
import Derived.Test.YtjefgmeejhakbaaGreatDoorKtRan
namespace Go.Proofs.YtjefgmeejhakbaaGreatDoor
open Go.RowKit

section
set_option maxRecDepth 100000
noncomputable def kB : Eng := ((writeE 7 (fun _ => 0) rA 0 4 9).map (·.2)).getD eng0
theorem kB_eq : writeE 7 (fun _ => 0) rA 0 4 9 = some ((true, 0), kB) := rfl
noncomputable def kC : Eng := (endF 7 { (installE kB 0) with com := kB.com ++ [0] } 0 2).getD eng0
theorem kB_tx : ∃ t, kB.txs[0]? = some t ∧ t.state = 0 ∧ betB t.ahead t.behind = false ∧ writesP t.vals = [(4, 9)] := by
  obtain ⟨t, ht, hs, ha, hw⟩ : ∃ t, kB.txs[0]? = some t ∧ t.state = 0 ∧ (∀ x, t.ahead x = false) ∧ writesP t.vals = [(4, 9)] := ⟨_, rfl, rfl, fun _ => rfl, rfl⟩
  exact ⟨t, ht, hs, betB_false (fun hb => by obtain ⟨⟨x, hx⟩, _⟩ := hb; rw [ha] at hx; cases hx), hw⟩
theorem kA_rank : Ranked rA.T (fun _ => 0) := fun k x h => (by cases h)
theorem kB_mid : Mid 0 (fun _ => none) kB.ce noQ := by
  obtain ⟨R, h1, h2, _⟩ := b_write (n := 0) rA_mid (fun u hu => by
    have hu : u ∈ ([] ++ [newTx 2 0] : List Tx) := hu
    simp at hu
    rw [hu]
    exact Nat.le_refl _) (i := 0) (u := newTx 2 0) rfl rfl (key := 4) (val := 9) (by decide) (by decide) kA_rank
  rw [kB_eq] at h1
  injection h1 with h1
  rw [← h1] at h2
  exact h2
end
theorem le_sum {x : Nat} : ∀ {l : List Nat}, x ∈ l → x ≤ l.sum
  | a :: r, h => by
    rcases List.mem_cons.1 h with rfl | h
    · simp
    · have := le_sum h
      simp
      omega
def kD : Dsk := writeD dsk0 0 (recP [(4, 9)]) 0
theorem kD_ok : DskOk kD [[(4, 9)]] := dskOk0.write (ws := [(4, 9)]) (by decide) (fun p hp => by rw [List.mem_singleton.1 hp]; unfold Fine; decide) (by decide) (by decide) 0 rfl
theorem kAll : allE (engO 1 [(4, 9)]) = [(4, 9)] := by decide

set_option maxRecDepth 100000 in
set_option maxHeartbeats 4000000 in
theorem kept_any (w : World) :
    Calls Tryz.prog 50 #[] w fun e w' => e = .returned (.bool true) ∧ Below w.heap.size w w' := by
  obtain ⟨w1, hw1⟩ : ∃ w1, w.alloc (.cells Tryz.zeroCells96 96) = w1 := ⟨_, rfl⟩
  obtain ⟨d, hd⟩ : ∃ d, w.heap.size = d := ⟨_, rfl⟩
  have hD1 : DiskAt w1 d dv0 dsk0 := by rw [← hw1, ← hd]; exact disk0 w
  have hB1 : Below w.heap.size w w1 := by rw [← hw1]; exact (Below.refl _ w).alloc (Nat.le_refl _) _
  have HO1 := hid (open_any' hD1 dskOk0.1)
  have HD1 := hid (And.intro hD1 (And.intro hB1 (show ∀ g, dOwn d dv0 g → w.heap.size ≤ g from fun g hg => by rw [dOwn0 hg, ← hd]; exact Nat.le_refl _)))
  have HW1 := hid hw1
  clear hD1 hB1 hw1
  go_enter Tryz.func50, Tryz.ntmps50
  go_wp2_with fail
  rw [HW1.out]
  refine HO1.out.mono ?_
  rintro e w2 ⟨b, L2, rfl, hb, hE, hB, ho, hob, hnb⟩
  have hC2 := cr_open HD1.out.1 HD1.out.2.1 HD1.out.2.2 ⟨hb, hE, hB, ho, hob, hnb⟩
  have HC2 := hid (show CrAt w w2 b d L2 eng0 dv0 dsk0 ([] : List (List (Int × Int))).length 0 false from hC2)
  have HEN := hid (bengine_any HC2.out.bas)
  clear hC2 hb hE hB ho hob hnb HO1 HW1
  go_wp2_with fail
  refine HEN.out.mono ?_
  rintro e w3 ⟨rfl, hw3⟩
  rw [hw3]
  clear hw3 w3
  go_wp2_with fail
  refine HEN.out.mono ?_
  rintro e w3 ⟨rfl, hw3⟩
  rw [hw3]
  clear hw3 w3
  have HB2 : Hid (Calls Tryz.prog 51 #[.pointer (some ⟨L2.s, 0, none⟩), .int .i64 2] w2 fun e w' => e = .returned (.tuple #[.int .i64 1, .nilIface]) ∧ ∃ L' b, EnAt w' L' rA ∧ KeptO L2.own L'.own w2 w' ∧ L'.s = L2.s ∧ L'.bs = L2.bs ++ [b]) := begin_ok (E := eng0) HC2.out.bas.en (level := 2) (.inr (.inr rfl)) (by decide) (by decide)
  go_wp2_with fail
  refine HB2.out.mono ?_
  rintro e w3 ⟨rfl, L3, b3, hE3, hK3, hs3, _⟩
  have HC3 := hid (HC2.out.turn hE3 hK3 hs3)
  have HEN3 := hid (bengine_any HC3.out.bas)
  have HWR : Hid (Calls Tryz.prog 53 #[.pointer (some ⟨L3.s, 0, none⟩), .int .i64 1, .int .i64 4, .int .i64 9] w3 fun e w' => e = .returned (.tuple #[.bool true, .nilIface]) ∧ EnPost L3 kB w3 w') := write_main HC3.out.bas.en rA_mid.fits kA_rank (i := 0) (t := newTx 2 0) rfl rfl (key := 4) (val := 9) (by decide) (by decide) kB_eq
  clear hE3 hK3 hs3 HB2 HEN
  go_wp2_with fail
  refine HEN3.out.mono ?_
  rintro e w4 ⟨rfl, hw4⟩
  rw [hw4]
  clear hw4 w4 HEN3
  go_wp2_with fail
  refine HWR.out.mono ?_
  rintro e w4 ⟨rfl, hP⟩
  obtain ⟨L4, hC4, _⟩ := HC3.out.engine hP
  have HC4 := hid hC4
  obtain ⟨t4, ht4, hs4, hb4, hw4⟩ := kB_tx
  obtain ⟨R, hR, hRM, _, hR0, _⟩ := b_commit (n := (kB.txs.map (fun u => u.reads.length)).sum) kB_mid (fun u hu => le_sum (List.mem_map.2 ⟨u, hu, rfl⟩)) ht4 hs4
  have hCM := bcommit_ok (recs := []) HC4.out.bas dskOk0.1 kB_mid ht4 hs4 hb4 (by rw [hw4]; simp) (by unfold I64; decide) rfl hR
  rw [hR0 hb4, hw4] at hCM
  have HCM : Hid (Calls Tryz.prog 43 #[.pointer (some ⟨b, 0, none⟩), .int .i64 1] w4 fun e w' => e = .returned .nilIface ∧ ∃ L' dv', BasAt w' b d L' R.2 dv' kD 1 0 false ∧ BPost b d L4 L' dv0 dv' w4 w') := hCM
  clear hP hC4 HWR hCM ht4 hs4 hb4 hw4 hR hRM hR0
  go_wp2_with fail
  refine HCM.out.mono ?_
  rintro e w5 ⟨rfl, L5, dv5, hB5, hP5⟩
  have hC5 := HC4.out.bpost hB5 hP5
  have HC5 := hid hC5
  have HO5 := hid (open_any' (recs := [[(4, 9)]]) hC5.bas.dsk kD_ok.1)
  clear hB5 hP5 hC5 HCM
  go_wp2_with fail
  refine HO5.out.mono ?_
  rintro e w6 ⟨b6, L6, rfl, hb, hE, hB, ho, hob, hnb⟩
  have hC6 := cr_open (recs := [[(4, 9)]]) HC5.out.bas.dsk HC5.out.fr HC5.out.lod ⟨hb, hE, hB, ho, hob, hnb⟩
  have HC6 := hid hC6
  have HEN6 := hid (bengine_any hC6.bas)
  have HUS6 := hid (bused_any hC6.bas)
  have HAL := hid (allE_any hC6.bas.en (mid_engO (t := 1) (ws := [(4, 9)]) (by decide) (fun p hp => by rw [List.mem_singleton.1 hp]; decide)).fits)
  clear hb hE hB ho hob hnb hC6 HO5
  go_wp2_with fail
  refine HEN6.out.mono ?_
  rintro e w7 ⟨rfl, hw7⟩
  rw [hw7]
  clear hw7 w7
  go_wp2_with fail
  refine HEN6.out.mono ?_
  rintro e w7 ⟨rfl, hw7⟩
  rw [hw7]
  clear hw7 w7 HEN6
  go_wp2_with fail
  refine HAL.out.mono ?_
  rintro e w7 ⟨av, rfl, harow, hB7⟩
  have harow2 : w7.ownsRow w6.heap.size 78 2 av 1 [.int .i64 4, .int .i64 9] := by
    have := harow
    rw [show (engO (([[(4, 9)]] : List (List (Int × Int))).length : Int) ([[(4, 9)]] : List (List (Int × Int))).flatten) = engO 1 [(4, 9)] from rfl, kAll] at this
    exact this
  rcases row_slice harow2 with ⟨_, e0⟩ | ⟨g, c, rfl, hg, hc⟩
  · omega
  have c0 := hc 0 _ rfl
  have c1 := hc 1 _ rfl
  have HC7 := hid (HC6.out.below hB7)
  have HUS := hid (bused_any HC7.out.bas)
  clear harow harow2 hB7 HAL hc HUS6
  go_wp2_with fail
  refine HUS.out.mono ?_
  rintro e w8 ⟨rfl, hw8⟩
  rw [hw8]
  clear hw8 w8 HUS
  go_wp2
  go_ret
  exact ⟨rfl, HC7.out.fr⟩

end Go.Proofs.YtjefgmeejhakbaaGreatDoor
