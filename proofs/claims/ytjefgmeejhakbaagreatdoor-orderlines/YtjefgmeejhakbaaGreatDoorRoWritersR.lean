/- The closure writers of the reference's Edges. -/
import Derived.Test.YtjefgmeejhakbaaGreatDoorOrWrittenR
namespace Go.Proofs.YtjefgmeejhakbaaGreatDoor
open Go.RowKit
def wrK (l : List Opp) (key : Int) (j : Nat) : List Int := writersP (l.take j) key
theorem wrK_step {l : List Opp} {j : Nat} {o : Opp} (h : l[j]? = some o) (key : Int) : wrK l key (j + 1) = wStep key (wrK l key j) o := by
  unfold wrK writersP
  rw [List.take_add_one, h]
  simp [List.foldl_append]
theorem wrK_len (l : List Opp) (key : Int) (j : Nat) : (wrK l key j).length ≤ l.length := Nat.le_trans (writers_len _ _) (by simp; omega)
set_option maxRecDepth 100000 in
set_option maxHeartbeats 1000000 in
theorem refWriters_any (ad : Option Addr) (cap L : Nat) (l : List Opp) (key : Int) (w : World) (hn : l.length ≤ 1000) (hO : OpsAt w ad l) (hL : w.cell? ⟨L, 0, none⟩ = some (.slice ad l.length cap)) :
    Calls Tryz.prog 55 #[.int .i64 key, .pointer (some ⟨L, 0, none⟩)] w fun e w' => ∃ v, e = .returned v ∧ w'.ownsRow w.heap.size 3 1 v (writersP l key).length (intsV (writersP l key)) ∧ Below w.heap.size w w' := by
  obtain ⟨i0, hi0, hz0, hz1, hz2⟩ := info_parts info3
  have HO := hid hO
  clear hO
  go_enter Tryz.func55, Tryz.ntmps55
  go_wp2
  go_loopw [4, 9] (fun sv iv wr => ∃ j : Nat, iv = .int .i64 j ∧ j ≤ l.length ∧ wr.ownsRow w.heap.size 3 1 sv (wrK l key j).length (intsV (wrK l key j)) ∧ Below w.heap.size w wr) (fun _ iv _ => l.length - (intOf iv).toNat)
  case atStart => exact ⟨0, rfl, Nat.zero_le _, World.ownsRow_nil _ _ _ _, Below.refl _ _⟩
  case round =>
    obtain ⟨j, rfl, hj, ho, hB⟩ := hrel
    have hBs := hB.size
    by_cases hlt : j < l.length
    · obtain ⟨op, hop⟩ : ∃ o, l[j]? = some o := ⟨l[j], List.getElem?_eq_getElem hlt⟩
      obtain ⟨g, off, rfl, hg, ⟨c0, c1, c2, c3⟩, _⟩ := HO.out.below hB j op hop
      have hj0 : (0 : Int) ≤ (j : Int) := by omega
      have hj1 : (j : Int) < (l.length : Int) := by omega
      obtain ⟨tx, htx⟩ : ∃ tx, op.1 = tx := ⟨_, rfl⟩
      obtain ⟨kk, hkk⟩ : ∃ kk, op.2.1 = kk := ⟨_, rfl⟩
      obtain ⟨wb, hwb⟩ : ∃ wb, op.2.2.1 = wb := ⟨_, rfl⟩
      obtain ⟨fr, hfr⟩ : ∃ fr, op.2.2.2 = fr := ⟨_, rfl⟩
      have hst := wrK_step hop key
      unfold wStep at hst
      rw [htx, hkk, hwb] at hst
      rw [htx] at c0
      rw [hkk] at c1
      rw [hwb] at c2
      rw [hfr] at c3
      have hlen := wrK_len l key j
      obtain ⟨s, hs⟩ : ∃ s, wrK l key j = s := ⟨_, rfl⟩
      rw [hs] at hst ho hlen
      have hA : Below wr.heap.size wr (wr.alloc (.cells #[.int .i64 tx, .int .i64 kk, .bool wb, .int .i64 fr] 90)) := (Below.refl _ _).alloc (Nat.le_refl _) _
      have hBA := hB.trans (hA.mono hBs)
      have hoA := owns_same ho (fun g e => hA.block g (ho.lt g e).2)
      have HA := hid (And.intro hoA hBA)
      clear hop htx hkk hwb hfr hs hA hBA hoA hB
      have skip : wrK l key (j + 1) = s → ∀ q, ∃ j' : Nat, Value.int .i64 ((j : Int) + 1) = .int .i64 j' ∧ j' ≤ l.length ∧ ((wr.alloc (.cells #[.int .i64 tx, .int .i64 kk, .bool wb, .int .i64 fr] 90)).drewN q).ownsRow w.heap.size 3 1 u4 (wrK l key j').length (intsV (wrK l key j')) ∧ Below w.heap.size w ((wr.alloc (.cells #[.int .i64 tx, .int .i64 kk, .bool wb, .int .i64 fr] 90)).drewN q) :=
        fun he q => ⟨j + 1, by go_num, by omega, by rw [he]; exact owns_same HA.out.1 (fun _ _ => by simp), below_drewN HA.out.2 q⟩
      have SKIP := hid skip
      clear skip
      obtain ⟨sad, scap, hsv⟩ := row_form ho
      cases wb with
      | false =>
        rw [if_neg (by simp)] at hst
        have HST := hid hst
        clear hst ho
        subst hsv
        go_wp2
        go_quiet (fail)
        go_wp2
        go_roundw
        case rel => exact SKIP.out HST.out _
        case measure => simp [intOf]; omega
      | true =>
        by_cases hk : kk = key
        · subst hk
          have hX0 := heap_alloc_new wr (.cells #[.int .i64 tx, .int .i64 kk, .bool true, .int .i64 fr] 90)
          have HX := hid ((cell_of_row _ _ 0 _ _ (0, 0) hX0).trans (rfl : _ = some (Value.int .i64 tx)))
          clear hX0
          by_cases hs0 : s = []
          · subst hs0
            rw [if_pos ⟨rfl, rfl, by simp⟩] at hst
            have HST := hid hst
            simp only [List.length_nil] at hsv
            clear hst ho
            subst hsv
            go_wp2
            go_quiet (fail)
            obtain ⟨wz, hwz⟩ : ∃ wz, (wr.alloc (.cells #[.int .i64 tx, .int .i64 kk, .bool true, .int .i64 fr] 90)).drewN nq = wz := ⟨_, rfl⟩
            have hzs : wz.heap.size = wr.heap.size + 1 := by rw [← hwz]; simp
            have hzo : wz.ownsRow w.heap.size 3 1 (.slice sad 0 scap) 0 (intsV []) := by rw [← hwz]; exact owns_same HA.out.1 (fun _ _ => by simp)
            have hzc : wz.cell? ⟨wr.heap.size, 0, none⟩ = some (.int .i64 tx) := by rw [← hwz]; simp [HX.out]
            have hzB : Below w.heap.size w wz := by rw [← hwz]; exact below_drewN HA.out.2 nq
            have HZ := hid (And.intro hzo hzB)
            have hzs2 := hzB.size
            rw [hwz]
            clear hwz hzo hzB hzs
            go_wp2_with (at_builtin; refine wpList_append_lies _ rfl _ _ _ rfl w.heap.size 3 i0 _ 1 8 Tryz.underlying29 hi0 hz0 hz1 hz2 rfl (by omega) (.slice sad 0 scap) 0 _ rfl (HZ.out.1.alloc _) ⟨wz.heap.size, 0, none⟩ 1 1 [.int .i64 tx] rfl rfl (World.news_of_block (cs := #[.int .i64 tx]) (t := 3) (fr := (0, 0)) (heap_alloc_new wz _)) (by simp [Value.oneCell']) (by omega) (by unfold maxLen; omega) (by omega) (by simp; omega) (wz.heap.size + 1) (by simp) ?_; intro g2 cap2 w2 ho2 hgrow2 hat2 hlt2)
            go_roundw
            case rel =>
              refine ⟨j + 1, by go_num, by omega, ?_, (HZ.out.2.alloc hzs2 _).grown hgrow2 (by simp; omega) (fun k e => (HZ.out.1.lt k e).1)⟩
              rw [HST.out]
              exact ho2
            case measure => simp [intOf]; omega
          · obtain ⟨n, hnn⟩ : ∃ n, s.length = n + 1 := ⟨s.length - 1, by have := List.length_pos_iff.2 hs0; omega⟩
            obtain ⟨y, hy⟩ : ∃ y, s[n]? = some y := ⟨s[n]'(by omega), List.getElem?_eq_getElem _⟩
            have hgl : s.getLast? = some y := by rw [List.getLast?_eq_getElem?, hnn]; exact hy
            rcases row_slice ho with ⟨_, e0⟩ | ⟨g2, scap2, hsv2, hg2, hc2⟩
            · omega
            · have cy := hc2 n _ (intsV_get hy)
              have HN := hid hnn
              rw [hnn] at hsv2
              have hn0 : (0 : Int) ≤ (n : Int) := by omega
              have hn1 : (n : Int) < ((n + 1 : Nat) : Int) := by omega
              have hn5 : IntKind.i64.wrap (n : Int) = (n : Int) := IntWalk.i64_in _ (by omega)
              have hn6 : (n : Int) + 1 - 1 = (n : Int) := by omega
              have hn7 : ((n : Int) + 1 == 0) = false := by simp; omega
              by_cases hyt : y = tx
              · have hb : (y != tx) = false := by simp [hyt]
                rw [if_neg (by rw [hgl, hyt]; simp)] at hst
                have HST := hid hst
                clear hst ho hc2 hy hgl hyt hsv
                subst hsv2
                go_wp2
                go_quiet (fail)
                go_wp2
                go_roundw
                case rel => exact SKIP.out HST.out _
                case measure => simp [intOf]; omega
              · have hb : (y != tx) = true := by simpa using hyt
                rw [if_pos ⟨rfl, rfl, by rw [hgl]; simpa using hyt⟩] at hst
                have HST := hid hst
                clear hst ho hc2 hy hgl hyt hsv
                rw [hnn] at HA
                subst hsv2
                go_wp2
                go_quiet (fail)
                obtain ⟨wz, hwz⟩ : ∃ wz, (wr.alloc (.cells #[.int .i64 tx, .int .i64 kk, .bool true, .int .i64 fr] 90)).drewN nq = wz := ⟨_, rfl⟩
                have hzs : wz.heap.size = wr.heap.size + 1 := by rw [← hwz]; simp
                have hzo : wz.ownsRow w.heap.size 3 1 (.slice (some ⟨g2, 0, none⟩) (n + 1) scap2) (n + 1) (intsV s) := by rw [← hwz]; exact owns_same HA.out.1 (fun _ _ => by simp)
                have hzc : wz.cell? ⟨wr.heap.size, 0, none⟩ = some (.int .i64 tx) := by rw [← hwz]; simp [HX.out]
                have hzB : Below w.heap.size w wz := by rw [← hwz]; exact below_drewN HA.out.2 nq
                have HZ := hid (And.intro hzo hzB)
                have hzs2 := hzB.size
                rw [hwz]
                clear hwz hzo hzB hzs
                go_wp2_with (at_builtin; refine wpList_append_lies _ rfl _ _ _ rfl w.heap.size 3 i0 _ 1 8 Tryz.underlying29 hi0 hz0 hz1 hz2 rfl (by omega) (.slice (some ⟨g2, 0, none⟩) (n + 1) scap2) (n + 1) _ rfl (HZ.out.1.alloc _) ⟨wz.heap.size, 0, none⟩ 1 1 [.int .i64 tx] rfl rfl (World.news_of_block (cs := #[.int .i64 tx]) (t := 3) (fr := (0, 0)) (heap_alloc_new wz _)) (by simp [Value.oneCell']) (by omega) (by unfold maxLen; omega) (by omega) (by simp; omega) (wz.heap.size + 1) (by simp) ?_; intro g2 cap2 w2 ho2 hgrow2 hat2 hlt2)
                go_roundw
                case rel =>
                  refine ⟨j + 1, by go_num, by omega, ?_, (HZ.out.2.alloc hzs2 _).grown hgrow2 (by simp; omega) (fun k e => (HZ.out.1.lt k e).1)⟩
                  rw [HST.out, intsV_append, List.length_append]
                  exact HN.out ▸ ho2
                case measure => simp [intOf]; omega
        · have hkb : (kk == key) = false := by simpa using hk
          rw [if_neg (by simp [hk])] at hst
          have HST := hid hst
          clear hst ho hk
          subst hsv
          go_wp2
          go_quiet (fail)
          go_wp2
          go_roundw
          case rel => exact SKIP.out HST.out _
          case measure => simp [intOf]; omega
    · obtain rfl : j = l.length := by omega
      have hfin : wrK l key l.length = writersP l key := by unfold wrK; rw [List.take_length]
      rw [hfin] at ho
      have HF := hid (And.intro ho hB)
      clear ho hB hfin
      go_wp2
      go_ret
      exact ⟨_, rfl, HF.out⟩
end Go.Proofs.YtjefgmeejhakbaaGreatDoor
