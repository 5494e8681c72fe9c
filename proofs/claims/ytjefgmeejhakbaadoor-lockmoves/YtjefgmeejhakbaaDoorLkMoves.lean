/- keep.LockMoves: the walk. -/
import Derived.Test.YtjefgmeejhakbaaDoorLkMovesP
namespace Go.Proofs.YtjefgmeejhakbaaDoor
open Go.RowKit

/-- A list of calls that came in. -/
def Cals (W : World) (ad : Option Addr) (n : Nat) : Prop := ∀ i, i < n → ∃ (b off : Nat) (wh t k : Int), ad = some ⟨b, off, none⟩ ∧ I64 t ∧ I64 k ∧
  W.cell? ⟨b, off + i * 3, none⟩ = some (.int .i64 wh) ∧ W.cell? ⟨b, off + i * 3 + 1, none⟩ = some (.int .i64 t) ∧ W.cell? ⟨b, off + i * 3 + 2, none⟩ = some (.int .i64 k)

set_option maxRecDepth 100000 in
set_option maxHeartbeats 1000000 in
theorem moves_long (ad : Option Addr) (n cap : Nat) (w : World) (hn : 120 < n) :
    Calls Tryd.prog 6 #[.slice ad n cap] w fun e w' => e = .returned (.bool true) ∧ Below w.heap.size w w' := by
  have h1 : (120 : Int) < (n : Int) := by omega
  go_enter Tryd.func6, Tryd.ntmps6
  go_wp2
  go_ret
  exact ⟨rfl, Below.refl _ _⟩

set_option maxRecDepth 100000 in
set_option maxHeartbeats 8000000 in
theorem moves_walk (ad : Option Addr) (n cap : Nat) (w : World) (hn : n ≤ 120) (hO : Cals w ad n) (hH : Handle w) :
    Calls Tryd.prog 6 #[.slice ad n cap] w fun e w' => e = .returned (.bool true) ∧ Below w.heap.size w w' := by
  have hn1 : ¬ (120 : Int) < (n : Int) := by omega
  have hn2 : (n : Int) ≤ 120 := by omega
  have HH := hid hH
  have HO := hid hO
  clear hH hO
  go_enter Tryd.func6, Tryd.ntmps6
  go_wp2_with fail
  refine (held_any _ HH.out).mono ?_
  rintro e w1 ⟨rfl, hB1⟩
  have hS0 : St w (w1.alloc (.cells #[.map none, .map none, .map none] 71)) w1.heap.size 0 (fun _ => []) := by
    refine ⟨noM, TabAt.zero w1, fun b hb => ?_, hB1.alloc hB1.size _⟩
    rcases hb with e | e | e | e | ⟨k, v, e, _⟩
    · have := hB1.size; omega
    · cases e
    · cases e
    · cases e
    · cases e
  have HS0 := hid hS0
  have hBs := hB1.size
  obtain ⟨s, hs⟩ : ∃ s, w1.heap.size = s := ⟨_, rfl⟩
  obtain ⟨W1, hW1⟩ : ∃ W1, w1.alloc (.cells #[.map none, .map none, .map none] 71) = W1 := ⟨_, rfl⟩
  have HE := hid (And.intro hs hW1)
  rw [hs, hW1] at HS0
  clear hS0 hB1 hs hW1
  go_wp2_with fail
  rw [HE.out.1, HE.out.2]
  clear HE hBs
  go_loopw [4] (fun v wr => ∃ (i : Nat) (T : Tab), i ≤ n ∧ v = .int .i64 i ∧ Hid (St w wr s (30 * i) T) ∧ Hid (Good T) ∧ Hid (SmallT T)) (fun v _ => n - (intOf v).toNat)
  case atStart => exact ⟨0, _, Nat.zero_le _, rfl, HS0, Good.nil, fun k x hx => by simp at hx⟩
  case round =>
    clear HS0
    obtain ⟨i, T, hi, rfl, HS, HG, HM⟩ := hrel
    obtain ⟨wa, rfl⟩ : ∃ wa, wa = wr := ⟨wr, rfl⟩
    by_cases hlt : i < n
    · obtain ⟨b, off, wh, t, k, rfl, ht64, hk64, c0, c1, c2⟩ := HO.out i hlt
      have hbl := World.block_lt_of_cell? w _ c0
      have hBw : Below w.heap.size w wa := by obtain ⟨_, _, _, h⟩ := HS.out; exact h
      have d0 := (hBw.cell (p := ⟨b, off + i * 3, none⟩) hbl).trans c0
      have d1 := (hBw.cell (p := ⟨b, off + i * 3 + 1, none⟩) hbl).trans c1
      have d2 := (hBw.cell (p := ⟨b, off + i * 3 + 2, none⟩) hbl).trans c2
      obtain ⟨pt, hpt0, hpt1, hpt⟩ := pick_ex t 8 (by omega) (by omega)
      obtain ⟨pk, hpk0, hpk1, hpk⟩ := pick_ex k 5 (by omega) (by omega)
      have HPT := hid hpt
      have HPK := hid hpk
      have hi0 : (0 : Int) ≤ (i : Int) := by omega
      have hi1 : (i : Int) < (n : Int) := by omega
      clear hpt hpk c0 c1 c2 hBw
      go_wp2
      go_quiet ((first
        | (go_at_call_of 25 (Value.int IntKind.i64 t); exact Calls.quiet_of_same (HPT.out _))
        | (go_at_call_of 25 (Value.int IntKind.i64 k); exact Calls.quiet_of_same (HPK.out _))))
      obtain ⟨wq, hwq⟩ : ∃ wq, wa.drewN nq = wq := ⟨_, rfl⟩
      have HSq := hid (show St w wq s (30 * i) T by rw [← hwq]; exact HS.out.below (below_drewN (Below.refl _ _) nq))
      have d0q : wq.cell? ⟨b, off + i * 3, none⟩ = some (.int .i64 wh) := by rw [← hwq]; exact ((below_drewN (Below.refl _ wa) nq).cell (p := ⟨b, off + i * 3, none⟩) (World.block_lt_of_cell? wa _ d0)).trans d0
      rw [hwq]
      clear hwq d0 d1 d2 HPT HPK HS
      go_upto_block 2 with fail
      go_cut [] (fun wx => ∃ T', Hid (St w wx s (30 * i + 25) T') ∧ Hid (Good T') ∧ Hid (SmallT T'))
      case first =>
        by_cases hw0 : wh = 0
        · subst hw0
          have htx64 : I64 (1 + pt) := by unfold I64; omega
          have hkk64 : I64 pk := by unfold I64; omega
          obtain ⟨q, hq⟩ := HG.out.rank
          have hok := fun h => ask_ok (T := T) (q := q) (tx := 1 + pt) (key := pk) h
          have HG2 := hid (HG.out.ask hq (1 + pt) pk (by omega))
          have HM2 := hid (SmallT.ask (q := q) (tx := 1 + pt) (key := pk) HM.out (by omega) (by omega))
          have hca := HSq.out.ask HG.out hq htx64 hkk64 (by omega)
          obtain ⟨p1, hp1⟩ : ∃ p1, (askP T q (1 + pt) pk).1 = p1 := ⟨_, rfl⟩
          obtain ⟨p2, hp2⟩ : ∃ p2, (askP T q (1 + pt) pk).2.1 = p2 := ⟨_, rfl⟩
          obtain ⟨p3, hp3⟩ : ∃ p3, (askP T q (1 + pt) pk).2.2 = p3 := ⟨_, rfl⟩
          rw [hp1, hp2, hp3] at hok hca
          rw [hp3] at HG2 HM2
          have HOK := hid hok
          have HCA := hid hca
          clear hok hca hp1 hp2 hp3 hq HG HM HSq d0q hkk64
          go_wp2_with fail
          refine HCA.out.mono ?_
          rintro e w2 ⟨rfl, hS2⟩
          have HS2 := hid hS2
          clear hS2 HCA
          cases p1 with
          | false =>
            go_wp2
            go_meet
            exact ⟨p3, HS2.out.mono (by omega), HG2, HM2⟩
          | true =>
            obtain ⟨hp2, hh⟩ := HOK.out rfl
            subst hp2
            have hhc := HS2.out.holds (k := pk) (by unfold I64; omega)
            rw [hh] at hhc
            have HHC := hid hhc
            clear hh hhc
            simp only [errV, if_true]
            go_wp2_with (go_at_call 33; refine HHC.out.mono ?_; rintro e w' ⟨rfl, rfl⟩)
            go_meet
            exact ⟨p3, HS2.out.mono (by omega), HG2, HM2⟩
        · by_cases hw1 : wh = 1
          · subst hw1
            have htx64 : I64 (1 + pt) := by unfold I64; omega
            have HG2 := hid (HG.out.drop (1 + pt))
            have HM2 := hid (HM.out.sub (M := dropP T (1 + pt)) (fun _ => List.filter_sublist))
            have HOF := hid (fun k v h => out_fair HG.out (tx := 1 + pt) (k := k) (v := v) h)
            have hol := outTo_length T (1 + pt) 10 (by omega)
            rw [outTo_end] at hol
            have HCA := hid (HSq.out.drop HG.out htx64 (by omega))
            obtain ⟨L, hL⟩ : ∃ L, outP T (1 + pt) = L := ⟨_, rfl⟩
            obtain ⟨D, hD⟩ : ∃ D, dropP T (1 + pt) = D := ⟨_, rfl⟩
            rw [hL, hD] at HCA HOF
            rw [hD] at HG2 HM2
            rw [hL] at hol
            clear hL hD HG HM HSq d0q hw0
            go_wp2_with fail
            refine HCA.out.mono ?_
            rintro e wd ⟨v, rfl, hov, hSd⟩
            have HSd := hid hSd
            have HOV := hid hov
            obtain ⟨adv, capv, rfl⟩ := row_form hov
            clear hov hSd HCA
            go_wp2_with fail
            go_loopw [73] (fun c wr => ∃ j : Nat, j ≤ L.length ∧ c = .int .i64 j ∧ Below wd.heap.size wd wr) (fun c _ => L.length - (intOf c).toNat)
            case atStart => exact ⟨0, Nat.zero_le _, rfl, Below.refl _ _⟩
            case round =>
              obtain ⟨j, hj, rfl, hBj⟩ := hrel
              obtain ⟨wj, rfl⟩ : ∃ wj, wj = wr := ⟨wr, rfl⟩
              by_cases hjl : j < L.length
              · obtain ⟨⟨ok, ov⟩, hov⟩ : ∃ p, L[j]? = some p := ⟨L[j], List.getElem?_eq_getElem hjl⟩
                obtain ⟨f1, f2, f3, f4, f5, f6⟩ := HOF.out ok ov (List.mem_of_getElem? hov)
                rcases row_slice HOV.out with ⟨_, e0⟩ | ⟨g, cg, eg, hgl, hcg⟩
                · omega
                · injection eg with e1 e2 e3
                  subst e1
                  subst e3
                  clear e2
                  obtain ⟨v1, v2⟩ := vrow_get L j ok ov hov
                  have x0 := (hBj.cell (p := ⟨g, j * 2, none⟩) hgl).trans (hcg _ _ v1)
                  have x1 := (hBj.cell (p := ⟨g, j * 2 + 1, none⟩) hgl).trans (hcg _ _ v2)
                  have hj0 : (0 : Int) ≤ (j : Int) := by omega
                  have hj1 : (j : Int) < (L.length : Int) := by omega
                  have hA : Below wj.heap.size wj (wj.alloc (.cells #[.int .i64 ok, .int .i64 ov] 64)) := (Below.refl _ _).alloc (Nat.le_refl _) _
                  have hSa := (HSd.out.below hBj).below hA
                  have hq1 := fun nq => (hSa.below (below_drewN (Below.refl _ _) nq)).holds (k := ok) (by unfold I64; omega)
                  have hq2 := fun nq => (hSa.below (below_drewN (Below.refl _ _) nq)).waits (x := ov) (by unfold I64; omega)
                  rw [f3] at hq1
                  rw [f4] at hq2
                  have HQ1 := hid hq1
                  have HQ2 := hid hq2
                  have e8 : (ov != ov) = false := by simp
                  have HBA := hid (hBj.alloc hBj.size (.cells #[.int .i64 ok, .int .i64 ov] 64))
                  clear hq1 hq2 hSa hA f3 f4 v1 v2 hov hcg hBj
                  go_wp2
                  go_quiet ((first
                    | (go_at_call 33; exact Calls.quiet_of_same (HQ1.out _))
                    | (go_at_call 31; exact Calls.quiet_of_same (HQ2.out _))))
                  go_wp2
                  go_roundw
                  case rel => exact ⟨j + 1, by omega, by go_num, below_drewN HBA.out _⟩
                  case measure => simp [intOf]; omega
              · go_wp2
                go_meet
                exact ⟨D, (HSd.out.below hBj).mono (by omega), HG2, HM2⟩
          · have e0 : (wh == 0) = false := by simpa using hw0
            have e1 : (wh == 1) = false := by simpa using hw1
            go_wp2
            go_meet
            exact ⟨T, HSq.out.mono (by omega), HG, HM⟩
      case rest =>
        clear HG HM HSq d0q
        obtain ⟨T2, HS2, HG2, HM2⟩ := hcut
        obtain ⟨q, hq⟩ := HG2.out.rank
        have HQ := hid hq
        have hTd := HG2.out.tidy
        have HTD := hid hTd
        clear hq hTd
        go_wp2_with fail
        go_loop [11] (fun v => ∃ x : Int, 1 ≤ x ∧ x ≤ 9 ∧ v = .int .i64 x) (fun v => (9 - intOf v).toNat)
        case atStart => exact ⟨1, by omega, by omega, rfl⟩
        case round =>
          obtain ⟨x, hx1, hx9, rfl⟩ := hrel
          by_cases hx8 : x ≤ 8
          · go_wp2_with fail
            go_loop [12, 13] (fun nn yy => ∃ (m : Nat) (y : Int) (vis : List Int), nn = .int .i64 m ∧ yy = .int .i64 y ∧ 1 ≤ y ∧ y ≤ 8 ∧ Hid (vis.length = m ∧ vis.Nodup ∧ ∀ v ∈ vis, (1 ≤ v ∧ v ≤ 8) ∧ q y < q v)) (fun _ yy => q (intOf yy))
            case atStart => exact ⟨0, x, [], rfl, rfl, hx1, hx8, rfl, List.Pairwise.nil, fun v hv => by simp at hv⟩
            case round =>
              obtain ⟨m, y, vis, rfl, rfl, hy1, hy8, HV⟩ := hrel
              have hy64 : I64 y := by unfold I64; omega
              have HWY := hid (HS2.out.waits hy64)
              have hwc := waits_cases T2 y
              have hw64 := waits_i64 T2 y
              by_cases hw : 0 ≤ waitsP T2 y
              · have hmem := mem_of_waits hw
                have hlt := HQ.out _ _ hmem
                have hhh := HS2.out.holds hw64
                have hhm := head_mem (tail_ne hmem)
                have hh1 := (HTD.out.pos _ _ hhm).1
                have hh8 := (HM2.out _ _ hhm).1
                have hvl : (y :: vis).length ≤ 8 := eight (List.nodup_cons.2 ⟨fun hy => by have := (HV.out.2.2 y hy).2; omega, HV.out.2.1⟩) (fun v hv => by
                  rcases List.mem_cons.1 hv with rfl | hv
                  · exact ⟨hy1, hy8⟩
                  · exact (HV.out.2.2 v hv).1)
                have hm7 : m ≤ 7 := by have := HV.out.1; simp at hvl; omega
                change 1 ≤ holdsP T2 (waitsP T2 y) at hh1
                change holdsP T2 (waitsP T2 y) ≤ 8 at hh8
                obtain ⟨kk, hkk⟩ : ∃ kk, waitsP T2 y = kk := ⟨_, rfl⟩
                rw [hkk] at HWY hhh hlt hh1 hh8 hw
                obtain ⟨z, hz⟩ : ∃ z, holdsP T2 kk = z := ⟨_, rfl⟩
                rw [hz] at hhh hlt hh1 hh8
                have HHH := hid hhh
                have hzy : z ≠ y := by rintro rfl; omega
                have e1 : (z == 0) = false := by simp; omega
                have e2 : (z == y) = false := by simpa using hzy
                have e3 : ¬ (8 : Int) < (m : Int) := by omega
                have HLT := hid hlt
                clear hmem hhm hkk hz hhh hwc hw64 hvl hlt
                go_wp2_with (first
                  | (go_at_call 31; refine HWY.out.mono ?_; rintro e w' ⟨rfl, rfl⟩)
                  | (go_at_call 33; refine HHH.out.mono ?_; rintro e w' ⟨rfl, rfl⟩))
                go_round
                case rel =>
                  refine ⟨m + 1, z, y :: vis, by go_num, rfl, hh1, hh8, by simp [HV.out.1], List.nodup_cons.2 ⟨fun hy => by have := (HV.out.2.2 y hy).2; omega, HV.out.2.1⟩, fun v hv => ?_⟩
                  have := HLT.out
                  rcases List.mem_cons.1 hv with rfl | hv
                  · exact ⟨⟨hy1, hy8⟩, this⟩
                  · have := HV.out.2.2 v hv
                    exact ⟨this.1, by omega⟩
                case measure => simpa [intOf] using HLT.out
              · have hw1 : waitsP T2 y = -1 := by omega
                rw [hw1] at HWY
                clear hw hwc hw64 hw1
                go_wp2_with (go_at_call 31; refine HWY.out.mono ?_; rintro e w' ⟨rfl, rfl⟩)
                go_round
                case rel =>
                  exact ⟨x + 1, by omega, by omega, by go_num⟩
                case measure => simp [intOf]; omega
          · clear HQ
            go_wp2_with fail
            go_loopw [15] (fun v wr => ∃ k : Nat, k ≤ 5 ∧ v = .int .i64 k ∧ Hid (St w wr s (30 * i + 25) T2)) (fun v _ => 5 - (intOf v).toNat)
            case atStart => exact ⟨0, by omega, rfl, HS2⟩
            case round =>
              clear HS2
              obtain ⟨k, hk, rfl, HS2⟩ := hrel
              obtain ⟨wk, rfl⟩ : ∃ wk, wk = wr := ⟨wr, rfl⟩
              by_cases hk5 : k < 5
              · have hk64 : I64 (k : Int) := by unfold I64; omega
                have hlen := HS2.out.len (k : Int)
                have HCL := hid (HS2.out.line hk64 (by omega))
                have hk51 : (k : Int) < 5 := by omega
                have hk50 : (0 : Int) ≤ (k : Int) := by omega
                have HHK := hid (holds_zero HTD.out (k := (k : Int)))
                obtain ⟨l, hl⟩ : ∃ l, (T2 k).tail = l := ⟨_, rfl⟩
                have HW := hid (show ∀ x ∈ l, waitsP T2 x = k ∧ I64 x from fun x hx => ⟨waits_of_mem HTD.out (by rw [hl]; exact hx), by have := HTD.out.pos k x (List.mem_of_mem_tail (by rw [hl]; exact hx)); unfold I64; omega⟩)
                have HNE := hid (show l ≠ [] → T2 k ≠ [] from fun h e => h (by rw [← hl, e]; rfl))
                rw [hl] at HCL hlen
                clear hl
                go_wp2_with fail
                refine HCL.out.mono ?_
                rintro e wl ⟨v, rfl, hov, hBl⟩
                obtain ⟨adv, capv, rfl⟩ := row_form hov
                have HSl := hid (HS2.out.below hBl)
                have HOV := hid hov
                clear hov hBl HCL
                go_wp2_with fail
                go_loop [17] (fun c => ∃ j : Nat, j ≤ l.length ∧ c = .int .i64 j) (fun c => l.length - (intOf c).toNat)
                case atStart => exact ⟨0, Nat.zero_le _, rfl⟩
                case round =>
                  obtain ⟨j, hj, rfl⟩ := hrel
                  by_cases hjl : j < l.length
                  · obtain ⟨x, hx⟩ : ∃ x, l[j]? = some x := ⟨l[j], List.getElem?_eq_getElem hjl⟩
                    obtain ⟨hwx, hx64⟩ := HW.out x (List.mem_of_getElem? hx)
                    rcases row_slice HOV.out with ⟨_, e0⟩ | ⟨g, cg, eg, hgl, hcg⟩
                    · omega
                    · injection eg with e1 e2 e3
                      subst e1
                      subst e3
                      clear e2
                      have x0 := hcg j _ (intsV_get hx)
                      have hj0 : (0 : Int) ≤ (j : Int) := by omega
                      have hj1 : (j : Int) < (l.length : Int) := by omega
                      have hcw := HSl.out.waits hx64
                      rw [hwx] at hcw
                      have HCW := hid hcw
                      have e9 : ((k : Int) != (k : Int)) = false := by simp
                      clear hwx hcg hx hcw
                      go_wp2_with (go_at_call 31; refine HCW.out.mono ?_; rintro e w' ⟨rfl, rfl⟩)
                      go_round
                      case rel => exact ⟨j + 1, by omega, by go_num⟩
                      case measure => simp [intOf]; omega
                  · by_cases hl0 : l = []
                    · have e1 : ¬ (0 : Int) < (l.length : Int) := by rw [hl0]; simp
                      clear hl0
                      go_wp2
                      go_roundw
                      case rel => exact ⟨k + 1, by omega, by go_num, HSl⟩
                      case measure => simp [intOf]; omega
                    · have e1 : (0 : Int) < (l.length : Int) := by have := List.length_pos_iff.2 hl0; omega
                      have hch := HSl.out.holds hk64
                      have hz : holdsP T2 k ≠ 0 := fun e => HNE.out hl0 (HHK.out.1 e)
                      obtain ⟨z, hze⟩ : ∃ z, holdsP T2 k = z := ⟨_, rfl⟩
                      rw [hze] at hch hz
                      have HCH := hid hch
                      have e2 : (z == 0) = false := by simpa using hz
                      clear hl0 hch hze hz
                      go_wp2_with (go_at_call 33; refine HCH.out.mono ?_; rintro e w' ⟨rfl, rfl⟩)
                      go_roundw
                      case rel => exact ⟨k + 1, by omega, by go_num, HSl⟩
                      case measure => simp [intOf]; omega
              · go_wp2
                go_roundw
                case rel => exact ⟨i + 1, T2, by omega, by go_num, HS2.out.mono (by omega), HG2, HM2⟩
                case measure => simp [intOf]; omega
    · clear HO
      go_wp2_with fail
      go_loopw [18] (fun v wr => ∃ (x : Int) (T' : Tab), 1 ≤ x ∧ x ≤ 9 ∧ v = .int .i64 x ∧ Hid (St w wr s (30 * n + 21 * x.toNat) T') ∧ Hid (Good T') ∧ Hid (∀ k y, y ∈ T' k → x ≤ y ∧ y ≤ 8)) (fun v _ => (9 - intOf v).toNat)
      case atStart => exact ⟨1, T, by omega, by omega, rfl, HS.out.mono (by omega), HG, fun k y hy => ⟨(HG.out.tidy.pos k y hy).1, (HM.out k y hy).1⟩⟩
      case round =>
        clear HS HG HM
        obtain ⟨x, T', hx1, hx9, rfl, HS, HG, HM⟩ := hrel
        by_cases hx8 : x ≤ 8
        · have HCD := hid (HS.out.drop HG.out (tx := x) (by unfold I64; omega) (by omega))
          go_wp2_with fail
          refine HCD.out.mono ?_
          rintro e wd ⟨v, rfl, _, hSd⟩
          have HSd := hid hSd
          clear hSd HCD
          go_wp2
          go_roundw
          case rel =>
            refine ⟨x + 1, dropP T' x, by omega, by omega, by go_num, HSd.out.mono (by omega), HG.out.drop x, fun k y hy => ?_⟩
            have h1 := List.mem_filter.1 hy
            have h2 := HM.out k y h1.1
            have h3 : y ≠ x := by simpa using h1.2
            omega
          case measure => simp [intOf]; omega
        · have HNil := hid (show ∀ k, T' k = [] from fun k => List.eq_nil_iff_forall_not_mem.2 (fun y hy => by have := HM.out k y hy; omega))
          clear HM
          go_wp2_with fail
          go_loopw [19] (fun v wr => ∃ k : Nat, k ≤ 5 ∧ v = .int .i64 k ∧ Hid (St w wr s (30 * n + 21 * x.toNat) T')) (fun v _ => 5 - (intOf v).toNat)
          case atStart => exact ⟨0, by omega, rfl, HS⟩
          case round =>
            clear HS
            obtain ⟨k, hk, rfl, HS⟩ := hrel
            obtain ⟨wk, rfl⟩ : ∃ wk, wk = wr := ⟨wr, rfl⟩
            by_cases hk5 : k < 5
            · have hk64 : I64 (k : Int) := by unfold I64; omega
              have hk51 : (k : Int) < 5 := by omega
              have hk50 : (0 : Int) ≤ (k : Int) := by omega
              have hch := HS.out.holds hk64
              have hcl := HS.out.line hk64 (by omega)
              rw [(holds_zero HG.out.tidy).2 (HNil.out k)] at hch
              rw [HNil.out k] at hcl
              have HCH := hid hch
              have HCL := hid hcl
              clear hch hcl
              go_wp2_with (go_at_call 33; refine HCH.out.mono ?_; rintro e w' ⟨rfl, rfl⟩)
              refine HCL.out.mono ?_
              rintro e wl ⟨v, rfl, hov, hBl⟩
              obtain ⟨adv, capv, rfl⟩ := row_form hov
              have HSl := hid (HS.out.below hBl)
              clear hov hBl HCL
              simp only [List.tail_nil, List.length_nil]
              go_wp2
              go_roundw
              case rel => exact ⟨k + 1, by omega, by go_num, HSl⟩
              case measure => simp [intOf]; omega
            · have hBe : Below w.heap.size w wk := by obtain ⟨_, _, _, h⟩ := HS.out; exact h
              go_wp2
              go_ret
              exact ⟨rfl, hBe⟩

end Go.Proofs.YtjefgmeejhakbaaDoor
