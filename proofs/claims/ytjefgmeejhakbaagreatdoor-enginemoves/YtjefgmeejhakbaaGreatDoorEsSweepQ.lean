/- slices.Clone at []api.Version, and (*Store).Sweep. -/
import Derived.Test.YtjefgmeejhakbaaGreatDoorMgAGQ
import Derived.WalkLawsBesides
namespace Go.Proofs.YtjefgmeejhakbaaGreatDoor
open Go.RowKit
variable {P : Tail}
theorem run_eql_nil (w : World) (a : Option Addr) (l c : Nat) : (binOp .eql 153 (.slice a l c) (.slice none 0 0)).run Tryz.prog w = .ok (.bool a.isNone) w := by
  simp [binOp, run_equal_slice_nil w 153 199 a l c Tryz.underlying153]
attribute [local go_sem] run_eql_nil
set_option maxRecDepth 100000 in
set_option maxHeartbeats 1000000 in
theorem clone_any (base : Nat) (ad : Addr) (m c : Nat) (news : List Value) (w : World) (hbase : base ≤ w.heap.size) (hm : 0 < m) (hm2 : m ≤ 1000000) (hl : news.length = m * 2)
    (hnews : ∀ j u, news[j]? = some u → w.cell? (ad.add j) = some u) (h1 : ∀ u ∈ news, u.oneCell' = true) :
    Calls Tryz.prog 199 #[.slice (some ad) m c] w fun e w' => ∃ gg cap, e = .returned (.slice (some ⟨gg, 0, none⟩) m cap) ∧ w'.ownsRow base 199 2 (.slice (some ⟨gg, 0, none⟩) m cap) m news ∧ Below w.heap.size w w' ∧ w.heap.size ≤ gg := by
  obtain ⟨i0, hi0, hz0, hz1, hz2⟩ := info_parts info44
  have hown : (w.alloc (.cells #[] 199)).ownsRow base 199 2 (.slice (some ⟨w.heap.size, 0, none⟩) 0 0) 0 [] := World.ownsRow_made w #[] 0 hbase (by simp [maxLen]) rfl
  have hn2 : ∀ j u, news[j]? = some u → (w.alloc (.cells #[] 199)).cell? (ad.add j) = some u := fun j u hu => by
    have := hnews j u hu
    exact ((World.grownBy_alloc w (.cells #[] 199) none).cell this (by simp))
  go_enter Tryz.func199, Tryz.ntmps199
  go_wp2_with (at_builtin; refine wpList_append_lies _ rfl _ _ _ rfl base 199 i0 _ 2 16 Tryz.underlying153 hi0 hz0 hz1 hz2 rfl (by omega) _ 0 [] rfl hown ad m c news rfl hl hn2 h1 hm (by unfold maxLen; omega) (by omega) (by simp; omega) (w.heap.size + 1) (by simp) ?_; intro g cap w1 ho hgrow hat hlt)
  go_ret
  rw [Nat.zero_add] at ho
  have hgrow2 : (w.alloc (.cells #[] 199)).grownBy w1 (some w.heap.size) := hgrow
  have hat2 : some w.heap.size = some g ∨ g = w.heap.size + 1 := hat
  refine ⟨g, cap, rfl, ho, ?_, ?_⟩
  · exact ((Below.refl _ w).alloc (Nat.le_refl _) _).grown hgrow2 (by simp) (fun k e => by cases e; exact Nat.le_refl _)
  · rcases hat2 with e | e
    · cases e; exact Nat.le_refl _
    · omega
def sweepL (t : Int) (l : List (Int × Int)) : List (Int × Int) := l.drop (lat l t).toNat
def sweepN (t : Int) (ks : List (List (Int × Int))) : Nat := (ks.map fun l => (lat l t).toNat).sum
theorem sweepN_snoc (t : Int) (ks : List (List (Int × Int))) (l : List (Int × Int)) : sweepN t (ks ++ [l]) = sweepN t ks + (lat l t).toNat := by simp [sweepN]
theorem sweepN_bound (t : Int) : ∀ (ks : List (List (Int × Int))) (N : Nat), (∀ l ∈ ks, l.length ≤ N) → sweepN t ks ≤ ks.length * N
  | [], _, _ => by simp [sweepN]
  | l :: r, N, h => by
    have h1 := sweepN_bound t r N (fun m hm => h m (List.mem_cons_of_mem _ hm))
    have h2 := h l (List.mem_cons_self ..)
    have h3 := (lat_lt l t l.length).1
    simp only [sweepN, lat, List.map_cons, List.sum_cons, List.length_cons, Nat.add_mul] at *
    omega
def swept (t : Int) (k : Nat) (ks : List (List (Int × Int))) : List (List (Int × Int)) := (ks.take k).map (sweepL t) ++ ks.drop k
theorem swept_step (t : Int) (k : Nat) (ks : List (List (Int × Int))) (l : List (Int × Int)) (h : ks[k]? = some l) : swept t (k + 1) ks = (swept t k ks).set k (sweepL t l) := by
  have hk : k < ks.length := (List.getElem?_eq_some_iff.1 h).1
  unfold swept
  rw [List.take_add_one, h, List.set_append_right _ _ (by simp; omega), List.drop_eq_getElem_cons hk]
  simp only [List.length_map, List.length_take]
  rw [show k - min k ks.length = 0 from by omega, List.set_cons_zero]
  simp
set_option maxRecDepth 100000 in
set_option maxHeartbeats 2000000 in
theorem sweep_any (base s : Nat) (last t : Int) (vs : List Value) (ks : List (List (Int × Int))) (w : World) (h : Sto P w base s last vs ks) (hbase : base ≤ w.heap.size) (hks : ∀ l ∈ ks, l.length ≤ 1000000) :
    Calls Tryz.prog 143 #[.pointer (some ⟨s, 0, none⟩), .int .i64 t] w fun e w' => e = .returned (.int .i64 (sweepN t ks : Nat)) ∧
      ∃ vs', Sto P w' base s last vs' (ks.map (sweepL t)) ∧ Kept s vs vs' w w' := by
  have hld : w.rangeAt s 1 vs := fun j v hv => h.cell hv
  have hin : (Tryz.prog.info? 154).map (·.size) = some vs.length := by rw [info24, h.lv]
  go_enter Tryz.func143, Tryz.ntmps143
  go_wp2_with (refine wpList_load_mid (by rfl) 154 _ (by rfl) s 1 (by rfl) vs (.array 10 153) hld Tryz.underlying154 rfl hin ?_)
  clear hld hin
  go_loopw [5, 13] (fun n i wr => ∃ (k : Nat) (us : List Value), k ≤ 10 ∧ i = .int .i64 k ∧ n = .int .i64 (sweepN t (ks.take k) : Nat) ∧ Sto P wr base s last us (swept t k ks) ∧ Kept s vs us w wr ∧ us.drop k = vs.drop k) (fun _ i _ => 10 - (intOf i).toNat)
  case atStart => exact ⟨0, vs, by omega, rfl, by simp [sweepN], by simpa [swept] using h, Kept.refl _ _ _, rfl⟩
  case round =>
    obtain ⟨k, us, hk, rfl, rfl, hS, hK, hud⟩ := hrel
    have hsb : sweepN t (ks.take k) ≤ 10000000 := by
      have h1 := sweepN_bound t (ks.take k) 1000000 (fun l hl => hks l (List.mem_of_mem_take hl))
      have h2 : (ks.take k).length ≤ 10 := by simp; omega
      omega
    by_cases hlt : k < 10
    · obtain ⟨ad, cap, l, hv, hl, ho⟩ := hS.slice hlt
      have hv0 : vs[k]? = some (.slice ad l.length cap) := by
        have h1 : (us.drop k)[0]? = (vs.drop k)[0]? := by rw [hud]
        simp only [List.getElem?_drop, Nat.add_zero] at h1
        rw [← h1]; exact hv
      have hl0 : ks[k]? = some l := by
        have : ks.length = 10 := h.lk
        rw [← hl, swept, List.getElem?_append_right (by simp; omega)]
        simp
        rw [show k - min k ks.length = 0 from by omega, Nat.add_zero]
      have hix := run_key hv0 hlt
      have hll := hks l (List.mem_of_getElem? hl0)
      have hk1 : (k : Int) < 10 := by omega
      have hk0 : (0 : Int) ≤ (k : Int) := by omega
      have hvers := vers_of_owns ho
      have hlat := lat_lt l t l.length
      have hc := hS.cell hv
      have hf := hS.free (1 + k)
      have hslt := hS.lt
      have hsz := hK.size
      have hst : Hid (sweepN t (ks.take (k + 1)) = sweepN t (ks.take k) + (lat l t).toNat) := by
        show _ = _
        rw [List.take_add_one, hl0]
        exact sweepN_snoc _ _ _
      have hsw : Hid (swept t (k + 1) ks = (swept t k ks).set k (sweepL t l)) := swept_step t k ks l hl0
      by_cases hpos : 0 < lat l t
      · obtain ⟨m, hm⟩ : ∃ m : Nat, lat l t = m := ⟨(lat l t).toNat, by omega⟩
        have hml : m < l.length := by unfold lat at hm; omega
        have hm0 : 0 < m := by omega
        obtain ⟨g, rfl⟩ : ∃ g, ad = some ⟨g, 0, none⟩ := by
          rcases hvers with ⟨_, e⟩ | ⟨b, c, e, _⟩
          · subst e; simp at hml
          · simp at e; exact ⟨b, e.1⟩
        have HM : Hid (lat l t = m) := hm
        clear hm hpos hlat
        have hmi : (m : Int) ≤ (l.length : Int) := by omega
        have hmi0 : (0 : Int) < (m : Int) := by omega
        have hcap : l.length ≤ cap := by
          rcases ho.2 with ⟨e, _⟩ | ⟨_, _, _, e, _, _, h3, _⟩
          · simp at e
          · simp at e; omega
        have hlk := hl
        clear hl hl0 hv0
        have HUD : Hid (us.drop k = vs.drop k) := hud
        clear hud
        have HLK : Hid ((swept t k ks)[k]? = some l) := hlk
        clear hlk
        go_wp2_with (first | (go_at_call 152; refine (latest_any _ _ _ t l hll _ hvers).mono ?_; rintro e w1 ⟨rfl, hb1⟩; rw [HM.out]))
        have hS1 := hS.below hb1
        have hc1 := hS1.cell hv
        have hf1 := hS1.free (1 + k)
        have hs1 := hS1.lt
        have hz1 := hb1.size
        have hcm : ¬ cap = m := by omega
        have ho1 := hS1.own k _ l hv HLK.out
        have hnews : ∀ j u, (vrow (l.drop m))[j]? = some u → w1.drew.cell? ((⟨g, m * 2, none⟩ : Addr).add j) = some u := fun j u hu => by
          rw [← vrow_drop, List.getElem?_drop] at hu
          have := ho1.cells (g := g) rfl (m * 2 + j) u hu
          rw [addr_add] at this
          rw [Addr.add_mid]
          exact this
        have hone := vrow_one (l.drop m)
        have hnl : (vrow (l.drop m)).length = (l.length - m) * 2 := by rw [vrow_length, List.length_drop]
        have hpos : 0 < l.length - m := by omega
        have hle : l.length - m ≤ 1000000 := by omega
        have hbw : base ≤ w1.heap.size := by omega
        clear hc hf hslt hix hvers
        go_region_held3 (fun _ => True) (trivial) ((go_at_call 199; refine (clone_any base ⟨g, m * 2, none⟩ _ _ (vrow (l.drop m)) w1.drew hbw hpos hle hnl hnews hone).mono ?_; rintro e w2 ⟨gg, cap', rfl, hown2, hb2, hgg⟩; have hc2 : w2.cell? ⟨s, 1 + k, none⟩ = some (.slice (some ⟨g, 0, none⟩) l.length cap) := (hb2.cell (p := ⟨s, 1 + k, none⟩) hs1).trans hc1; have hf2 : w2.frozen? ⟨s, 1 + k, none⟩ = false := (hb2.frozen (p := ⟨s, 1 + k, none⟩) hs1).trans hf1))
        have hb2' : Below w1.heap.size w1 w2 := ⟨hb2.os, hb2.tape, hb2.output, hb2.size, hb2.block⟩
        have hgg' : w1.heap.size ≤ gg := hgg
        have hbb : Below wr.heap.size wr w2 := hb1.trans (hb2'.mono hz1)
        have hfin := put_grown hS hv (l.drop m) gg cap' (l.length - m) w2 (by simp) hown2 ⟨hbb.os, hbb.tape, hbb.output, hbb.size, fun b hb _ => hbb.block b hb⟩ (.inr (by omega))
        have HF : Hid _ := hfin
        clear hfin hbb hb2' hb2 hown2 hc2 hf2 hnews hone hnl hv ho ho1 hS hS1 hb1 hc1 hf1
        go_wp2
        go_roundw
        case rel =>
          refine ⟨k + 1, us.set k (.slice (some ⟨gg, 0, none⟩) (l.length - m) cap'), by omega, by go_num, ?_, ?_, hK.trans HF.out.2, ?_⟩
          · rw [hst.out, HM.out]; go_num
          · rw [hsw.out, sweepL, HM.out]; exact HF.out.1
          · rw [List.drop_set_of_lt (by omega)]
            have := congrArg (List.drop 1) HUD.out
            simpa [List.drop_drop, Nat.add_comm] using this
        case measure => simp [intOf]; omega
      · have hle : lat l t ≤ 0 := by omega
        have hz : (lat l t).toNat = 0 := by omega
        have HZ : Hid ((lat l t).toNat = 0) := hz
        have HUD : Hid (us.drop k = vs.drop k) := hud
        have HL : Hid ((swept t k ks)[k]? = some l) := hl
        clear hz hud hl hl0 hv0 hv hpos hlat ho
        generalize hq : lat l t = q at hle
        have HQ : Hid (lat l t = q) := hq
        clear hq
        go_wp2_with (first | (go_at_call 152; refine (latest_any _ _ _ t l hll _ hvers).mono ?_; rintro e w1 ⟨rfl, hb1⟩; rw [HQ.out]))
        go_roundw
        case rel =>
          refine ⟨k + 1, us, by omega, by go_num, ?_, ?_, hK.trans (Kept.of_below hb1), ?_⟩
          · rw [hst.out, HZ.out]; go_num
          · have e : (swept t k ks).set k (sweepL t l) = swept t k ks := by
              rw [sweepL, HZ.out, List.drop_zero]
              apply List.ext_getElem?
              intro j
              by_cases ej : j = k
              · subst ej; rw [List.getElem?_set_self (List.getElem?_eq_some_iff.1 HL.out).1, HL.out]
              · rw [List.getElem?_set_ne (by omega)]
            rw [hsw.out, e]
            exact hS.below hb1
          · have := congrArg (List.drop 1) HUD.out
            simpa [List.drop_drop, Nat.add_comm] using this
        case measure => simp [intOf]; omega
    · have e : ks.take k = ks := List.take_of_length_le (by rw [h.lk]; omega)
      have e2 : swept t k ks = ks.map (sweepL t) := by
        rw [swept, e, List.drop_eq_nil_of_le (by rw [h.lk]; omega), List.append_nil]
      rw [e2] at hS
      rw [e]
      clear e e2 hud
      go_wp2
      go_ret
      exact ⟨rfl, us, hS, hK⟩
end Go.Proofs.YtjefgmeejhakbaaGreatDoor
