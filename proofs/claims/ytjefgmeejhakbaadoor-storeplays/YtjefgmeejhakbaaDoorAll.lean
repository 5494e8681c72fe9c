/- All: the store's, and the document's. -/
import Derived.Test.YtjefgmeejhakbaaDoorRefSweep
import Derived.Test.YtjefgmeejhakbaaDoorSwept
namespace Go.Proofs.YtjefgmeejhakbaaDoor
open Go.RowKit

/-- What is read of each of the first j keys. -/
def allTo (f : Nat → Option (Int × Int)) : Nat → List (Int × Int)
  | 0 => []
  | j + 1 => allTo f j ++ (match f j with | some p => [((j : Int), p.2)] | none => [])
theorem allTo_some (f : Nat → Option (Int × Int)) (j : Nat) (p : Int × Int) (h : f j = some p) : allTo f (j + 1) = allTo f j ++ [((j : Int), p.2)] := by simp [allTo, h]
theorem allTo_none (f : Nat → Option (Int × Int)) (j : Nat) (h : f j = none) : allTo f (j + 1) = allTo f j := by simp [allTo, h]
theorem allTo_length (f : Nat → Option (Int × Int)) : ∀ j, (allTo f j).length ≤ j
  | 0 => by simp [allTo]
  | j + 1 => by
    have := allTo_length f j
    rw [allTo]
    cases f j <;> simp <;> omega
theorem allTo_congr (f g : Nat → Option (Int × Int)) : ∀ j, (∀ k, k < j → f k = g k) → allTo f j = allTo g j
  | 0, _ => rfl
  | j + 1, h => by rw [allTo, allTo, h j (by omega), allTo_congr f g j (fun k hk => h k (by omega))]

/-- What is read of a key's versions. -/
def readP (t : Int) (l : List (Int × Int)) : Option (Int × Int) := if 0 ≤ lat l t then l[(lat l t).toNat]? else none
theorem readP_some (t : Int) (l : List (Int × Int)) (m : Nat) (a x : Int) (h : lat l t = m) (hx : l[m]? = some (a, x)) : readP t l = some (a, x) := by
  rw [readP, h, if_pos (by omega)]; simpa using hx
theorem readP_none (t : Int) (l : List (Int × Int)) (h : lat l t < 0) : readP t l = none := by rw [readP, if_neg (by omega)]

set_option maxRecDepth 100000 in
set_option maxHeartbeats 2000000 in
theorem refAll_any (base R : Nat) (t last : Int) (lv : Value) (L : List (Int × Int × Int)) (w : World) (hlen : L.length ≤ 100000) (h : Ref w base R last lv L) :
    Calls Tryd.prog 23 #[.pointer (some ⟨R, 0, none⟩), .int .i64 t] w fun e w' => ∃ tv, e = .returned tv ∧
      w'.ownsRow w.heap.size 64 2 tv (allTo (fun k => best k t L) 10).length (vrow (allTo (fun k => best k t L) 10)) ∧ Below w.heap.size w w' := by
  obtain ⟨i0, hi0, hz0, hz1, hz2⟩ := info_parts info64
  have HR := hid h
  clear h
  go_enter Tryd.func23, Tryd.ntmps23
  go_wp2
  go_loopw [5, 9] (fun tv i wr => ∃ j : Nat, j ≤ 10 ∧ i = .int .i64 j ∧ wr.ownsRow w.heap.size 64 2 tv (allTo (fun k => best k t L) j).length (vrow (allTo (fun k => best k t L) j)) ∧ Below w.heap.size w wr) (fun _ i _ => 10 - (intOf i).toNat)
  case atStart => exact ⟨0, by omega, rfl, by simpa [allTo, vrow] using World.ownsRow_nil w w.heap.size 64 2, Below.refl _ _⟩
  case round =>
    obtain ⟨j, hj, rfl, hown, hB⟩ := hrel
    have hBs := hB.size
    have hal := allTo_length (fun k => best k t L) j
    by_cases hlt : j < 10
    · have hj0 : (0 : Int) ≤ (j : Int) := by omega
      have hj1 : (j : Int) < 10 := by omega
      have hin : inB (j : Int) 0 9 = true := by simp [inB]; omega
      have HO := hid hown
      clear hown
      go_wp2_with fail
      refine (refRead_any base R j t last lv L wr hin hlen (HR.out.below hB)).mono ?_
      rintro e w1 ⟨rfl, hB1⟩
      have hBw := hB.trans (hB1.mono hBs)
      have hBws := hBw.size
      have HO1 := hid (owns_same HO.out (fun g e => hB1.block g (HO.out.lt g e).2))
      clear HO hB1 hB
      cases hb : best (j : Int) t L with
      | none =>
        have hst := hid (allTo_none (fun k => best k t L) j hb)
        have HBB := hid hb
        clear hb
        simp only [errOf, Option.getD_none]
        go_wp2
        go_roundw
        case rel => exact ⟨j + 1, by omega, by go_num, by rw [hst.out]; exact HO1.out.alloc _, hBw.alloc hBws _⟩
        case measure => simp [intOf]; omega
      | some p =>
        obtain ⟨p1, p2⟩ := p
        have hst := hid (allTo_some (fun k => best k t L) j (p1, p2) hb)
        have HBB := hid hb
        clear hb
        simp only [errOf, Option.getD_some]
        go_wp2_with (at_builtin; refine wpList_append_lies _ rfl _ _ _ rfl w.heap.size 64 i0 _ 2 16 Tryd.underlying31 hi0 hz0 hz1 hz2 rfl (by omega) u5 _ _ rfl ((HO1.out.alloc _).alloc _) ⟨w1.heap.size + 1, 0, none⟩ 1 1 [.int .i64 (j : Int), .int .i64 p2] rfl rfl (World.news_of_block (cs := #[.int .i64 (j : Int), .int .i64 p2]) (t := 64) (fr := (0, 0)) (by have := heap_alloc_new (w1.alloc (.cells #[.int .i64 p1, .int .i64 p2] 44)) (.cells #[.int .i64 (j : Int), .int .i64 p2] 64); simpa using this)) (by simp [Value.oneCell']) (by omega) (by unfold maxLen; omega) (by omega) (by simp; omega) (w1.heap.size + 1 + 1) (by simp) ?_; intro g' cap' w2 ho hgrow hat hlt2)
        go_roundw
        case rel =>
          refine ⟨j + 1, by omega, by go_num, ?_, ?_⟩
          · rw [hst.out, List.length_append, vrow_append]; exact ho
          · exact hBw.trans (((((Below.refl _ w1).alloc (Nat.le_refl _) _).alloc (by simp) _).mono hBws).grown hgrow (by simp; omega) (fun k e => (HO1.out.lt k e).1))
        case measure => simp [intOf]; omega
    · have hj10 : j = 10 := by omega
      subst hj10
      have HO := hid hown
      clear hown
      go_wp2
      go_ret
      exact ⟨_, rfl, HO.out, hB⟩

set_option maxRecDepth 100000 in
set_option maxHeartbeats 2000000 in
theorem all_any (base s : Nat) (last t : Int) (vs : List Value) (ks : List (List (Int × Int))) (w : World) (h : Sto w base s last vs ks) (hks : ∀ l ∈ ks, l.length ≤ 1000000) :
    Calls Tryd.prog 22 #[.pointer (some ⟨s, 0, none⟩), .int .i64 t] w fun e w' => ∃ tv, e = .returned tv ∧
      w'.ownsRow w.heap.size 64 2 tv (allTo (fun k => readP t (ks[k]?.getD [])) 10).length (vrow (allTo (fun k => readP t (ks[k]?.getD [])) 10)) ∧ Below w.heap.size w w' := by
  obtain ⟨i0, hi0, hz0, hz1, hz2⟩ := info_parts info64
  have hld : w.rangeAt s 1 vs := fun j v hv => h.cell hv
  have hin : (Tryd.prog.info? 24).map (·.size) = some vs.length := by rw [info24, h.lv]
  go_enter Tryd.func22, Tryd.ntmps22
  go_wp2_with (refine wpList_load_mid (by rfl) 24 _ (by rfl) s 1 (by rfl) vs (.array 10 23) hld Tryd.underlying24 rfl hin ?_)
  clear hld hin
  have HS := hid h
  clear h
  go_loopw [5, 13] (fun tv i wr => ∃ j : Nat, j ≤ 10 ∧ i = .int .i64 j ∧ wr.ownsRow w.heap.size 64 2 tv (allTo (fun k => readP t (ks[k]?.getD [])) j).length (vrow (allTo (fun k => readP t (ks[k]?.getD [])) j)) ∧ Below w.heap.size w wr) (fun _ i _ => 10 - (intOf i).toNat)
  case atStart => exact ⟨0, by omega, rfl, by simpa [allTo, vrow] using World.ownsRow_nil w w.heap.size 64 2, Below.refl _ _⟩
  case round =>
    obtain ⟨j, hj, rfl, hown, hB⟩ := hrel
    have hBs := hB.size
    have hal := allTo_length (fun k => readP t (ks[k]?.getD [])) j
    by_cases hlt : j < 10
    · obtain ⟨ad, cap, l, hv, hl, ho⟩ := HS.out.slice hlt
      have hix := run_key hv hlt
      have hll := hks l (List.mem_of_getElem? hl)
      have hj0 : (0 : Int) ≤ (j : Int) := by omega
      have hj1 : (j : Int) < 10 := by omega
      have hvers := (vers_of_owns ho).below hB
      have hvers2 : Vers wr.heap.size wr (.slice ad l.length cap) l := hvers.mono hBs
      have hlat := lat_bounds l t
      have hgd : Hid (ks[j]?.getD [] = l) := by show _ = _; rw [hl]; rfl
      have HO := hid hown
      have HV := hid hvers2
      clear hown hl hv ho hvers hvers2
      by_cases hpos : 0 ≤ lat l t
      · obtain ⟨m, hm⟩ : ∃ m : Nat, lat l t = m := ⟨(lat l t).toNat, by omega⟩
        have hml : m < l.length := by omega
        obtain ⟨⟨a, x⟩, hax⟩ : ∃ p, l[m]? = some p := ⟨l[m], List.getElem?_eq_getElem hml⟩
        have hst := hid (allTo_some (fun k => readP t (ks[k]?.getD [])) j (a, x) (by rw [hgd.out]; exact readP_some t l m a x hm hax))
        obtain ⟨g, rfl, hg, hrow⟩ : ∃ g, ad = some ⟨g, 0, none⟩ ∧ g < wr.heap.size ∧ Row wr g l := by
          rcases HV.out with ⟨_, e⟩ | ⟨b, c, e, h1, h2⟩
          · subst e; simp at hml
          · simp at e; exact ⟨b, e.1, h1, h2⟩
        obtain ⟨r1, r2⟩ := hrow m a x hax
        have HM := hid hm
        have hm0 : (0 : Int) ≤ (m : Int) := by omega
        have hm1 : (m : Int) < (l.length : Int) := by omega
        clear hax hm hpos hlat hrow
        go_wp2_with fail
        refine (latest_any _ _ _ t l hll wr HV.out).mono ?_
        rintro e w1 ⟨rfl, hB1⟩
        rw [HM.out]
        have hBw := hB.trans (hB1.mono hBs)
        have hBws := hBw.size
        have HO1 := hid (owns_same HO.out (fun g e => hB1.block g (HO.out.lt g e).2))
        have r1' := (hB1.cell (p := ⟨g, m * 2, none⟩) hg).trans r1
        have r2' := (hB1.cell (p := ⟨g, m * 2 + 1, none⟩) hg).trans r2
        clear HO hB1 hB r1 r2 HV
        go_wp2_with (at_builtin; refine wpList_append_lies _ rfl _ _ _ rfl w.heap.size 64 i0 _ 2 16 Tryd.underlying31 hi0 hz0 hz1 hz2 rfl (by omega) u5 _ _ rfl (HO1.out.alloc _) ⟨w1.heap.size, 0, none⟩ 1 1 [.int .i64 (j : Int), .int .i64 x] rfl rfl (World.news_of_block (cs := #[.int .i64 (j : Int), .int .i64 x]) (t := 64) (fr := (0, 0)) (heap_alloc_new w1 _)) (by simp [Value.oneCell']) (by omega) (by unfold maxLen; omega) (by omega) (by simp; omega) (w1.heap.size + 1) (by simp) ?_; intro g' cap' w2 ho hgrow hat hlt2)
        go_roundw
        case rel =>
          refine ⟨j + 1, by omega, by go_num, ?_, ?_⟩
          · rw [hst.out, List.length_append, vrow_append]; exact ho
          · exact hBw.trans ((((Below.refl _ w1).alloc (Nat.le_refl _) _).mono hBws).grown hgrow (by simp; omega) (fun k e => (HO1.out.lt k e).1))
        case measure => simp [intOf]; omega
      · have hst := hid (allTo_none (fun k => readP t (ks[k]?.getD [])) j (by rw [hgd.out]; exact readP_none t l (by omega)))
        obtain ⟨q, hq⟩ : ∃ q, lat l t = q := ⟨_, rfl⟩
        rw [hq] at hpos
        have HQ := hid hq
        clear hq hlat
        go_wp2_with fail
        refine (latest_any _ _ _ t l hll wr HV.out).mono ?_
        rintro e w1 ⟨rfl, hB1⟩
        rw [HQ.out]
        have hBw := hB.trans (hB1.mono hBs)
        have HO1 := hid (owns_same HO.out (fun g e => hB1.block g (HO.out.lt g e).2))
        clear HO hB1 hB HV
        go_wp2
        go_roundw
        case rel => exact ⟨j + 1, by omega, by go_num, by rw [hst.out]; exact HO1.out, hBw⟩
        case measure => simp [intOf]; omega
    · have hj10 : j = 10 := by omega
      subst hj10
      have HO := hid hown
      clear hown
      go_wp2
      go_ret
      exact ⟨_, rfl, HO.out, hB⟩

end Go.Proofs.YtjefgmeejhakbaaDoor
