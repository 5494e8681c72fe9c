/- The closure try of keep.OrderFair, where no line fits. -/
import Derived.Test.YtjefgmeejhakbaaDoorOfFits
import Derived.Test.YtjefgmeejhakbaaDoorOfApp
namespace Go.Proofs.YtjefgmeejhakbaaDoor
open Go.RowKit

/-- What try finds in memory. -/
structure TryEnv (w : World) (fb tb eb : Nat) (tv : Value) (E : List (Int × Int)) : Prop where
  f : w.cell? ⟨fb, 0, none⟩ = some (.func (.func 42) #[] #[.pointer (some ⟨eb, 0, none⟩)])
  t : w.cell? ⟨tb, 0, none⟩ = some (.func (.func 43) #[] #[.pointer (some ⟨fb, 0, none⟩), .pointer (some ⟨tb, 0, none⟩)])
  e : w.cell? ⟨eb, 0, none⟩ = some tv
  r : w.ownsRow 0 64 2 tv E.length (vrow E)
theorem TryEnv.below {w w' : World} {fb tb eb : Nat} {tv : Value} {E : List (Int × Int)} (h : TryEnv w fb tb eb tv E) (hB : Below w.heap.size w w') : TryEnv w' fb tb eb tv E :=
  ⟨(hB.cell (p := ⟨fb, 0, none⟩) (World.block_lt_of_cell? w _ h.f)).trans h.f, (hB.cell (p := ⟨tb, 0, none⟩) (World.block_lt_of_cell? w _ h.t)).trans h.t, (hB.cell (p := ⟨eb, 0, none⟩) (World.block_lt_of_cell? w _ h.e)).trans h.e, owns_same h.r (fun g e => hB.block g (h.r.lt g e).2)⟩

set_option maxRecDepth 100000 in
set_option maxHeartbeats 4000000 in
theorem try_any (E : List (Int × Int)) (hfits : ∀ p, fitsP E p = false) (h2 : ∀ e ∈ E, I64 e.1 ∧ I64 e.2) (hEn : E.length ≤ 10000) (fb tb eb : Nat) (tv : Value) : ∀ (n : Nat) (done left : List Int) (dv lv : Value) (w : World), left.length = n → done.length + left.length ≤ 100 → (∀ x ∈ done, I64 x) → (∀ x ∈ left, I64 x) →
    w.ownsRow 0 3 1 dv done.length (intsV done) → w.ownsRow 0 3 1 lv left.length (intsV left) → TryEnv w fb tb eb tv E →
    Calls Tryd.prog 43 #[dv, lv, .pointer (some ⟨fb, 0, none⟩), .pointer (some ⟨tb, 0, none⟩)] w fun e w' => e = .returned (.bool false) ∧ Below w.heap.size w w'
  | 0, done, left, dv, lv, w, hl, hdl, hd, hle, hD, hL, hE => by
    have : left = [] := List.eq_nil_of_length_eq_zero hl
    subst this
    obtain ⟨lad, lcap, rfl⟩ := row_form hL
    have HC := hid (fits_any 0 eb tv dv E done w (by omega) hEn hE.e hE.r (LineAt.of_row hD) hd h2)
    have cf := hE.f
    have HF := hid (hfits done)
    simp only [List.length_nil]
    clear hD hL hE hl hle hd hfits h2
    go_enter Tryd.func43, Tryd.ntmps43
    go_wp2_with fail
    refine HC.out.mono ?_
    rintro e w1 ⟨rfl, hB⟩
    rw [HF.out]
    have HB := hid hB
    clear hB
    go_wp2
    go_ret
    exact ⟨rfl, HB.out⟩
  | n + 1, done, left, dv, lv, w, hl, hdl, hd, hle, hD, hL, hE => by
    have hl1 : ¬ (left.length : Int) = 0 := by omega
    have hlb : ((left.length : Int) == 0) = false := by simpa using hl1
    rcases row_slice hL with ⟨_, e0⟩ | ⟨gl, lcap, rfl, hgl, hlc⟩
    · omega
    · have hlcap : left.length ≤ lcap := by
        rcases hL.2 with ⟨e, _⟩ | ⟨g, cap, cur, e, _, _, hle, _⟩
        · cases e
        · cases e; exact hle
      have HIH := hid (fun done' left' dv' lv' w' => try_any E hfits h2 hEn fb tb eb tv n done' left' dv' lv' w')
      have HLC := hid hlc
      have HD := hid hD
      have HL := hid hL
      have HE := hid hE
      have Hd := hid hd
      have Hle := hid hle
      have HLN := hid hl
      clear hD hL hE hd hle hlc hfits h2 hl
      go_enter Tryd.func43, Tryd.ntmps43
      go_wp2
      go_loopw [7] (fun iv wr => ∃ i : Nat, iv = .int .i64 i ∧ i ≤ left.length ∧ Below w.heap.size w wr) (fun iv _ => left.length - (intOf iv).toNat)
      case atStart => exact ⟨0, rfl, Nat.zero_le _, Below.refl _ _⟩
      case round =>
        obtain ⟨i, rfl, hi, hB⟩ := hrel
        obtain ⟨w0, hw0⟩ : ∃ w0, w0 = wr := ⟨_, rfl⟩
        subst hw0
        have hBs := hB.size
        have HB := hid hB
        by_cases hlt : i < left.length
        · obtain ⟨x, hx⟩ : ∃ x, left[i]? = some x := ⟨left[i], List.getElem?_eq_getElem hlt⟩
          have ct := (HE.out.below hB).t
          have cx : w0.cell? ⟨gl, i, none⟩ = some (.int .i64 x) := (hB.cell (p := ⟨gl, i, none⟩) hgl).trans (HLC.out i _ (intsV_get hx))
          have hi0 : (0 : Int) ≤ (i : Int) := by omega
          have hi1 : (i : Int) < (left.length : Int) := by omega
          have hi2 : (i : Int) ≤ (lcap : Int) := by omega
          have hi3 : (i : Int) + 1 ≤ (left.length : Int) := by omega
          have hi4 : (0 : Int) ≤ (i : Int) + 1 := by omega
          have hi5 : ((i : Int) + 1).toNat = i + 1 := by omega
          have hi6 : IntKind.i64.wrap ((i : Int) + 1) = (i : Int) + 1 := IntWalk.i64_in _ (by omega)
          have hi7 : (left.length : Int) ≤ (lcap : Int) := by omega
          have HS := hid (show ∀ W, Below w0.heap.size w0 W → W.cell? ⟨tb, 0, none⟩ = some (.func (.func 43) #[] #[.pointer (some ⟨fb, 0, none⟩), .pointer (some ⟨tb, 0, none⟩)]) ∧ W.cell? ⟨gl, i, none⟩ = some (.int .i64 x) from fun W hW => ⟨(hW.cell (p := ⟨tb, 0, none⟩) (World.block_lt_of_cell? w0 _ ct)).trans ct, (hW.cell (p := ⟨gl, i, none⟩) (World.block_lt_of_cell? w0 _ cx)).trans cx⟩)
          have HSD := hid (show ∀ W, Below w0.heap.size w0 W → SrcAt W dv done from fun W hW => SrcAt.of_row (owns_same HD.out (fun g e => (hW.block g (Nat.lt_of_lt_of_le (HD.out.lt g e).2 hBs)).trans (hB.block g (HD.out.lt g e).2))))
          have HXM := hid (List.mem_of_getElem? hx)
          clear hB hx
          have hdr : (left.drop (i + 1)).length = left.length - (i + 1) := List.length_drop ..
          have htk : (left.take i).length = i := by rw [List.length_take]; omega
          have HSL1 := hid (show ∀ W, Below w0.heap.size w0 W → SrcAt W (.slice (some ⟨gl, 0, none⟩) i lcap) (left.take i) from fun W hW => .inr ⟨⟨gl, 0, none⟩, lcap, by rw [htk], fun j u hu => by
            rw [addr_add]
            have hj : j < i := by
              rcases Nat.lt_or_ge j i with h | h
              · exact h
              · rw [List.getElem?_eq_none (by rw [intsV_length, htk]; exact h)] at hu; cases hu
            refine (hW.cell (p := ⟨gl, j, none⟩) (Nat.lt_of_lt_of_le hgl hBs)).trans ((HB.out.cell (p := ⟨gl, j, none⟩) hgl).trans (HLC.out j u ?_))
            simp only [intsV, List.map_take, List.getElem?_take, hj, if_true] at hu
            exact hu⟩)
          obtain ⟨A, hA, hnews⟩ : ∃ A : Addr, (if lcap = i + 1 then some (⟨gl, 0, none⟩ : Addr) else some ⟨gl, i + 1, none⟩) = some A ∧ Hid (∀ W, Below w0.heap.size w0 W → SrcAt W (.slice (some A) (left.length - (i + 1)) (lcap - (i + 1))) (left.drop (i + 1))) := by
            by_cases hcap : lcap = i + 1
            · refine ⟨⟨gl, 0, none⟩, by rw [if_pos hcap], fun W hW => .inr ⟨_, _, by rw [hdr], fun j u hu => ?_⟩⟩
              have e0 : left.drop (i + 1) = [] := List.eq_nil_of_length_eq_zero (by rw [hdr]; omega)
              rw [e0] at hu
              simp [intsV] at hu
            · refine ⟨⟨gl, i + 1, none⟩, by rw [if_neg hcap], fun W hW => .inr ⟨_, _, by rw [hdr], fun j u hu => ?_⟩⟩
              rw [Addr.add_lit]
              refine (hW.cell (p := ⟨gl, i + 1 + j, none⟩) (Nat.lt_of_lt_of_le hgl hBs)).trans ((HB.out.cell (p := ⟨gl, i + 1 + j, none⟩) hgl).trans (HLC.out (i + 1 + j) u ?_))
              simp only [intsV, List.map_drop, List.getElem?_drop] at hu
              exact hu
          have HTE := hid (show ∀ W, Below w0.heap.size w0 W → TryEnv W fb tb eb tv E from fun W hW => HE.out.below (HB.out.trans (hW.mono hBs)))
          have hlen := HLN.out
          have HLEN := hid (show (left.take i ++ left.drop (i + 1)).length = n by rw [List.length_append, htk, hdr]; omega)
          have Hx := hid (show ∀ y ∈ done ++ [x], I64 y from fun y hy => by
            rcases List.mem_append.1 hy with h | h
            · exact Hd.out y h
            · rw [List.mem_singleton.1 h]; exact Hle.out x HXM.out)
          have Hy := hid (show ∀ y ∈ left.take i ++ left.drop (i + 1), I64 y from fun y hy => by
            rcases List.mem_append.1 hy with h | h
            · exact Hle.out y (List.mem_of_mem_take h)
            · exact Hle.out y (List.mem_of_mem_drop h))
          have hdn : done.length + 1 + n ≤ 100 := by omega
          clear hlen
          go_wp2
          go_region_held3 (fun W => W.cell? ⟨tb, 0, none⟩ = some (.func (.func 43) #[] #[.pointer (some ⟨fb, 0, none⟩), .pointer (some ⟨tb, 0, none⟩)]) ∧ W.cell? ⟨gl, i, none⟩ = some (.int .i64 x))
            (first
              | exact HS.out _ (by repeat (first | with_reducible exact Below.refl _ _ | with_reducible exact hBB5 | with_reducible exact hBB4 | with_reducible exact hBB3 | with_reducible exact hBB2 | with_reducible exact hBB1 | with_reducible refine bA ?_ _ | with_reducible refine bD ?_))
              | go_keep
              | exact sK5
              | exact sK4
              | exact sK3
              | exact sK2
              | exact sK1
              | fail)
            (first
              | (refine step_app (by rfl) (.tmp 21) (.tmp 22) (by rfl) w0.heap.size _ _ _ [] done _ (by rfl) (by rfl) rfl (empty_row (by repeat (first | ((with_reducible refine heap_at ?hat); case hat => (first | omega | (simp; omega) | (simp; done))) | ((with_reducible refine heap_old ?_ ?hlt); case hlt => (first | omega | (simp; omega) | (simp; done))) | (with_reducible refine heap_dr ?_) | ((with_reducible refine HK2.out _ _ ?_ ?hne); case hne => (first | omega | (simp; omega) | (simp; done))) | ((with_reducible refine HK1.out _ _ ?_ ?hne); case hne => (first | omega | (simp; omega) | (simp; done))))) (by first | omega | (simp; omega) | simp)) (HSD.out _ (by repeat (first | with_reducible exact Below.refl _ _ | with_reducible exact hBB3 | with_reducible exact hBB2 | with_reducible exact hBB1 | with_reducible refine bA ?_ _ | with_reducible refine bD ?_))) (by simp; omega) (by first | omega | (simp; omega) | simp) ?_
                 intro g1 cap1 w1 hown1 hgrow1 hat1
                 simp only [List.nil_append, List.length_nil, Nat.zero_add] at hown1 ⊢
                 have hBB1 : Below w0.heap.size w0 w1 := (show Below w0.heap.size w0 _ from (by repeat (first | with_reducible exact Below.refl _ _ | with_reducible exact hBB3 | with_reducible exact hBB2 | with_reducible exact hBB1 | with_reducible refine bA ?_ _ | with_reducible refine bD ?_))).grown hgrow1 (by first | omega | (simp; omega) | simp) (fun k e => by injection e with e; first | omega | (simp at e; omega))
                 have sK1 := HS.out w1 hBB1
                 have HK1 := hid (fun (b : Nat) (cs : Array Value) (hb : _ = some (Obj.cells cs 3 (0, 0))) (hne : b ≠ _) => (hgrow1.block b (Array.getElem?_eq_some_iff.1 hb).1 (fun e => hne (by injection e))).trans hb)
                 have hs1 := hgrow1.size
                 have hr1 := row_lt hown1
                 try simp only [World.size_alloc, World.size_drew] at hs1 hat1
                 clear hgrow1)
              | (refine step_app (by rfl) (.tmp 23) (.tmp 28) (by rfl) w0.heap.size _ _ _ done [x] _ (by rfl) (by rfl) rfl (by repeat (first | with_reducible exact hown1 | with_reducible refine rA ?_ _ | with_reducible refine rD ?_)) (SrcAt.of_block (by repeat (first | ((with_reducible refine heap_at ?hat); case hat => (first | omega | (simp; omega) | (simp; done))) | ((with_reducible refine heap_old ?_ ?hlt); case hlt => (first | omega | (simp; omega) | (simp; done))) | (with_reducible refine heap_dr ?_) | ((with_reducible refine HK2.out _ _ ?_ ?hne); case hne => (first | omega | (simp; omega) | (simp; done))) | ((with_reducible refine HK1.out _ _ ?_ ?hne); case hne => (first | omega | (simp; omega) | (simp; done)))))) (by simp; omega) (by first | omega | (simp; omega) | simp) ?_
                 intro g2 cap2 w2 hown2 hgrow2 hat2
                 have hBB2 : Below w0.heap.size w0 w2 := (show Below w0.heap.size w0 _ from (by repeat (first | with_reducible exact Below.refl _ _ | with_reducible exact hBB3 | with_reducible exact hBB2 | with_reducible exact hBB1 | with_reducible refine bA ?_ _ | with_reducible refine bD ?_))).grown hgrow2 (by first | omega | (simp; omega) | simp) (fun k e => by injection e with e; omega)
                 have sK2 := HS.out w2 hBB2
                 have HK2 := hid (fun (b : Nat) (cs : Array Value) (hb : _ = some (Obj.cells cs 3 (0, 0))) (hne : b ≠ g1) => (hgrow2.block b (Array.getElem?_eq_some_iff.1 hb).1 (fun e => hne (by injection e))).trans hb)
                 have hs2 := hgrow2.size
                 have hr2 := row_lt hown2
                 try simp only [World.size_alloc] at hs2
                 clear hgrow2)
              | (refine step_app0 (by rfl) (.tmp 30) (.tmp 33) (by rfl) w0.heap.size _ _ _ _ (left.take i) (done ++ [x]) _ (by rfl) (by rfl) (by repeat (first | ((with_reducible refine heap_at ?hat); case hat => (first | omega | (simp; omega) | (simp; done))) | ((with_reducible refine heap_old ?_ ?hlt); case hlt => (first | omega | (simp; omega) | (simp; done))) | (with_reducible refine heap_dr ?_) | ((with_reducible refine HK2.out _ _ ?_ ?hne); case hne => (first | omega | (simp; omega) | (simp; done))) | ((with_reducible refine HK1.out _ _ ?_ ?hne); case hne => (first | omega | (simp; omega) | (simp; done))))) (by first | omega | (simp; omega) | simp) (by repeat (first | with_reducible exact hown2 | with_reducible refine rA ?_ _ | with_reducible refine rD ?_)) (by simp) (HSL1.out _ (by repeat (first | with_reducible exact Below.refl _ _ | with_reducible exact hBB3 | with_reducible exact hBB2 | with_reducible exact hBB1 | with_reducible refine bA ?_ _ | with_reducible refine bD ?_))) (by rw [htk]; omega) (by first | omega | (simp; omega) | simp) ?_
                 intro g3 cap3 w3 hown3 hown23 hgrow3 hne3
                 have hBB3 : Below w0.heap.size w0 w3 := (show Below w0.heap.size w0 _ from (by repeat (first | with_reducible exact Below.refl _ _ | with_reducible exact hBB3 | with_reducible exact hBB2 | with_reducible exact hBB1 | with_reducible refine bA ?_ _ | with_reducible refine bD ?_))).grown hgrow3 (by first | omega | (simp; omega) | simp) (fun k e => by injection e with e; first | omega | (simp at e; omega))
                 have sK3 := HS.out w3 hBB3
                 have hs3 := hBB3.size
                 have hr3 := row_lt hown3
                 clear hgrow3)
              | (refine step_app1 (by rfl) (.tmp 34) (.tmp 38) (by rfl) w0.heap.size _ _ _ _ _ _ (left.take i) (left.drop (i + 1)) (done ++ [x]) _ (by rfl) (by rfl) rfl hown3 hown23 hne3 (hnews.out _ hBB3) (by rw [htk, hdr]; omega) hs3 ?_
                 intro g4 cap4 w4 hown4 hown24 hgrow4
                 have hBB4 : Below w0.heap.size w0 w4 := hBB3.grown hgrow4 hs3 (fun k e => by injection e with e; omega)
                 have sK4 := HS.out w4 hBB4
                 clear hgrow4)
              | (go_at_call 43
                 refine (HIH.out (done ++ [x]) (left.take i ++ left.drop (i + 1)) _ _ _ HLEN.out (by rw [HLEN.out, List.length_append]; simpa using hdn) Hx.out Hy.out (owns_base hown24 (Nat.zero_le _)) (owns_base (by simpa [htk, hdr] using hown4) (Nat.zero_le _)) (HTE.out _ hBB4)).mono ?_
                 rintro e w5 ⟨rfl, hB5⟩
                 have hBB5 := hBB4.trans (hB5.mono hBB4.size)
                 have sK5 := HS.out w5 hBB5
                 clear hB5)
              | fail)
          all_goals
            have HBF := hid (HB.out.trans (hBB5.mono hBs))
            clear hBB5 sK5
            go_wp2
            go_roundw
            case rel => exact ⟨i + 1, by go_num, by omega, HBF.out⟩
            case measure => simp [intOf]; omega
        · have hi1 : ¬ (i : Int) < (left.length : Int) := by omega
          clear hB
          go_wp2
          go_ret
          exact ⟨rfl, HB.out⟩

end Go.Proofs.YtjefgmeejhakbaaDoor
