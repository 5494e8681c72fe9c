/- base's writesOf: what a commit wrote, of its bytes. -/
import Derived.Test.YtjefgmeejhakbaaGreatDoorMgAM
import Derived.Test.YtjefgmeejhakbaaGreatDoorMgAA
namespace Go.Proofs.YtjefgmeejhakbaaGreatDoor
open Go.RowKit

theorem split_at {α : Type} {l : List α} {i : Nat} {p : α} (h : l[i]? = some p) : l = l.take i ++ p :: l.drop (i + 1) := by
  obtain ⟨h1, h2⟩ := List.getElem?_eq_some_iff.1 h
  rw [← h2, List.getElem_cons_drop, List.take_append_drop]
theorem rec_drop {ws : List (Int × Int)} {i : Nat} {a x : Int} (h : ws[i]? = some (a, x)) : ∃ r, (recP ws).drop (1 + 9 * i) = a :: (bytesN (valN x) 8 ++ r) := by
  have hi := (List.getElem?_eq_some_iff.1 h).1
  have hl : ((ws.take i).flatMap wrB).length = 9 * i := by rw [flat_len9, List.length_take]; omega
  refine ⟨(ws.drop (i + 1)).flatMap wrB ++ bytesN (sumN (headP ws)) 8, ?_⟩
  obtain ⟨s, hs⟩ : ∃ s, bytesN (sumN (headP ws)) 8 = s := ⟨_, rfl⟩
  unfold recP
  rw [hs]
  unfold headP
  rw [List.cons_append, Nat.add_comm, List.drop_succ_cons]
  conv => lhs; rw [split_at h]
  rw [List.flatMap_append, List.flatMap_cons, List.append_assoc, List.drop_append_of_le_length (by omega), List.drop_of_length_le (by omega), List.nil_append]
  unfold wrB
  simp
theorem rec_key {ws : List (Int × Int)} {i : Nat} {a x : Int} (h : ws[i]? = some (a, x)) : (recP ws)[1 + 9 * i]? = some a := by
  obtain ⟨r, hr⟩ := rec_drop h
  have := List.getElem?_drop (xs := recP ws) (i := 1 + 9 * i) (j := 0)
  rw [hr] at this
  simpa using this.symm
theorem rec_num {ws : List (Int × Int)} {i : Nat} {a x : Int} (h : ws[i]? = some (a, x)) : numN ((recP ws).drop (1 + 9 * i + 1)) 8 = valN x := by
  obtain ⟨r, hr⟩ := rec_drop h
  have : (recP ws).drop (1 + 9 * i + 1) = bytesN (valN x) 8 ++ r := by
    rw [← List.drop_drop, hr]
    rfl
  rw [this]
  exact number_bytes (valN_lt x) r
theorem val_back {x : Int} (h : I64 x) : IntKind.i64.wrap ((valN x : Nat) : Int) = x := by
  unfold I64 at h
  unfold valN
  rw [IntKind.wrap_i64]
  have h1 := Int.emod_nonneg x (show (18446744073709551616 : Int) ≠ 0 by decide)
  omega

set_option maxRecDepth 100000 in
set_option maxHeartbeats 1000000 in
theorem writesOf_any (g off cap : Nat) (ws : List (Int × Int)) (w : World) (hn : ws.length ≤ 10) (hx : ∀ p ∈ ws, I64 p.2) (hcap : (recP ws).length ≤ cap) (hg : g < w.heap.size) (hA : BytesAt w (some ⟨g, off, none⟩) (recP ws)) :
    Calls Tryz.prog 155 #[.slice (some ⟨g, off, none⟩) (recP ws).length cap] w fun e w' => ∃ v', e = .returned v' ∧ w'.ownsRow w.heap.size 78 2 v' ws.length (vrow ws) ∧ Below w.heap.size w w' := by
  obtain ⟨i0, hi0, hz0, hz1, hz2⟩ := info_parts info78
  have HA := hid hA
  have HX := hid hx
  rw [recP_len] at hcap ⊢
  obtain ⟨m, hm⟩ : ∃ m, ws.length = m := ⟨_, rfl⟩
  have c0 : w.cell? ⟨g, off, none⟩ = some (.int .u8 (m : Int)) := by
    obtain ⟨_, g', off', e, hc⟩ := hA 0 (m : Int) (by rw [← hm]; rfl)
    cases e
    rw [Nat.add_zero] at hc
    exact hc
  have HM := hid hm
  rw [hm] at hn hcap ⊢
  have gl0 : (0 : Int) < ((9 + 9 * m : Nat) : Int) := by omega
  clear hA hx hm
  go_enter Tryz.func155, Tryz.ntmps155
  go_wp2
  go_loopw [3, 10] (fun tv iv wr => ∃ i : Nat, iv = .int .i64 i ∧ i ≤ m ∧ Hid (wr.ownsRow w.heap.size 78 2 tv i (vrow (ws.take i)) ∧ Below w.heap.size w wr)) (fun _ iv _ => m - (intOf iv).toNat)
  case atStart => exact ⟨0, rfl, Nat.zero_le _, by simpa [vrow] using World.ownsRow_nil w w.heap.size 78 2, Below.refl _ _⟩
  case round =>
    obtain ⟨i, rfl, hi, HI⟩ := hrel
    by_cases hlt : i < m
    · obtain ⟨⟨a, x⟩, hax⟩ : ∃ p, ws[i]? = some p := ⟨_, List.getElem?_eq_getElem (by have := HM.out; omega)⟩
      have hB := HI.out.2
      have hbs := hB.size
      have hAr : BytesAt wr (some ⟨g, off, none⟩) (recP ws) := HA.out.same (fun ad hd => hB.cell (show ad.block < w.heap.size by
        have h5 : g = ad.block := by simpa using hd
        rw [← h5]
        exact hg))
      obtain ⟨hb, g', off', e, hck⟩ := hAr _ _ (rec_key hax)
      cases e
      have hvx := val_back (HX.out _ (List.mem_of_getElem? hax))
      have hck' : wr.cell? ⟨g, off + (1 + i * 9), none⟩ = some (.int .u8 a) := by rw [Nat.mul_comm i 9]; exact hck
      have hdr : BytesAt wr.drew (some ⟨g, off + (1 + i * 9) + 1, none⟩) ((recP ws).drop (1 + 9 * i + 1)) := by
        rw [Nat.mul_comm i 9, Nat.add_assoc]
        exact (hAr.drop (1 + 9 * i + 1)).same (fun _ _ => rfl)
      have hln : 9 ≤ 9 + 9 * m - (1 + i * 9) := by omega
      have hln2 : 9 + 9 * m - (1 + i * 9) ≤ cap - (1 + i * 9) := by omega
      have gm : IntKind.i64.wrap ((i : Int) * 9) = (i : Int) * 9 := IntWalk.i64_in _ (by omega)
      have gm2 : IntKind.i64.wrap (1 + (i : Int) * 9) = 1 + (i : Int) * 9 := IntWalk.i64_in _ (by omega)
      have gi1 : (i : Int) < (m : Int) := by omega
      have hnum := rec_num hax
      have hdl : 8 ≤ ((recP ws).drop (1 + 9 * i + 1)).length := by rw [List.length_drop, recP_len]; have := HM.out; omega
      have HR := hid HI.out.1
      have HB := hid hB
      have HAX := hid hax
      simp only at hvx
      clear hck hAr hax hB
      go_wp2
      obtain ⟨pp, hpp⟩ : ∃ pp, off + (1 + i * 9) = pp := ⟨_, rfl⟩
      obtain ⟨LL, hLL⟩ : ∃ LL, 9 + 9 * m - (1 + i * 9) = LL + 9 := ⟨9 + 9 * m - (1 + i * 9) - 9, by omega⟩
      obtain ⟨CC, hCC⟩ : ∃ CC, cap - (1 + i * 9) = LL + 9 + CC := ⟨cap - (1 + i * 9) - (LL + 9), by omega⟩
      rw [hpp] at hck' hdr
      rw [hpp, hLL, hCC]
      have HN := hid (fun (nn cc : Nat) (h8 : 8 ≤ nn) => bnumber_any (some ⟨g, pp + 1, none⟩) nn cc ((recP ws).drop (1 + 9 * i + 1)) wr.drew h8 hdr hdl)
      rw [hnum] at HN
      have hfar : some g ≠ u3.ownBlock := fun e => by have := (HR.out.lt g e.symm).1; omega
      have HFAR := hid hfar
      have hgr : g < wr.heap.size := by omega
      obtain ⟨vn, hvn⟩ : ∃ vn : Int, ((valN x : Nat) : Int) = vn := ⟨_, rfl⟩
      rw [hvn] at HN hvx
      clear hpp hLL hCC hdr hnum hdl gm gm2 hfar hvn hln hln2
      have gL0 : (0 : Int) < (LL : Int) + 9 := by omega
      have gL1 : (1 : Int) ≤ (LL : Int) + 9 := by omega
      have gL2 : (LL : Int) + 9 ≤ (LL : Int) + 9 + (CC : Int) := by omega
      have gL3 : 1 ≤ LL + 9 := by omega
      have gka : IntKind.i64.wrap a = a := IntWalk.i64_in _ (by omega)
      have gL4 : ¬ (LL + 9 + CC = 1) := by omega
      go_region_held3 (fun W => W.cell? ⟨g, pp, none⟩ = some (.int .u8 a))
        (first | go_keep | exact y0)
        (first
          | (go_at_call 209
             refine (HN.out _ _ (by omega)).mono ?_
             rintro e w4 ⟨rfl, rfl⟩
             have y0 := hck')
          | (refine step_append_lies _ (by rfl) (.tmp 18) (.tmp 28) 23 (by rfl) w.heap.size 78 i0 _ 2 16 Tryz.underlying23 hi0 hz0 hz1 hz2 rfl (by omega) u3 i (vrow (ws.take i)) (by rfl) ((HR.out.alloc _).drew) ⟨wr.heap.size, 0, none⟩ 1 1 [.int .i64 a, .int .i64 x] (by rfl) (by rfl) (World.news_of_block (cs := #[.int .i64 a, .int .i64 x]) (t := 78) (fr := (0, 0)) (heap_alloc_new wr _)) (by simp [Value.oneCell']) (by omega) (by unfold maxLen; omega) (by omega) (by simp; omega) (wr.heap.size + 1) (by simp) ?_
             intro gg cap' w5 hown5 hgrow hat hlt5
             have y0 : w5.cell? ⟨g, pp, none⟩ = some (.int .u8 a) := (World.cell?_of_block (a := ⟨g, pp, none⟩) ((hgrow.block g (by simp; omega) HFAR.out).trans (Below.heap_alloc wr _ g hgr))).trans hck')
          | fail)
      have HF := hid (And.intro (show w5.ownsRow w.heap.size 78 2 (.slice (some ⟨gg, 0, none⟩) (i + 1) cap') (i + 1) (vrow (ws.take (i + 1))) by
        rw [List.take_add_one, HAX.out]
        simp only [Option.toList_some]
        rw [vrow_append]
        exact hown5) (HB.out.trans ((((Below.refl _ wr).alloc (Nat.le_refl _) _).drew.mono hbs).grown hgrow (by simp; omega) (fun q e => (HR.out.lt q e).1))))
      clear hown5 hgrow hat y0
      go_wp2
      go_roundw
      case rel => exact ⟨i + 1, by go_num, by omega, HF.out⟩
      case measure => simp [intOf]; omega
    · obtain rfl : i = m := by omega
      have gi1 : ¬ (i : Int) < (i : Int) := by omega
      have h1 := HI.out
      rw [List.take_of_length_le (by have := HM.out; omega)] at h1
      have HF := hid h1
      clear h1
      go_wp2
      go_ret
      exact ⟨_, rfl, HF.out⟩

end Go.Proofs.YtjefgmeejhakbaaGreatDoor
