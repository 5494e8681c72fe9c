/- base's Disk.write: a place has a commit's bytes, or some of them. -/
import Derived.Test.YtjefgmeejhakbaaGreatDoorBsWritten
import Derived.WalkLawsBesides
namespace Go.Proofs.YtjefgmeejhakbaaGreatDoor
open Go.RowKit

theorem run_eql_nil8 (w : World) (a : Option Addr) (l c : Nat) : (binOp .eql 93 (.slice a l c) (.slice none 0 0)).run Tryz.prog w = .ok (.bool a.isNone) w := by
  simp [binOp, run_equal_slice_nil w 93 5 a l c Tryz.underlying93]
attribute [local go_sem] run_eql_nil8

set_option maxRecDepth 100000 in
set_option maxHeartbeats 1000000 in
theorem clone8_any (g off cap : Nat) (l : List Int) (w : World) (hn : l.length ≤ 10000) (hA : BytesAt w (some ⟨g, off, none⟩) l) :
    Calls Tryz.prog 210 #[.slice (some ⟨g, off, none⟩) l.length cap] w fun e w' => ∃ vad vcap, e = .returned (.slice vad l.length vcap) ∧ BytesV w' (.slice vad l.length vcap) l ∧ (∀ k, (Value.slice vad l.length vcap).ownBlock = some k → w.heap.size ≤ k) ∧ Below w.heap.size w w' := by
  obtain ⟨i0, hi0, hz0, hz1, hz2⟩ := info_parts info5
  have hown : (w.alloc (.cells #[] 5)).ownsRow w.heap.size 5 1 (.slice (some ⟨w.heap.size, 0, none⟩) 0 0) 0 [] := World.ownsRow_made w #[] 0 (Nat.le_refl _) (by simp [maxLen]) rfl
  by_cases h0 : l.length = 0
  · have hz := run_append_zeroW (w := w.alloc (.cells #[] 5)) (ty := 93) Tryz.underlying93 hi0 hown ⟨g, off, none⟩ cap
    obtain rfl : l = [] := List.eq_nil_of_length_eq_zero h0
    clear hA
    go_enter Tryz.func210, Tryz.ntmps210
    go_wp2
    go_ret
    exact ⟨_, _, rfl, ⟨fun k hk => by cases hk; simp, _, _, rfl, Nat.zero_le _, fun i x hx => by cases hx⟩, fun k hk => by cases hk; exact Nat.le_refl _, (Below.refl _ w).alloc (Nat.le_refl _) _⟩
  · have hn2 : ∀ j u, (u8V l)[j]? = some u → (w.alloc (.cells #[] 5)).cell? ((⟨g, off, none⟩ : Addr).add j) = some u := fun j u hu => by
      unfold u8V at hu
      rw [List.getElem?_map] at hu
      obtain ⟨x, hx, rfl⟩ := Option.map_eq_some_iff.1 hu
      obtain ⟨_, g', off', e, hc⟩ := hA j x hx
      cases e
      rw [Addr.add_mid]
      exact ((World.grownBy_alloc w (.cells #[] 5) none).cell hc (by simp))
    have h1 : ∀ u ∈ u8V l, u.oneCell' = true := fun u hu => by
      obtain ⟨x, _, rfl⟩ := List.mem_map.1 hu
      rfl
    have hl8 : (u8V l).length = l.length * 1 := by simp [u8V]
    go_enter Tryz.func210, Tryz.ntmps210
    go_wp2_with (at_builtin; refine wpList_append_lies _ rfl _ _ _ rfl w.heap.size 5 i0 _ 1 1 Tryz.underlying93 hi0 hz0 hz1 hz2 rfl (by omega) _ 0 [] rfl hown ⟨g, off, none⟩ l.length cap (u8V l) rfl hl8 hn2 h1 (by omega) (by unfold maxLen; omega) (by omega) (by simp) (w.heap.size + 1) (by simp) ?_; intro gg cap' w1 ho hgrow hat hlt2)
    go_ret
    rw [Nat.zero_add] at ho
    have hgrow2 : (w.alloc (.cells #[] 5)).grownBy w1 (some w.heap.size) := hgrow
    exact ⟨_, _, rfl, bytesV_own ho, fun k hk => (ho.lt k hk).1, ((Below.refl _ w).alloc (Nat.le_refl _) _).grown hgrow2 (by simp) (fun k e => by cases e; exact Nat.le_refl _)⟩

/-- There is power for a write. -/
def powerB (D : Dsk) : Bool := !D.cut || decide (D.left > 0)
/-- A place has bytes, or some of them, if there is no power. -/
def writeD (D : Dsk) (place : Nat) (l : List Int) (torn : Int) : Dsk :=
  if powerB D = true then { pl := D.pl.set place l, cut := D.cut, left := if D.cut = true then D.left - 1 else D.left }
  else { D with pl := D.pl.set place (l.take (min torn (l.length - 1)).toNat) }
section
variable {w : World} {d : Nat} {dv : List Value} {D : Dsk}
theorem DiskAt.free (h : DiskAt w d dv D) (o : Nat) : w.frozen? ⟨d, o, none⟩ = false := by simp [World.frozen?, h.blk]
theorem DiskAt.not8 (h : DiskAt w d dv D) {g o : Nat} {x : Int} (hc : w.cell? ⟨g, o, none⟩ = some (.int .u8 x)) : g ≠ d := fun e => by
  subst e
  have h1 := (cell_of_row w g o _ _ (0, 0) h.blk).symm.trans hc
  rw [List.getElem?_toArray] at h1
  by_cases ho : o < 250
  · obtain ⟨v, l, hv, hl, _⟩ := h.get ho
    rw [List.getElem?_append_left (by rw [h.lv]; exact ho), hv] at h1
    obtain ⟨_, ad, cap, e, _⟩ := h.row o v l hv hl
    rw [e] at h1
    cases h1
  · rw [List.getElem?_append_right (by rw [h.lv]; omega), h.lv] at h1
    by_cases e0 : o = 250
    · subst e0; simp at h1
    · by_cases e1 : o = 251
      · subst e1; simp at h1
      · rw [List.getElem?_eq_none (by simp; omega)] at h1
        cases h1
theorem DiskAt.setBlk (h : DiskAt w d dv D) {o : Nat} {v : Value} {dv' : List Value} {D' : Dsk} (hb : (dv ++ [Value.bool D.cut, Value.int .i64 D.left]).toArray.setIfInBounds o v = (dv' ++ [Value.bool D'.cut, Value.int .i64 D'.left]).toArray) (hlv : dv'.length = 250) (hlp : D'.pl.length = 250)
    (hr : ∀ (i : Nat) (u : Value) (l : List Int), dv'[i]? = some u → D'.pl[i]? = some l → BytesV w u l) (hf : ∀ l ∈ D'.pl, l.length ≤ 200 ∧ ∀ x ∈ l, 0 ≤ x ∧ x < 256) : DiskAt (w.setCell ⟨d, o, none⟩ v) d dv' D' :=
  ⟨(setCell_at h.blk).trans (by rw [hb]), hlv, hlp, fun i u l hu hl => (hr i u l hu hl).same (by simp) (fun g _ _ _ hc => heap_setCell_other _ _ _ _ (h.not8 hc)), hf⟩
theorem DiskAt.setLeft (h : DiskAt w d dv D) (n : Int) : DiskAt (w.setCell ⟨d, 251, none⟩ (.int .i64 n)) d dv { D with left := n } := by
  refine h.setBlk ?_ h.lv h.lp h.row h.fin
  rw [List.setIfInBounds_toArray, List.set_append_right _ _ (by rw [h.lv]; omega), h.lv]
  rfl
theorem DiskAt.setCut (h : DiskAt w d dv D) (b : Bool) : DiskAt (w.setCell ⟨d, 250, none⟩ (.bool b)) d dv { D with cut := b } := by
  refine h.setBlk ?_ h.lv h.lp h.row h.fin
  rw [List.setIfInBounds_toArray, List.set_append_right _ _ (by rw [h.lv]; omega), h.lv]
  rfl
theorem DiskAt.setPlace (h : DiskAt w d dv D) {i : Nat} (hi : i < 250) {v : Value} {l : List Int} (hv : BytesV w v l) (hl : l.length ≤ 200 ∧ ∀ x ∈ l, 0 ≤ x ∧ x < 256) : DiskAt (w.setCell ⟨d, i, none⟩ v) d (dv.set i v) { D with pl := D.pl.set i l } := by
  refine h.setBlk ?_ (by rw [List.length_set]; exact h.lv) (by show (D.pl.set i l).length = 250; rw [List.length_set]; exact h.lp) (fun j u m hu hm => ?_) (fun m hm => ?_)
  · rw [List.setIfInBounds_toArray, List.set_append_left _ _ (by rw [h.lv]; exact hi)]
  · have hm : (D.pl.set i l)[j]? = some m := hm
    by_cases e : j = i
    · subst e
      rw [List.getElem?_set_self (by rw [h.lv]; exact hi)] at hu
      rw [List.getElem?_set_self (by rw [h.lp]; exact hi)] at hm
      cases hu
      cases hm
      exact hv
    · rw [List.getElem?_set_ne (fun h => e h.symm)] at hu hm
      exact h.row j u m hu hm
  · rcases List.mem_or_eq_of_mem_set (show m ∈ D.pl.set i l from hm) with hm | rfl
    · exact h.fin m hm
    · exact hl
theorem dOwn_set {i m : Nat} {v : Value} {n : Nat} (hv : ∀ k, v.ownBlock = some k → n ≤ k) (hm : m ≤ n) : ∀ g, dOwn d (dv.set i v) g → dOwn d dv g ∨ m ≤ g := fun g hg => by
  rcases hg with rfl | ⟨j, u, hu, hg⟩
  · exact .inl (.inl rfl)
  · by_cases e : j = i
    · subst e
      by_cases hj : j < dv.length
      · rw [List.getElem?_set_self hj] at hu
        cases hu
        exact .inr (Nat.le_trans hm (hv g hg))
      · rw [List.getElem?_eq_none (by rw [List.length_set]; omega)] at hu
        cases hu
    · rw [List.getElem?_set_ne (fun h => e h.symm)] at hu
      exact .inl (.inr ⟨j, u, hu, hg⟩)
theorem DiskAt.cellCut (h : DiskAt w d dv D) : w.cell? ⟨d, 250, none⟩ = some (.bool D.cut) := by
  refine (cell_of_row w d 250 _ _ (0, 0) h.blk).trans ?_
  rw [List.getElem?_toArray, List.getElem?_append_right (by rw [h.lv]; omega), h.lv]
  rfl
theorem DiskAt.cellLeft (h : DiskAt w d dv D) : w.cell? ⟨d, 251, none⟩ = some (.int .i64 D.left) := by
  refine (cell_of_row w d 251 _ _ (0, 0) h.blk).trans ?_
  rw [List.getElem?_toArray, List.getElem?_append_right (by rw [h.lv]; omega), h.lv]
  rfl
end

set_option maxRecDepth 100000 in
set_option maxHeartbeats 1000000 in
theorem dwrite_power {w : World} {d : Nat} {dv : List Value} {D : Dsk} (h : DiskAt w d dv D) {place : Nat} (hp : place < 250) {l : List Int} {g off cap : Nat} (hl : 0 < l.length ∧ l.length ≤ 200) (hA : BytesAt w (some ⟨g, off, none⟩) l) (hleft : I64 (D.left - 1)) (torn : Int) (hpw : powerB D = true) :
    Calls Tryz.prog 156 #[.pointer (some ⟨d, 0, none⟩), .int .i64 (place : Int), .slice (some ⟨g, off, none⟩) l.length cap, .int .i64 torn] w fun e w' => e = .returned (.bool true) ∧ (∃ dv', DiskAt w' d dv' (writeD D place l torn) ∧ ∀ g, dOwn d dv' g → dOwn d dv g ∨ w.heap.size ≤ g) ∧ (w.heap.size ≤ w'.heap.size ∧ w'.os = w.os ∧ w'.tape = w.tape ∧ w'.output = w.output) ∧ ∀ k, k < w.heap.size → k ≠ d → w'.heap[k]? = w.heap[k]? := by
  have hcut := h.cellCut
  have hlft := h.cellLeft
  have hf1 := h.free 251
  have gp0 : (0 : Int) ≤ (place : Int) := by omega
  have gp1 : (place : Int) < 250 := by omega
  have hfin : ∀ x ∈ l, 0 ≤ x ∧ x < 256 := fun x hx => by
    obtain ⟨i, hi, e⟩ := List.getElem_of_mem hx
    exact (hA i x (by rw [List.getElem?_eq_getElem hi, e])).1
  by_cases hct : D.cut = true
  · rw [hct] at hcut
    have hlf : D.left > 0 := by unfold powerB at hpw; rw [hct] at hpw; simpa using hpw
    have glf : decide (D.left > 0) = true := by simpa using hlf
    have gw : IntKind.i64.wrap (D.left - 1) = D.left - 1 := IntWalk.i64_in _ hleft
    obtain ⟨w1, hw1⟩ : ∃ w1, w.setCell ⟨d, 251, none⟩ (.int .i64 (D.left - 1)) = w1 := ⟨_, rfl⟩
    have hD1 : DiskAt w1 d dv { D with left := D.left - 1 } := by rw [← hw1]; exact h.setLeft _
    have hk1 : ∀ k, k ≠ d → w1.heap[k]? = w.heap[k]? := fun k hk => by rw [← hw1]; exact heap_setCell_other _ _ _ _ hk
    have hs1 : w1.heap.size = w.heap.size := by rw [← hw1]; simp
    have hA1 : BytesAt w1 (some ⟨g, off, none⟩) l := fun i x hx => by
      obtain ⟨hb, g', off', e, hc⟩ := hA i x hx
      cases e
      exact ⟨hb, g, off, rfl, (World.cell?_of_block (a := ⟨g, off + i, none⟩) (hk1 g (h.not8 hc))).trans hc⟩
    have HC := hid (clone8_any g off cap l w1.drew (by omega) (hA1.same (fun _ _ => rfl)))
    have HF := hid (And.intro hD1 (And.intro hk1 (And.intro hs1 (And.intro hfin (show w1.os = w.os ∧ w1.tape = w.tape ∧ w1.output = w.output by rw [← hw1]; exact ⟨rfl, rfl, rfl⟩)))))
    have HW1 := hid hw1
    have hwd : writeD D place l torn = { pl := D.pl.set place l, cut := D.cut, left := D.left - 1 } := by unfold writeD; rw [if_pos hpw, if_pos hct]
    rw [hwd]
    clear hA hA1 hD1 hk1 hs1 hfin hw1 hwd
    go_enter Tryz.func156, Tryz.ntmps156
    go_wp2
    rw [HW1.out]
    go_region_held3 (fun _ => True) (trivial) ((go_at_call 210; refine HC.out.mono ?_; rintro e w2 ⟨vad, vcap, rfl, hv, hvo, hB⟩; obtain ⟨v0, l0, hv0, hl0, hc0⟩ := (HF.out.1.below (show Below w1.heap.size w1 w2 from ⟨hB.os, hB.tape, hB.output, hB.size, hB.block⟩)).get hp; have hf0 := (HF.out.1.below (show Below w1.heap.size w1 w2 from ⟨hB.os, hB.tape, hB.output, hB.size, hB.block⟩)).free place))
    have HB := hid (show Below w1.heap.size w1 w2 from ⟨hB.os, hB.tape, hB.output, hB.size, hB.block⟩)
    have HV := hid hv
    have HVO := hid hvo
    clear hB hv hvo
    go_wp2
    go_ret
    refine ⟨rfl, ⟨_, (HF.out.1.below HB.out).setPlace hp HV.out ⟨hl.2, HF.out.2.2.2.1⟩, dOwn_set HVO.out (by rw [show w1.drew.heap.size = w1.heap.size from rfl, HF.out.2.2.1]; exact Nat.le_refl _)⟩, ⟨by simp; have := HB.out.size; have := HF.out.2.2.1; omega, HB.out.os.trans HF.out.2.2.2.2.1, HB.out.tape.trans HF.out.2.2.2.2.2.1, HB.out.output.trans HF.out.2.2.2.2.2.2⟩, fun k hk hkd => ?_⟩
    rw [heap_setCell_other _ _ _ _ hkd, HB.out.block k (by rw [HF.out.2.2.1]; exact hk), HF.out.2.1 k hkd]
  · have hct' : D.cut = false := by simpa using hct
    rw [hct'] at hcut
    have HC := hid (clone8_any g off cap l w.drew (by omega) (hA.same (fun _ _ => rfl)))
    have HF := hid (And.intro h hfin)
    have hwd : writeD D place l torn = { pl := D.pl.set place l, cut := D.cut, left := D.left } := by unfold writeD; rw [if_pos hpw, if_neg hct]
    rw [hwd]
    clear hA hfin hwd h
    go_enter Tryz.func156, Tryz.ntmps156
    go_wp2
    go_region_held3 (fun _ => True) (trivial) ((go_at_call 210; refine HC.out.mono ?_; rintro e w2 ⟨vad, vcap, rfl, hv, hvo, hB⟩; obtain ⟨v0, l0, hv0, hl0, hc0⟩ := (HF.out.1.below (show Below w.heap.size w w2 from ⟨hB.os, hB.tape, hB.output, hB.size, hB.block⟩)).get hp; have hf0 := (HF.out.1.below (show Below w.heap.size w w2 from ⟨hB.os, hB.tape, hB.output, hB.size, hB.block⟩)).free place))
    have HB := hid (show Below w.heap.size w w2 from ⟨hB.os, hB.tape, hB.output, hB.size, hB.block⟩)
    have HV := hid hv
    have HVO := hid hvo
    clear hB hv hvo
    go_wp2
    go_ret
    refine ⟨rfl, ⟨_, (HF.out.1.below HB.out).setPlace hp HV.out ⟨hl.2, HF.out.2⟩, dOwn_set HVO.out (Nat.le_refl _)⟩, ⟨by simp; exact HB.out.size, HB.out.os, HB.out.tape, HB.out.output⟩, fun k hk hkd => ?_⟩
    rw [heap_setCell_other _ _ _ _ hkd, HB.out.block k hk]

set_option maxRecDepth 100000 in
set_option maxHeartbeats 1000000 in
theorem dwrite_off {w : World} {d : Nat} {dv : List Value} {D : Dsk} (h : DiskAt w d dv D) {place : Nat} (hp : place < 250) {l : List Int} {g off cap : Nat} (hl : 0 < l.length ∧ l.length ≤ 200) (hcap : l.length ≤ cap) (hA : BytesAt w (some ⟨g, off, none⟩) l) {torn : Int} (ht : 0 ≤ torn) (hpw : powerB D = false) :
    Calls Tryz.prog 156 #[.pointer (some ⟨d, 0, none⟩), .int .i64 (place : Int), .slice (some ⟨g, off, none⟩) l.length cap, .int .i64 torn] w fun e w' => e = .returned (.bool false) ∧ (∃ dv', DiskAt w' d dv' (writeD D place l torn) ∧ ∀ g, dOwn d dv' g → dOwn d dv g ∨ w.heap.size ≤ g) ∧ (w.heap.size ≤ w'.heap.size ∧ w'.os = w.os ∧ w'.tape = w.tape ∧ w'.output = w.output) ∧ ∀ k, k < w.heap.size → k ≠ d → w'.heap[k]? = w.heap[k]? := by
  have hcut := h.cellCut
  have hlft := h.cellLeft
  have gp0 : (0 : Int) ≤ (place : Int) := by omega
  have gp1 : (place : Int) < 250 := by omega
  have hfin : ∀ x ∈ l, 0 ≤ x ∧ x < 256 := fun x hx => by
    obtain ⟨i, hi, e⟩ := List.getElem_of_mem hx
    exact (hA i x (by rw [List.getElem?_eq_getElem hi, e])).1
  have hct : D.cut = true := by
    cases hc : D.cut with
    | true => rfl
    | false => unfold powerB at hpw; rw [hc] at hpw; cases hpw
  rw [hct] at hcut
  have hlf : ¬ D.left > 0 := by unfold powerB at hpw; rw [hct] at hpw; simpa using hpw
  have glf : decide (D.left > 0) = false := by simpa using hlf
  have gs : IntKind.i64.wrap ((l.length : Int) - 1) = (l.length : Int) - 1 := IntWalk.i64_in _ (by omega)
  obtain ⟨k, hk⟩ : ∃ k : Nat, min torn ((l.length : Int) - 1) = (k : Int) := ⟨(min torn ((l.length : Int) - 1)).toNat, by omega⟩
  have hkl : k < l.length := by omega
  have gk0 : (0 : Int) ≤ (k : Int) := by omega
  have gk1 : (k : Int) ≤ (cap : Int) := by omega
  have hkt : (l.take k).length = k := by rw [List.length_take]; omega
  have hC := clone8_any g off cap (l.take k) w.drew (by omega) ((hA.take k).same (fun _ _ => rfl))
  rw [hkt] at hC
  have HC := hid hC
  have HF := hid (And.intro h (show (l.take k).length ≤ 200 ∧ ∀ x ∈ l.take k, 0 ≤ x ∧ x < 256 from ⟨by omega, fun x hx => hfin x (List.mem_of_mem_take hx)⟩))
  have hwd : writeD D place l torn = { D with pl := D.pl.set place (l.take k) } := by
    unfold writeD
    rw [if_neg (by rw [hpw]; simp), hk, Int.toNat_natCast]
  rw [hwd]
  clear hA hfin hwd h hC hkt
  go_enter Tryz.func156, Tryz.ntmps156
  go_wp2
  go_region_held3 (fun _ => True) (trivial) ((go_at_call 210; refine HC.out.mono ?_; rintro e w2 ⟨vad, vcap, rfl, hv, hvo, hB⟩; obtain ⟨v0, l0, hv0, hl0, hc0⟩ := (HF.out.1.below (show Below w.heap.size w w2 from ⟨hB.os, hB.tape, hB.output, hB.size, hB.block⟩)).get hp; have hf0 := (HF.out.1.below (show Below w.heap.size w w2 from ⟨hB.os, hB.tape, hB.output, hB.size, hB.block⟩)).free place))
  have HB := hid (show Below w.heap.size w w2 from ⟨hB.os, hB.tape, hB.output, hB.size, hB.block⟩)
  have HV := hid hv
  have HVO := hid hvo
  clear hB hv hvo
  go_wp2
  go_ret
  refine ⟨rfl, ⟨_, (HF.out.1.below HB.out).setPlace hp HV.out HF.out.2, dOwn_set HVO.out (Nat.le_refl _)⟩, ⟨by simp; exact HB.out.size, HB.out.os, HB.out.tape, HB.out.output⟩, fun k hk hkd => ?_⟩
  rw [heap_setCell_other _ _ _ _ hkd, HB.out.block k hk]

end Go.Proofs.YtjefgmeejhakbaaGreatDoor
