/- base's Base.write: the disk has a commit's bytes. -/
import Derived.Test.YtjefgmeejhakbaaGreatDoorMgAV
namespace Go.Proofs.YtjefgmeejhakbaaGreatDoor
open Go.RowKit

/-- What is not the base's, nor its disk's, is as it was. -/
structure KeptB (b d : Nat) (w w' : World) : Prop where
  os : w'.os = w.os
  tape : w'.tape = w.tape
  output : w'.output = w.output
  size : w.heap.size ≤ w'.heap.size
  block : ∀ k, k < w.heap.size → k ≠ b → k ≠ d → w'.heap[k]? = w.heap[k]?
theorem recP_in (ws : List (Int × Int)) (hn : ws.length ≤ 10) (hk : ∀ p ∈ ws, 0 ≤ p.1 ∧ p.1 < 10) : ∀ x ∈ recP ws, 0 ≤ x ∧ x < 256 := fun x hx => by
  unfold recP at hx
  rcases List.mem_append.1 hx with hx | hx
  · exact headP_in ws hn hk x hx
  · exact bytesN_in _ _ x hx
theorem drewN_same (w : World) : ∀ q, (w.drewN q).os = w.os ∧ (w.drewN q).tape = w.tape ∧ (w.drewN q).output = w.output ∧ (w.drewN q).heap.size = w.heap.size ∧ ∀ k : Nat, (w.drewN q).heap[k]? = w.heap[k]?
  | 0 => ⟨rfl, rfl, rfl, rfl, fun _ => rfl⟩
  | q + 1 => drewN_same w q
section
variable {w : World} {b d : Nat} {L : EnL} {E : Eng} {dv : List Value} {D : Dsk} {torn : Int} {recs : List (List (Int × Int))} {ws : List (Int × Int)} {g off cap : Nat}
set_option maxRecDepth 100000 in
set_option maxHeartbeats 1000000 in
theorem bwrite_ok (h : BasAt w b d L E dv D recs.length torn false) (hr : Recs D recs) (hw : ws.length ≤ 10) (hA : BytesAt w (some ⟨g, off, none⟩) (recP ws)) (hleft : I64 (D.left - 1)) (hpw : powerB D = true) :
    Calls Tryz.prog 107 #[.pointer (some ⟨b, 0, none⟩), .slice (some ⟨g, off, none⟩) (recP ws).length cap] w fun e w' => e = .returned .nilIface ∧ ∃ dv', BasAt w' b d L E dv' (writeD D recs.length (recP ws) torn) (recs.length + 1) torn false ∧ KeptB b d w w' ∧ ∀ g, dOwn d dv' g → dOwn d dv g ∨ w.heap.size ≤ g := by
  have c0 := h.cell 0
  have c2 := h.cell 2
  have c3 := h.cell 3
  have c4 := h.cell 4
  simp only [basCells, List.getElem?_toArray, List.getElem?_cons_zero, List.getElem?_cons_succ] at c0 c2 c3 c4
  have hlt := hr.lt
  obtain ⟨n, hn⟩ : ∃ n, recs.length = n := ⟨_, rfl⟩
  obtain ⟨v0, l0, hv0, hl0, _⟩ := h.dsk.get (i := n) (by omega)
  have hw0 := hr.end_ l0 (by rw [hn]; exact hl0)
  have HI := hid (fun q => isWritten_any (h.dsk.below (below_drewN (Below.refl _ w) q)) (i := n) (by omega) hl0)
  rw [hw0] at HI
  have hlen := recP_len ws
  have HW := hid (fun q => dwrite_power (cap := cap) (h.dsk.below (below_drewN (Below.refl _ w) (q + 1))) (place := n) (by omega) (l := recP ws) (by omega) (hA.same (fun _ _ => by simp)) hleft torn hpw)
  rw [hn] at h c2 ⊢
  have HH := hid h
  have g250 : decide ((n : Int) ≥ 250) = false := decide_eq_false (by omega)
  have gw : IntKind.i64.wrap ((n : Int) + 1) = (n : Int) + 1 := IntWalk.i64_in _ (by omega)
  have hbd : b ≠ d := fun e => (h.sepd d (.inl rfl)).2 e.symm
  obtain ⟨rl, hrl⟩ : ∃ rl, (recP ws).length = rl := ⟨_, rfl⟩
  rw [hrl] at HW ⊢
  clear h hr hA hw0 hlen hv0 hl0 hrl
  go_enter Tryz.func107, Tryz.ntmps107
  go_wp2
  go_quiet (first | (go_at_call 154; refine Calls.quiet_of (HI.out _)))
  go_wp2
  obtain ⟨w1, hw1⟩ : ∃ w1, w.drewN nq = w1 := ⟨_, rfl⟩
  have HW1 := hid (HW.out nq)
  rw [show w.drewN (nq + 1) = w1.drew by rw [← hw1]; rfl] at HW1
  have HH1 := hid (show BasAt w1 b d L E dv D n torn false by rw [← hw1]; exact HH.out.drewN nq)
  have HK1 := hid (show w1.os = w.os ∧ w1.tape = w.tape ∧ w1.output = w.output ∧ w1.heap.size = w.heap.size ∧ ∀ k, w1.heap[k]? = w.heap[k]? by rw [← hw1]; exact drewN_same w nq)
  rw [hw1]
  have d0 := HH1.out.cell 0
  have d2 := HH1.out.cell 2
  have d3 := HH1.out.cell 3
  simp only [basCells, List.getElem?_toArray, List.getElem?_cons_zero, List.getElem?_cons_succ] at d0 d2 d3
  clear hw1 c0 c2 c3 c4 HW HI
  go_region_held3 (fun W => W.cell? ⟨b, 0, none⟩ = some (.pointer (some ⟨d, 0, none⟩)) ∧ W.cell? ⟨b, 2, none⟩ = some (.int .i64 (n : Int)) ∧ W.cell? ⟨b, 3, none⟩ = some (.int .i64 torn))
    (first | go_keep | exact sK)
    (first
      | (go_at_call 156
         refine HW1.out.mono ?_
         rintro e w2 ⟨rfl, ⟨dv2, hD2, ho2⟩, ⟨hz2, ha2, hb2, hc2⟩, hk2⟩
         have HB2 := hid (HH1.out.setDisk hD2 ho2 hk2)
         have e0 := HB2.out.cell 0
         have e2 := HB2.out.cell 2
         have e3 := HB2.out.cell 3
         simp only [basCells, List.getElem?_toArray, List.getElem?_cons_zero, List.getElem?_cons_succ] at e0 e2 e3
         have sK : w2.cell? ⟨b, 0, none⟩ = some (.pointer (some ⟨d, 0, none⟩)) ∧ w2.cell? ⟨b, 2, none⟩ = some (.int .i64 (n : Int)) ∧ w2.cell? ⟨b, 3, none⟩ = some (.int .i64 torn) := ⟨e0, e2, e3⟩
         have f2 := HB2.out.free 2
         have HK2 := hid (And.intro hz2 (And.intro ha2 (And.intro hb2 (And.intro hc2 hk2))))
         have HOW2 := hid ho2
         clear hD2 ho2 hz2 ha2 hb2 hc2 hk2 e0 e3)
      | fail)
  have HF := hid (HB2.out.setOwn (o := 2) (v := .int .i64 ((n : Int) + 1)) (used' := (n : Int) + 1) (torn' := torn) (down' := false) rfl)
  clear sK
  go_wp2
  go_ret
  refine ⟨rfl, dv2, HF.out, ⟨HK2.out.2.1.trans HK1.out.1, HK2.out.2.2.1.trans HK1.out.2.1, HK2.out.2.2.2.1.trans HK1.out.2.2.1, ?_, fun k hk hkb hkd => ?_⟩, fun k hk => (HOW2.out k hk).imp id (fun h5 => by have h6 := HK1.out.2.2.2.1; have h7 : w1.drew.heap.size = w1.heap.size := rfl; omega)⟩
  · have h1 := HK2.out.1
    have h2 := HK1.out.2.2.2.1
    have h3 : w1.drew.heap.size = w1.heap.size := rfl
    simp
    omega
  · rw [heap_setCell_other _ _ _ _ hkb]
    exact (HK2.out.2.2.2.2 k (by show k < w1.heap.size; rw [HK1.out.2.2.2.1]; exact hk) hkd).trans (HK1.out.2.2.2.2 k)
set_option maxRecDepth 100000 in
set_option maxHeartbeats 1000000 in
theorem bwrite_off (h : BasAt w b d L E dv D recs.length torn false) (hr : Recs D recs) (hw : ws.length ≤ 10) (hA : BytesAt w (some ⟨g, off, none⟩) (recP ws)) (hcap : (recP ws).length ≤ cap) (ht : 0 ≤ torn) (hpw : powerB D = false) :
    Calls Tryz.prog 107 #[.pointer (some ⟨b, 0, none⟩), .slice (some ⟨g, off, none⟩) (recP ws).length cap] w fun e w' => e = .returned (.iface 24 (.int .i64 14)) ∧ ∃ dv', BasAt w' b d L E dv' (writeD D recs.length (recP ws) torn) recs.length torn true ∧ KeptB b d w w' ∧ ∀ g, dOwn d dv' g → dOwn d dv g ∨ w.heap.size ≤ g := by
  have c0 := h.cell 0
  have c2 := h.cell 2
  have c3 := h.cell 3
  have c4 := h.cell 4
  simp only [basCells, List.getElem?_toArray, List.getElem?_cons_zero, List.getElem?_cons_succ] at c0 c2 c3 c4
  have hlt := hr.lt
  obtain ⟨n, hn⟩ : ∃ n, recs.length = n := ⟨_, rfl⟩
  obtain ⟨v0, l0, hv0, hl0, _⟩ := h.dsk.get (i := n) (by omega)
  have hw0 := hr.end_ l0 (by rw [hn]; exact hl0)
  have HI := hid (fun q => isWritten_any (h.dsk.below (below_drewN (Below.refl _ w) q)) (i := n) (by omega) hl0)
  rw [hw0] at HI
  have hlen := recP_len ws
  have HW := hid (fun q => dwrite_off (cap := cap) (h.dsk.below (below_drewN (Below.refl _ w) (q + 1))) (place := n) (by omega) (l := recP ws) (by omega) hcap (hA.same (fun _ _ => by simp)) ht hpw)
  rw [hn] at h c2 ⊢
  have HH := hid h
  have g250 : decide ((n : Int) ≥ 250) = false := decide_eq_false (by omega)
  have hbd : b ≠ d := fun e => (h.sepd d (.inl rfl)).2 e.symm
  obtain ⟨rl, hrl⟩ : ∃ rl, (recP ws).length = rl := ⟨_, rfl⟩
  rw [hrl] at HW ⊢
  clear h hr hA hw0 hlen hv0 hl0 hrl hcap
  go_enter Tryz.func107, Tryz.ntmps107
  go_wp2
  go_quiet (first | (go_at_call 154; refine Calls.quiet_of (HI.out _)))
  go_wp2
  obtain ⟨w1, hw1⟩ : ∃ w1, w.drewN nq = w1 := ⟨_, rfl⟩
  have HW1 := hid (HW.out nq)
  rw [show w.drewN (nq + 1) = w1.drew by rw [← hw1]; rfl] at HW1
  have HH1 := hid (show BasAt w1 b d L E dv D n torn false by rw [← hw1]; exact HH.out.drewN nq)
  have HK1 := hid (show w1.os = w.os ∧ w1.tape = w.tape ∧ w1.output = w.output ∧ w1.heap.size = w.heap.size ∧ ∀ k, w1.heap[k]? = w.heap[k]? by rw [← hw1]; exact drewN_same w nq)
  rw [hw1]
  have d0 := HH1.out.cell 0
  have d2 := HH1.out.cell 2
  have d3 := HH1.out.cell 3
  simp only [basCells, List.getElem?_toArray, List.getElem?_cons_zero, List.getElem?_cons_succ] at d0 d2 d3
  clear hw1 c0 c2 c3 c4 HW HI
  go_region_held3 (fun W => W.cell? ⟨b, 0, none⟩ = some (.pointer (some ⟨d, 0, none⟩)) ∧ W.cell? ⟨b, 2, none⟩ = some (.int .i64 (n : Int)) ∧ W.cell? ⟨b, 3, none⟩ = some (.int .i64 torn))
    (first | go_keep | exact sK)
    (first
      | (go_at_call 156
         refine HW1.out.mono ?_
         rintro e w2 ⟨rfl, ⟨dv2, hD2, ho2⟩, ⟨hz2, ha2, hb2, hc2⟩, hk2⟩
         have HB2 := hid (HH1.out.setDisk hD2 ho2 hk2)
         have e0 := HB2.out.cell 0
         have e2 := HB2.out.cell 2
         have e3 := HB2.out.cell 3
         simp only [basCells, List.getElem?_toArray, List.getElem?_cons_zero, List.getElem?_cons_succ] at e0 e2 e3
         have sK : w2.cell? ⟨b, 0, none⟩ = some (.pointer (some ⟨d, 0, none⟩)) ∧ w2.cell? ⟨b, 2, none⟩ = some (.int .i64 (n : Int)) ∧ w2.cell? ⟨b, 3, none⟩ = some (.int .i64 torn) := ⟨e0, e2, e3⟩
         have f2 := HB2.out.free 4
         have e4 := HB2.out.cell 4
         simp only [basCells, List.getElem?_toArray, List.getElem?_cons_zero, List.getElem?_cons_succ] at e4
         have HK2 := hid (And.intro hz2 (And.intro ha2 (And.intro hb2 (And.intro hc2 hk2))))
         have HOW2 := hid ho2
         clear hD2 ho2 hz2 ha2 hb2 hc2 hk2 e0 e3)
      | fail)
  have HF := hid (HB2.out.setOwn (o := 4) (v := .bool true) (used' := (n : Int)) (torn' := torn) (down' := true) rfl)
  clear sK
  go_wp2
  go_ret
  refine ⟨rfl, dv2, HF.out, ⟨HK2.out.2.1.trans HK1.out.1, HK2.out.2.2.1.trans HK1.out.2.1, HK2.out.2.2.2.1.trans HK1.out.2.2.1, ?_, fun k hk hkb hkd => ?_⟩, fun k hk => (HOW2.out k hk).imp id (fun h5 => by have h6 := HK1.out.2.2.2.1; have h7 : w1.drew.heap.size = w1.heap.size := rfl; omega)⟩
  · have h1 := HK2.out.1
    have h2 := HK1.out.2.2.2.1
    have h3 : w1.drew.heap.size = w1.heap.size := rfl
    simp
    omega
  · rw [heap_setCell_other _ _ _ _ hkb]
    exact (HK2.out.2.2.2.2 k (by show k < w1.heap.size; rw [HK1.out.2.2.2.1]; exact hk) hkd).trans (HK1.out.2.2.2.2 k)
end

end Go.Proofs.YtjefgmeejhakbaaGreatDoor
