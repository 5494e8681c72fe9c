/- FxDuo FxDoes FxDoesC EnMany SameW: put together for a claim. -/
import Derived.Test.YtjefgmeejhakbaaGreatDoorFeCommit
import Derived.Test.YtjefgmeejhakbaaGreatDoorFeReadS
import Derived.Test.YtjefgmeejhakbaaGreatDoorMgAO
import Derived.Test.YtjefgmeejhakbaaGreatDoorMgAB
import Derived.Deep.RegionHeld3
import Derived.Test.YtjefgmeejhakbaaGreatDoorMgAR
import Derived.Test.YtjefgmeejhakbaaGreatDoorMgAG
import Derived.Test.YtjefgmeejhakbaaGreatDoorMgAA
/- The landed engine and the document's, in one world. -/
namespace Go.Proofs.YtjefgmeejhakbaaGreatDoor
open Go.RowKit
structure Duo (w : World) (L : EnL) (M : REnL) (B : Nat) (E F : Eng) : Prop where
  en : EnAt w L E
  rf : RefAt w M B F
  dis : ∀ g, L.own g → ¬ M.own g
def both (L : EnL) (M : REnL) (g : Nat) : Prop := L.own g ∨ M.own g
section
variable {w w' : World} {L L' : EnL} {M M' : REnL} {B B' : Nat} {E E' F F' : Eng}
theorem RefAt.same (h : RefAt w M B F) (hs : ∀ g, M.own g → w'.heap[g]? = w.heap[g]?) : RefAt w' M B F := by
  obtain ⟨R, h1, h2⟩ := h
  exact ⟨R, h1.same hs, h2⟩
theorem Duo.below (h : Duo w L M B E F) (hB : Below w.heap.size w w') : Duo w' L M B E F := ⟨h.en.below hB, h.rf.below hB, h.dis⟩
theorem Duo.mono (h : Duo w L M B E F) (hB : B ≤ B') : Duo w L M B' E F := ⟨h.en, h.rf.mono hB, h.dis⟩
theorem Duo.own_lt (h : Duo w L M B E F) {g : Nat} (hg : both L M g) : g < w.heap.size := hg.elim (fun h1 => h.en.own_lt h1) (fun h1 => h.rf.own_lt h1)
theorem Duo.ref (h : Duo w L M B E F) (hr : RefAt w' M' B' F') (hK : KeptO M.own M'.own w w') : Duo w' L M' B' E F' ∧ KeptO (both L M) (both L M') w w' := by
  refine ⟨⟨h.en.same (fun g hg => hK.block g (h.en.own_lt hg) (h.dis g hg)), hr, fun g hg hm => ?_⟩, hK.os, hK.tape, hK.output, hK.size, fun g hg hn => hK.block g hg (fun e => hn (.inr e)), fun g hg => ?_⟩
  · rcases hK.sub g hm with h1 | h1
    · exact h.dis g hg h1
    · have := h.en.own_lt hg; omega
  · rcases hg with h1 | h1
    · exact .inl (.inl h1)
    · exact (hK.sub g h1).imp .inr id
theorem Duo.eng (h : Duo w L M B E F) (hr : EnAt w' L' E') (hK : KeptO L.own L'.own w w') : Duo w' L' M B E' F ∧ KeptO (both L M) (both L' M) w w' := by
  refine ⟨⟨hr, h.rf.same (fun g hg => hK.block g (h.rf.own_lt hg) (fun e => h.dis g e hg)), fun g hg hm => ?_⟩, hK.os, hK.tape, hK.output, hK.size, fun g hg hn => hK.block g hg (fun e => hn (.inl e)), fun g hg => ?_⟩
  · rcases hK.sub g hg with h1 | h1
    · exact h.dis g h1 hm
    · have := h.rf.own_lt hm; omega
  · rcases hg with h1 | h1
    · exact (hK.sub g h1).imp .inl id
    · exact .inl (.inr h1)
def DuoPost (L : EnL) (M : REnL) (B : Nat) (E : Eng) (w w' : World) : Prop := ∃ L' M', Duo w' L' M' B E E ∧ KeptO (both L M) (both L' M') w w' ∧ L'.s = L.s ∧ M'.R = M.R
theorem DuoPost.refl (h : Duo w L M B E E) : DuoPost L M B E w w := ⟨L, M, h, KeptO.refl _ _, rfl, rfl⟩
theorem DuoPost.below {w1 : World} (h : DuoPost L M B E w w') (hB : Below w'.heap.size w' w1) : DuoPost L M B E w w1 := by
  obtain ⟨L', M', a, b, c, d⟩ := h
  exact ⟨L', M', a.below hB, b.trans (KeptO.of_below hB), c, d⟩
theorem DuoPost.mono (h : DuoPost L M B E w w') (hB : B ≤ B') : DuoPost L M B' E w w' := by
  obtain ⟨L', M', a, b, c, d⟩ := h
  exact ⟨L', M', a.mono hB, b, c, d⟩
theorem Duo.refEng {w1 : World} (h : Duo w L M B E E) (hr : RefPost M B' E' w w1) : ∃ M', Duo w1 L M' B' E E' ∧ M'.R = M.R ∧ (∀ w2, EnPost L E' w1 w2 → DuoPost L M B' E' w w2) := by
  obtain ⟨M', a, b, c, d⟩ := hr
  obtain ⟨h1, k1⟩ := h.ref a b
  refine ⟨M', h1, c.1, fun w2 h2 => ?_⟩
  obtain ⟨L', a2, b2, c2, d2⟩ := h2
  obtain ⟨h3, k3⟩ := h1.eng a2 b2
  exact ⟨L', M', h3, k1.trans k3, c2, c.1⟩
theorem Duo.engRef {w1 : World} (h : Duo w L M B E E) (hr : EnPost L E' w w1) : ∃ L', Duo w1 L' M B E' E ∧ L'.s = L.s ∧ (∀ w2, RefPost M B' E' w1 w2 → DuoPost L M B' E' w w2) := by
  obtain ⟨L', a, b, c, d⟩ := hr
  obtain ⟨h1, k1⟩ := h.eng a b
  refine ⟨L', h1, c, fun w2 h2 => ?_⟩
  obtain ⟨M', a2, b2, c2, d2⟩ := h2
  obtain ⟨h3, k3⟩ := h1.ref a2 b2
  exact ⟨L', M', h3, k1.trans k3, c, c2.1⟩
end
end Go.Proofs.YtjefgmeejhakbaaGreatDoor

/- law.does, whatever the two engines do. -/
namespace Go.Proofs.YtjefgmeejhakbaaGreatDoor
open Go.RowKit
theorem errV_at (w : World) (c : Int) : ErrIs w (errV c) c (-1) := by
  unfold errV
  by_cases h : c = 0
  · rw [if_pos h]; exact .inl ⟨rfl, h, rfl⟩
  · rw [if_neg h]; exact .inr (.inl ⟨rfl, rfl⟩)
def actB (wh tx key val : Int) : Obj := .cells #[.int .i64 wh, .int .i64 tx, .int .i64 key, .int .i64 val] 53
section
variable {w : World} {s R : Nat} {tx key val : Int} {P Q : World → Prop}
set_option maxRecDepth 100000 in
set_option maxHeartbeats 2000000 in
theorem does0 {v : Int} {c : Int} (hR : Calls Tryz.prog 77 #[.pointer (some ⟨R, 0, none⟩), .int .i64 key] (w.alloc (actB 0 tx key val)) fun e w2 => e = .returned (.tuple #[.int .i64 v, .int .i64 c]) ∧ P w2) (hbox : ∀ w2, P w2 → w2.heap[w.heap.size]? = some (actB 0 tx key val))
    (hE : ∀ w2, P w2 → Calls Tryz.prog 51 #[.pointer (some ⟨s, 0, none⟩), .int .i64 key] w2 fun e w3 => e = .returned (.tuple #[.int .i64 v, errV c]) ∧ Q w3) (hH : ∀ w3, Q w3 → Handle w3) :
    Calls Tryz.prog 20 #[.pointer (some ⟨s, 0, none⟩), .pointer (some ⟨R, 0, none⟩), .agg #[.int .i64 0, .int .i64 tx, .int .i64 key, .int .i64 val]] w fun e w' => e = .returned (.bool true) ∧ ∃ w3, Q w3 ∧ Below w3.heap.size w3 w' := by
  have HR := hid hR
  have HBX := hid hbox
  have HE := hid hE
  have HH := hid hH
  clear hR hbox hE hH
  unfold actB at HR HBX
  go_enter Tryz.func20, Tryz.ntmps20
  go_wp2_with fail
  refine HR.out.mono ?_
  rintro e w2 ⟨rfl, hP⟩
  have bx := HBX.out w2 hP
  have k1 : w2.cell? ⟨w.heap.size, 1, none⟩ = some (.int .i64 tx) := (cell_of_row _ w.heap.size 1 _ _ (0, 0) bx).trans rfl
  have k2 : w2.cell? ⟨w.heap.size, 2, none⟩ = some (.int .i64 key) := (cell_of_row _ w.heap.size 2 _ _ (0, 0) bx).trans rfl
  have k3 : w2.cell? ⟨w.heap.size, 3, none⟩ = some (.int .i64 val) := (cell_of_row _ w.heap.size 3 _ _ (0, 0) bx).trans rfl
  have HE2 := hid (HE.out w2 hP)
  clear bx HR HE HBX hP
  go_wp2_with fail
  refine HE2.out.mono ?_
  rintro e w3 ⟨rfl, hQ⟩
  have HB := hid (bare_true c (errV c) w3 (errV_at w3 c) (HH.out w3 hQ))
  have HQ := hid hQ
  clear hQ HE2 HH
  go_wp2_with fail
  refine HB.out.mono ?_
  rintro e w4 ⟨rfl, hB4⟩
  have HB4 := hid hB4
  clear hB4 HB
  go_wp2
  go_ret
  exact ⟨rfl, w3, HQ.out, HB4.out⟩
set_option maxRecDepth 100000 in
set_option maxHeartbeats 2000000 in
theorem does1 {v : Int} {c : Int} (hR : Calls Tryz.prog 78 #[.pointer (some ⟨R, 0, none⟩), .int .i64 tx, .int .i64 key] (w.alloc (actB 1 tx key val)) fun e w2 => e = .returned (.tuple #[.int .i64 v, .int .i64 c]) ∧ P w2) (hbox : ∀ w2, P w2 → w2.heap[w.heap.size]? = some (actB 1 tx key val))
    (hE : ∀ w2, P w2 → Calls Tryz.prog 52 #[.pointer (some ⟨s, 0, none⟩), .int .i64 tx, .int .i64 key] w2 fun e w3 => e = .returned (.tuple #[.int .i64 v, errV c]) ∧ Q w3) (hH : ∀ w3, Q w3 → Handle w3) :
    Calls Tryz.prog 20 #[.pointer (some ⟨s, 0, none⟩), .pointer (some ⟨R, 0, none⟩), .agg #[.int .i64 1, .int .i64 tx, .int .i64 key, .int .i64 val]] w fun e w' => e = .returned (.bool true) ∧ ∃ w3, Q w3 ∧ Below w3.heap.size w3 w' := by
  have HR := hid hR
  have HBX := hid hbox
  have HE := hid hE
  have HH := hid hH
  clear hR hbox hE hH
  unfold actB at HR HBX
  go_enter Tryz.func20, Tryz.ntmps20
  go_wp2_with fail
  refine HR.out.mono ?_
  rintro e w2 ⟨rfl, hP⟩
  have bx := HBX.out w2 hP
  have k1 : w2.cell? ⟨w.heap.size, 1, none⟩ = some (.int .i64 tx) := (cell_of_row _ w.heap.size 1 _ _ (0, 0) bx).trans rfl
  have k2 : w2.cell? ⟨w.heap.size, 2, none⟩ = some (.int .i64 key) := (cell_of_row _ w.heap.size 2 _ _ (0, 0) bx).trans rfl
  have k3 : w2.cell? ⟨w.heap.size, 3, none⟩ = some (.int .i64 val) := (cell_of_row _ w.heap.size 3 _ _ (0, 0) bx).trans rfl
  have HE2 := hid (HE.out w2 hP)
  clear bx HR HE HBX hP
  go_wp2_with fail
  refine HE2.out.mono ?_
  rintro e w3 ⟨rfl, hQ⟩
  have HB := hid (bare_true c (errV c) w3 (errV_at w3 c) (HH.out w3 hQ))
  have HQ := hid hQ
  clear hQ HE2 HH
  go_wp2_with fail
  refine HB.out.mono ?_
  rintro e w4 ⟨rfl, hB4⟩
  have HB4 := hid hB4
  clear hB4 HB
  go_wp2
  go_ret
  exact ⟨rfl, w3, HQ.out, HB4.out⟩
set_option maxRecDepth 100000 in
set_option maxHeartbeats 2000000 in
theorem does2 {v : Bool} {c : Int} (hR : Calls Tryz.prog 79 #[.pointer (some ⟨R, 0, none⟩), .int .i64 tx, .int .i64 key, .int .i64 val] (w.alloc (actB 2 tx key val)) fun e w2 => e = .returned (.tuple #[.bool v, .int .i64 c]) ∧ P w2) (hbox : ∀ w2, P w2 → w2.heap[w.heap.size]? = some (actB 2 tx key val))
    (hE : ∀ w2, P w2 → Calls Tryz.prog 53 #[.pointer (some ⟨s, 0, none⟩), .int .i64 tx, .int .i64 key, .int .i64 val] w2 fun e w3 => e = .returned (.tuple #[.bool v, errV c]) ∧ Q w3) (hH : ∀ w3, Q w3 → Handle w3) :
    Calls Tryz.prog 20 #[.pointer (some ⟨s, 0, none⟩), .pointer (some ⟨R, 0, none⟩), .agg #[.int .i64 2, .int .i64 tx, .int .i64 key, .int .i64 val]] w fun e w' => e = .returned (.bool true) ∧ ∃ w3, Q w3 ∧ Below w3.heap.size w3 w' := by
  have HR := hid hR
  have HBX := hid hbox
  have HE := hid hE
  have HH := hid hH
  clear hR hbox hE hH
  unfold actB at HR HBX
  go_enter Tryz.func20, Tryz.ntmps20
  go_wp2_with fail
  refine HR.out.mono ?_
  rintro e w2 ⟨rfl, hP⟩
  have bx := HBX.out w2 hP
  have k1 : w2.cell? ⟨w.heap.size, 1, none⟩ = some (.int .i64 tx) := (cell_of_row _ w.heap.size 1 _ _ (0, 0) bx).trans rfl
  have k2 : w2.cell? ⟨w.heap.size, 2, none⟩ = some (.int .i64 key) := (cell_of_row _ w.heap.size 2 _ _ (0, 0) bx).trans rfl
  have k3 : w2.cell? ⟨w.heap.size, 3, none⟩ = some (.int .i64 val) := (cell_of_row _ w.heap.size 3 _ _ (0, 0) bx).trans rfl
  have HE2 := hid (HE.out w2 hP)
  clear bx HR HE HBX hP
  go_wp2_with fail
  refine HE2.out.mono ?_
  rintro e w3 ⟨rfl, hQ⟩
  have HB := hid (bare_true c (errV c) w3 (errV_at w3 c) (HH.out w3 hQ))
  have HQ := hid hQ
  clear hQ HE2 HH
  go_wp2_with fail
  refine HB.out.mono ?_
  rintro e w4 ⟨rfl, hB4⟩
  have HB4 := hid hB4
  clear hB4 HB
  go_wp2
  go_ret
  exact ⟨rfl, w3, HQ.out, HB4.out⟩
end
end Go.Proofs.YtjefgmeejhakbaaGreatDoor

/- law.does, whatever the two engines do: where both calls stand in one line. -/
namespace Go.Proofs.YtjefgmeejhakbaaGreatDoor
open Go.RowKit
section
variable {w : World} {s R : Nat} {tx key val : Int} {P Q : World → Prop}
set_option maxRecDepth 100000 in
set_option maxHeartbeats 4000000 in
theorem does3 {c : Int} (hE : ∀ q, Calls Tryz.prog 37 #[.pointer (some ⟨s, 0, none⟩), .int .i64 tx] ((w.alloc (actB 3 tx key val)).drewN q) fun e w2 => e = .returned (errV c) ∧ P w2)
    (hR : ∀ w2, P w2 → Calls Tryz.prog 80 #[.pointer (some ⟨R, 0, none⟩), .int .i64 tx] w2 fun e w3 => e = .returned (.int .i64 c) ∧ Q w3)
    (hbP : ∀ w2, P w2 → w2.heap[w.heap.size]? = some (actB 3 tx key val)) (hbQ : ∀ w2, Q w2 → w2.heap[w.heap.size]? = some (actB 3 tx key val)) (hH : ∀ w3, Q w3 → Handle w3) :
    Calls Tryz.prog 20 #[.pointer (some ⟨s, 0, none⟩), .pointer (some ⟨R, 0, none⟩), .agg #[.int .i64 3, .int .i64 tx, .int .i64 key, .int .i64 val]] w fun e w' => e = .returned (.bool true) ∧ ∃ w3, Q w3 ∧ Below w3.heap.size w3 w' := by
  have HE := hid (hE 1)
  have HBP := hid hbP
  have HBQ := hid hbQ
  have HR := hid hR
  have HH := hid hH
  clear hR hbP hbQ hE hH
  have bx0 := heap_alloc_new w (actB 3 tx key val)
  unfold actB at HE HBP HBQ bx0
  have k0 : (w.alloc (.cells #[.int .i64 3, .int .i64 tx, .int .i64 key, .int .i64 val] 53)).cell? ⟨w.heap.size, 1, none⟩ = some (.int .i64 tx) := (cell_of_row _ w.heap.size 1 _ _ (0, 0) bx0).trans rfl
  clear bx0
  go_enter Tryz.func20, Tryz.ntmps20
  go_wp2
  go_region_held3 (fun W => W.cell? ⟨w.heap.size, 1, none⟩ = some (.int .i64 tx))
    (first | go_keep | exact y1 | exact y2 | exact y3)
    (first | (go_at_call 37
              refine HE.out.mono ?_
              rintro e w2 ⟨rfl, hP⟩
              have y1 : w2.cell? ⟨w.heap.size, 1, none⟩ = some (.int .i64 tx) := (cell_of_row _ w.heap.size 1 _ _ (0, 0) (HBP.out w2 hP)).trans rfl
              have HR2 := hid (HR.out w2 hP)
              clear hP)
           | (go_at_call 80
              refine HR2.out.mono ?_
              rintro e w3 ⟨rfl, hQ⟩
              have y2 : w3.cell? ⟨w.heap.size, 1, none⟩ = some (.int .i64 tx) := (cell_of_row _ w.heap.size 1 _ _ (0, 0) (HBQ.out w3 hQ)).trans rfl
              have HB := hid (bare_true c (errV c) w3 (errV_at w3 c) (HH.out w3 hQ))
              have HQ := hid hQ
              clear hQ)
           | (go_at_call 40
              refine HB.out.mono ?_
              rintro e w4 ⟨rfl, hB4⟩
              have y3 : w4.cell? ⟨w.heap.size, 1, none⟩ = some (.int .i64 tx) := (hB4.cell (p := ⟨w.heap.size, 1, none⟩) (World.block_lt_of_cell? w3 _ y2)).trans y2
              have HB4 := hid hB4
              clear hB4))
  go_wp2
  go_ret
  exact ⟨rfl, w3, HQ.out, HB4.out⟩
set_option maxRecDepth 100000 in
set_option maxHeartbeats 4000000 in
theorem does4 {c : Int} (hE : ∀ q, Calls Tryz.prog 36 #[.pointer (some ⟨s, 0, none⟩), .int .i64 tx] ((w.alloc (actB 4 tx key val)).drewN q) fun e w2 => e = .returned (errV c) ∧ P w2)
    (hR : ∀ w2, P w2 → Calls Tryz.prog 81 #[.pointer (some ⟨R, 0, none⟩), .int .i64 tx] w2 fun e w3 => e = .returned (.int .i64 c) ∧ Q w3)
    (hbP : ∀ w2, P w2 → w2.heap[w.heap.size]? = some (actB 4 tx key val)) (hbQ : ∀ w2, Q w2 → w2.heap[w.heap.size]? = some (actB 4 tx key val)) (hH : ∀ w3, Q w3 → Handle w3) :
    Calls Tryz.prog 20 #[.pointer (some ⟨s, 0, none⟩), .pointer (some ⟨R, 0, none⟩), .agg #[.int .i64 4, .int .i64 tx, .int .i64 key, .int .i64 val]] w fun e w' => e = .returned (.bool true) ∧ ∃ w3, Q w3 ∧ Below w3.heap.size w3 w' := by
  have HE := hid (hE 1)
  have HBP := hid hbP
  have HBQ := hid hbQ
  have HR := hid hR
  have HH := hid hH
  clear hR hbP hbQ hE hH
  have bx0 := heap_alloc_new w (actB 4 tx key val)
  unfold actB at HE HBP HBQ bx0
  have k0 : (w.alloc (.cells #[.int .i64 4, .int .i64 tx, .int .i64 key, .int .i64 val] 53)).cell? ⟨w.heap.size, 1, none⟩ = some (.int .i64 tx) := (cell_of_row _ w.heap.size 1 _ _ (0, 0) bx0).trans rfl
  clear bx0
  go_enter Tryz.func20, Tryz.ntmps20
  go_wp2
  go_region_held3 (fun W => W.cell? ⟨w.heap.size, 1, none⟩ = some (.int .i64 tx))
    (first | go_keep | exact y1 | exact y2 | exact y3)
    (first | (go_at_call 36
              refine HE.out.mono ?_
              rintro e w2 ⟨rfl, hP⟩
              have y1 : w2.cell? ⟨w.heap.size, 1, none⟩ = some (.int .i64 tx) := (cell_of_row _ w.heap.size 1 _ _ (0, 0) (HBP.out w2 hP)).trans rfl
              have HR2 := hid (HR.out w2 hP)
              clear hP)
           | (go_at_call 81
              refine HR2.out.mono ?_
              rintro e w3 ⟨rfl, hQ⟩
              have y2 : w3.cell? ⟨w.heap.size, 1, none⟩ = some (.int .i64 tx) := (cell_of_row _ w.heap.size 1 _ _ (0, 0) (HBQ.out w3 hQ)).trans rfl
              have HB := hid (bare_true c (errV c) w3 (errV_at w3 c) (HH.out w3 hQ))
              have HQ := hid hQ
              clear hQ)
           | (go_at_call 40
              refine HB.out.mono ?_
              rintro e w4 ⟨rfl, hB4⟩
              have y3 : w4.cell? ⟨w.heap.size, 1, none⟩ = some (.int .i64 tx) := (hB4.cell (p := ⟨w.heap.size, 1, none⟩) (World.block_lt_of_cell? w3 _ y2)).trans y2
              have HB4 := hid hB4
              clear hB4))
  go_wp2
  go_ret
  exact ⟨rfl, w3, HQ.out, HB4.out⟩
set_option maxRecDepth 100000 in
set_option maxHeartbeats 4000000 in
theorem does6 {c : Int} (hE : ∀ q, Calls Tryz.prog 84 #[.pointer (some ⟨s, 0, none⟩), .int .i64 tx] ((w.alloc (actB 6 tx key val)).drewN q) fun e w2 => e = .returned (errV c) ∧ P w2)
    (hR : ∀ w2, P w2 → Calls Tryz.prog 85 #[.pointer (some ⟨R, 0, none⟩), .int .i64 tx] w2 fun e w3 => e = .returned (.int .i64 c) ∧ Q w3)
    (hbP : ∀ w2, P w2 → w2.heap[w.heap.size]? = some (actB 6 tx key val)) (hbQ : ∀ w2, Q w2 → w2.heap[w.heap.size]? = some (actB 6 tx key val)) (hH : ∀ w3, Q w3 → Handle w3) :
    Calls Tryz.prog 20 #[.pointer (some ⟨s, 0, none⟩), .pointer (some ⟨R, 0, none⟩), .agg #[.int .i64 6, .int .i64 tx, .int .i64 key, .int .i64 val]] w fun e w' => e = .returned (.bool true) ∧ ∃ w3, Q w3 ∧ Below w3.heap.size w3 w' := by
  have HE := hid (hE 1)
  have HBP := hid hbP
  have HBQ := hid hbQ
  have HR := hid hR
  have HH := hid hH
  clear hR hbP hbQ hE hH
  have bx0 := heap_alloc_new w (actB 6 tx key val)
  unfold actB at HE HBP HBQ bx0
  have k0 : (w.alloc (.cells #[.int .i64 6, .int .i64 tx, .int .i64 key, .int .i64 val] 53)).cell? ⟨w.heap.size, 1, none⟩ = some (.int .i64 tx) := (cell_of_row _ w.heap.size 1 _ _ (0, 0) bx0).trans rfl
  clear bx0
  go_enter Tryz.func20, Tryz.ntmps20
  go_wp2
  go_region_held3 (fun W => W.cell? ⟨w.heap.size, 1, none⟩ = some (.int .i64 tx))
    (first | go_keep | exact y1 | exact y2 | exact y3)
    (first | (go_at_call 84
              refine HE.out.mono ?_
              rintro e w2 ⟨rfl, hP⟩
              have y1 : w2.cell? ⟨w.heap.size, 1, none⟩ = some (.int .i64 tx) := (cell_of_row _ w.heap.size 1 _ _ (0, 0) (HBP.out w2 hP)).trans rfl
              have HR2 := hid (HR.out w2 hP)
              clear hP)
           | (go_at_call 85
              refine HR2.out.mono ?_
              rintro e w3 ⟨rfl, hQ⟩
              have y2 : w3.cell? ⟨w.heap.size, 1, none⟩ = some (.int .i64 tx) := (cell_of_row _ w.heap.size 1 _ _ (0, 0) (HBQ.out w3 hQ)).trans rfl
              have HB := hid (bare_true c (errV c) w3 (errV_at w3 c) (HH.out w3 hQ))
              have HQ := hid hQ
              clear hQ)
           | (go_at_call 40
              refine HB.out.mono ?_
              rintro e w4 ⟨rfl, hB4⟩
              have y3 : w4.cell? ⟨w.heap.size, 1, none⟩ = some (.int .i64 tx) := (hB4.cell (p := ⟨w.heap.size, 1, none⟩) (World.block_lt_of_cell? w3 _ y2)).trans y2
              have HB4 := hid hB4
              clear hB4))
  go_wp2
  go_ret
  exact ⟨rfl, w3, HQ.out, HB4.out⟩
set_option maxRecDepth 100000 in
set_option maxHeartbeats 2000000 in
theorem does5 {v : Int} (hE : Calls Tryz.prog 82 #[.pointer (some ⟨s, 0, none⟩)] (w.alloc (actB 5 tx key val)) fun e w2 => e = .returned (.int .i64 v) ∧ P w2)
    (hR : ∀ w2, P w2 → Calls Tryz.prog 83 #[.pointer (some ⟨R, 0, none⟩)] w2 fun e w3 => e = .returned (.int .i64 v) ∧ Q w3) :
    Calls Tryz.prog 20 #[.pointer (some ⟨s, 0, none⟩), .pointer (some ⟨R, 0, none⟩), .agg #[.int .i64 5, .int .i64 tx, .int .i64 key, .int .i64 val]] w fun e w' => e = .returned (.bool true) ∧ Q w' := by
  have HE := hid hE
  have HR := hid hR
  clear hR hE
  unfold actB at HE
  go_enter Tryz.func20, Tryz.ntmps20
  go_wp2_with fail
  refine HE.out.mono ?_
  rintro e w2 ⟨rfl, hP⟩
  have HR2 := hid (HR.out w2 hP)
  clear hP HE HR
  go_wp2_with fail
  refine HR2.out.mono ?_
  rintro e w3 ⟨rfl, hQ⟩
  have HQ := hid hQ
  clear hQ HR2
  go_wp2
  go_ret
  exact ⟨rfl, HQ.out⟩
set_option maxRecDepth 100000 in
set_option maxHeartbeats 2000000 in
theorem does_none {wh : Int} (hw : wh < 0 ∨ 6 < wh) :
    Calls Tryz.prog 20 #[.pointer (some ⟨s, 0, none⟩), .pointer (some ⟨R, 0, none⟩), .agg #[.int .i64 wh, .int .i64 tx, .int .i64 key, .int .i64 val]] w fun e w' => e = .returned (.bool true) ∧ Below w.heap.size w w' := by
  have e0 : (wh == 0) = false := by simp; omega
  have e1 : (wh == 1) = false := by simp; omega
  have e2 : (wh == 2) = false := by simp; omega
  have e3 : (wh == 3) = false := by simp; omega
  have e4 : (wh == 4) = false := by simp; omega
  have e5 : (wh == 5) = false := by simp; omega
  have e6 : (wh == 6) = false := by simp; omega
  clear hw
  go_enter Tryz.func20, Tryz.ntmps20
  go_wp2
  go_ret
  exact ⟨rfl, (Below.refl _ w).alloc (Nat.le_refl _) _⟩
end
end Go.Proofs.YtjefgmeejhakbaaGreatDoor

/- engine.Many; engine.Begin at a level that there is none. -/
namespace Go.Proofs.YtjefgmeejhakbaaGreatDoor
open Go.RowKit
variable {w w' : World} {L : EnL} {E : Eng}
set_option maxRecDepth 100000 in
set_option maxHeartbeats 1000000 in
theorem manyE_any (h : EnAt w L E) (hks : ∀ l ∈ E.ks, l.length ≤ 1000000) :
    Calls Tryz.prog 87 #[.pointer (some ⟨L.s, 0, none⟩)] w fun e w' => e = .returned (.int .i64 (manyP E.ks : Nat)) ∧ w' = w := by
  have HL := hid (many_any _ _ _ _ _ w h.sto hks)
  clear h
  go_enter Tryz.func87, Tryz.ntmps87
  go_wp2_with fail
  refine HL.out.mono ?_
  rintro e w1 ⟨rfl, rfl⟩
  go_wp2
  go_ret
  exact ⟨rfl, rfl⟩
set_option maxRecDepth 100000 in
set_option maxHeartbeats 2000000 in
theorem begin_arg {level : Int} {s : Nat} (h0 : level ≠ 0) (h1 : level ≠ 1) (h2 : level ≠ 2) :
    Calls Tryz.prog 51 #[.pointer (some ⟨s, 0, none⟩), .int .i64 level] w fun e w' => e = .returned (.tuple #[.int .i64 0, errV 1]) ∧ w' = w := by
  have n0 : (level != 0) = true := by simpa using h0
  have n1 : (level != 1) = true := by simpa using h1
  have n2 : (level != 2) = true := by simpa using h2
  rw [show errV 1 = Value.iface 24 (.int .i64 1) from rfl]
  clear h0 h1 h2
  go_enter Tryz.func51, Tryz.ntmps51
  go_wp2
  go_ret2
  exact ⟨rfl, rfl⟩
end Go.Proofs.YtjefgmeejhakbaaGreatDoor

/- law.same and law.sameWrites: two rows that hold the same. -/
namespace Go.Proofs.YtjefgmeejhakbaaGreatDoor
open Go.RowKit
set_option maxRecDepth 100000 in
set_option maxHeartbeats 1000000 in
theorem sameW_nil (a b : Option Addr) (c d : Nat) (w : World) : Calls Tryz.prog 15 #[.slice a 0 c, .slice b 0 d] w fun e w' => e = .returned (.bool true) ∧ w' = w := by
  go_enter Tryz.func15, Tryz.ntmps15
  go_wp2
  go_loop [5] (fun i => i = .int .i64 0) (fun _ => 0)
  case atStart => rfl
  case round =>
    subst hrel
    go_wp2
    go_ret
    exact ⟨rfl, rfl⟩
def PRow (w : World) (g : Nat) (l : List (Int × Int)) : Prop := ∀ (j : Nat) (a v : Int), l[j]? = some (a, v) → w.cell? ⟨g, j * 2, none⟩ = some (.int .i64 a) ∧ w.cell? ⟨g, j * 2 + 1, none⟩ = some (.int .i64 v)
set_option maxRecDepth 100000 in
set_option maxHeartbeats 2000000 in
theorem sameW_walk (g h c d : Nat) (l : List (Int × Int)) (w : World) (hn : l.length ≤ 1000000) (h1 : PRow w g l) (h2 : PRow w h l) :
    Calls Tryz.prog 15 #[.slice (some ⟨g, 0, none⟩) l.length c, .slice (some ⟨h, 0, none⟩) l.length d] w fun e w' => e = .returned (.bool true) ∧ Below w.heap.size w w' := by
  have H1 := hid h1
  have H2 := hid h2
  clear h1 h2
  go_enter Tryz.func15, Tryz.ntmps15
  go_wp2
  go_loopw [5] (fun i wr => ∃ j : Nat, j ≤ l.length ∧ i = .int .i64 j ∧ ∃ q, wr = w.drewN q) (fun i _ => l.length - (intOf i).toNat)
  case atStart => exact ⟨0, Nat.zero_le _, rfl, 0, rfl⟩
  case round =>
    obtain ⟨j, hj, rfl, q, rfl⟩ := hrel
    by_cases hlt : j < l.length
    · obtain ⟨⟨x, y⟩, hx⟩ : ∃ x, l[j]? = some x := ⟨l[j], List.getElem?_eq_getElem hlt⟩
      obtain ⟨c1, c2⟩ := H1.out j x y hx
      obtain ⟨c3, c4⟩ := H2.out j x y hx
      have hj0 : (0 : Int) ≤ (j : Int) := by omega
      have hj1 : (j : Int) < (l.length : Int) := by omega
      clear hx
      go_wp2
      go_quiet (fail)
      go_wp2
      go_roundw
      case rel => exact ⟨j + 1, by omega, by go_num, _, rfl⟩
      case measure => simp [intOf]; omega
    · go_wp2
      go_ret
      exact ⟨rfl, below_drewN (Below.refl _ _) _⟩
theorem sameW_true (base base' : Nat) (tv uv : Value) (l : List (Int × Int)) (w : World) (hn : l.length ≤ 1000000) (h1 : w.ownsRow base 78 2 tv l.length (vrow l)) (h2 : w.ownsRow base' 78 2 uv l.length (vrow l)) :
    Calls Tryz.prog 15 #[tv, uv] w fun e w' => e = .returned (.bool true) ∧ Below w.heap.size w w' := by
  have hz : ∀ {x y : Option Addr} {c d : Nat}, Calls Tryz.prog 15 #[.slice x 0 c, .slice y 0 d] w fun e w' => e = .returned (.bool true) ∧ Below w.heap.size w w' := fun {x y c d} =>
    (sameW_nil x y c d w).mono (by rintro e w' ⟨rfl, rfl⟩; exact ⟨rfl, Below.refl _ _⟩)
  have hi : ∀ {g : Nat}, (∀ (j : Nat) (u : Value), (vrow l)[j]? = some u → w.cell? ⟨g, j, none⟩ = some u) → PRow w g l := fun h j a x hx => by
    have := vrow_get l j a x hx
    exact ⟨h _ _ this.1, h _ _ this.2⟩
  rcases row_slice h1 with ⟨rfl, e0⟩ | ⟨g, c, rfl, _, hc⟩
  · rcases row_slice h2 with ⟨rfl, _⟩ | ⟨g', c', rfl, _, hc'⟩
    · exact hz
    · rw [e0]; exact hz
  · rcases row_slice h2 with ⟨rfl, e0⟩ | ⟨g', c', rfl, _, hc'⟩
    · rw [e0]; exact hz
    · exact sameW_walk g g' c c' l w hn (hi hc) (hi hc')
end Go.Proofs.YtjefgmeejhakbaaGreatDoor
