/- RowBase KtActs BsCommitW BsCr KtRanP KtPost KtLastP: put together for a claim. -/
import Derived.Test.YtjefgmeejhakbaaGreatDoorCards
import Derived.Test.YtjefgmeejhakbaaGreatDoorTie
import Derived.Test.YtjefgmeejhakbaaGreatDoorMgAA
import Derived.Test.YtjefgmeejhakbaaGreatDoorMgAB
import Derived.ProofKit
import Derived.OpenShut
import Derived.Carry
import Derived.Deep.Slices
import Derived.Deep.SlicePairs
import Derived.Deep.DeepHandedRow
import Derived.LaidLaws
import Derived.LaidHandle
import Derived.Test.YtjefgmeejhakbaaGreatDoorMgAR
import Derived.Test.YtjefgmeejhakbaaGreatDoorMgAW
import Derived.Test.YtjefgmeejhakbaaGreatDoorMgAV
import Derived.Test.YtjefgmeejhakbaaGreatDoorMgAT
import Derived.Test.YtjefgmeejhakbaaGreatDoorEnHist
/- What the rows share: the listed variable. -/
namespace Go.Proofs.YtjefgmeejhakbaaGreatDoor
open Go.ChangeShapes Go.WideShapes Go.ChangeAt Go.RowKit

theorem tryd_own : ownKnob Tryz.prog.godebug = none := by kernel_rfl
theorem tryd_laidOut : laidOutB Tryz.prog = true := by kernel_rfl
theorem tryd_et : Tryz.prog.globalNamed "errors.errorType" = some 0 := by kernel_rfl
theorem tryd_rt : (Tryz.prog.cutTypes.find? (·.1 == "internal/reflectlite.rtype")).map (·.2) = some 263 := by kernel_rfl
theorem tryd_oneRow : ((List.range 364).filter fun t => Tryz.prog.rowNamed t [101, 114, 114, 111, 114]) = [33] := by kernel_rfl
theorem tryd_size : Tryz.prog.types.size = 364 := by kernel_rfl

/-- What the listed variable gives the walk: its one cell. -/
theorem handle_of_laid {W : World} (h : laidMetH Tryz.prog [("errors.errorType", Rows.laid_errors_errorType)] W) : Handle W := by
  have h' : laidMet Tryz.prog [] W ∧ handlesMet Tryz.prog [("errors.errorType", Rows.laid_errors_errorType)] W := h
  obtain ⟨name, u, ty, e1, e2, e3, e4, e5⟩ := h'.2 _ (List.mem_singleton.2 rfl)
  have en : name = [101, 114, 114, 111, 114] := (Option.some.inj e1).symm
  subst en
  obtain rfl := Option.some.inj (tryd_rt.symm.trans e2)
  have hm : ty ∈ (List.range 364).filter fun t => Tryz.prog.rowNamed t [101, 114, 114, 111, 114] := List.mem_filter.2 ⟨List.mem_range.2 (by rw [← tryd_size]; exact e3), e4⟩
  rw [tryd_oneRow] at hm
  obtain rfl := List.mem_singleton.1 hm
  have hh : typeHandle Tryz.prog 33 = .pointer (some ⟨1, 33, none⟩) := by kernel_rfl
  rw [hh] at e5
  simpa [Handle] using World.var?_cell tryd_et e5 0

theorem tryd_cells3 : Tryz.prog.cellsOf 3 = 1 := by kernel_rfl

/-- An address at which a cell lies has no spot. -/
theorem addr_plain {w : World} {a : Addr} {v : Value} (h : w.cell? (a.add 0) = some v) : ∃ b off, a = ⟨b, off, none⟩ := by
  obtain ⟨b, off, sp⟩ := a
  cases sp with
  | none => exact ⟨b, off, rfl⟩
  | some s =>
    exfalso
    simp only [Addr.add, if_true, World.cell?, Option.isSome_some] at h
    split at h <;> simp at h
theorem i64_of_wf {a : Int} (h : (Lit.int .i64 a).wf = true) : I64 a := by
  simp [Lit.wf, IntKind.min, IntKind.max, IntKind.signed, IntKind.bits] at h
  unfold I64
  omega

end Go.Proofs.YtjefgmeejhakbaaGreatDoor

/- Acts, and numbers, that came in. -/
namespace Go.Proofs.YtjefgmeejhakbaaGreatDoor
open Go.RowKit

/-- Acts that came in. -/
def ActsAt (W : World) (ad : Option Addr) (n : Nat) : Prop := ∀ i, i < n → ∃ (b off : Nat) (a0 a1 a2 a3 : Int), ad = some ⟨b, off, none⟩ ∧ W.cell? ⟨b, off + i * 4, none⟩ = some (.int .i64 a0) ∧ W.cell? ⟨b, off + i * 4 + 1, none⟩ = some (.int .i64 a1) ∧ W.cell? ⟨b, off + i * 4 + 2, none⟩ = some (.int .i64 a2) ∧ W.cell? ⟨b, off + i * 4 + 3, none⟩ = some (.int .i64 a3)
/-- Numbers that came in. -/
def IntsAt (W : World) (ad : Option Addr) (n : Nat) : Prop := ∀ i, i < n → ∃ (b off : Nat) (x : Int), ad = some ⟨b, off, none⟩ ∧ W.cell? ⟨b, off + i, none⟩ = some (.int .i64 x)

end Go.Proofs.YtjefgmeejhakbaaGreatDoor

/- base's Base.Commit of one that wrote something. -/
namespace Go.Proofs.YtjefgmeejhakbaaGreatDoor
open Go.RowKit

/-- What is not the base's is as it was. -/
structure BPost (b d : Nat) (L L' : EnL) (dv dv' : List Value) (w w' : World) : Prop where
  os : w'.os = w.os
  tape : w'.tape = w.tape
  output : w'.output = w.output
  size : w.heap.size ≤ w'.heap.size
  block : ∀ k, k < w.heap.size → k ≠ b → k ≠ d → ¬ L.own k → w'.heap[k]? = w.heap[k]?
  enw : ∀ g, L'.own g → L.own g ∨ w.heap.size ≤ g
  dsw : ∀ g, dOwn d dv' g → dOwn d dv g ∨ w.heap.size ≤ g
section
variable {w w' w1 : World} {b d : Nat} {L L' L'' : EnL} {E : Eng} {dv dv' dv'' : List Value} {D : Dsk} {used torn : Int} {down : Bool}
theorem BPost.of_below (h : Below w.heap.size w w') : BPost b d L L dv dv w w' := ⟨h.os, h.tape, h.output, h.size, fun k hk _ _ _ => h.block k hk, fun _ hg => .inl hg, fun _ hg => .inl hg⟩
theorem BPost.trans (h : BPost b d L L' dv dv' w w1) (k : BPost b d L' L'' dv' dv'' w1 w') : BPost b d L L'' dv dv'' w w' :=
  ⟨k.os.trans h.os, k.tape.trans h.tape, k.output.trans h.output, Nat.le_trans h.size k.size, fun i hi h1 h2 h3 => (k.block i (Nat.lt_of_lt_of_le hi h.size) h1 h2 (fun ho => (h.enw i ho).elim h3 (fun e => by omega))).trans (h.block i hi h1 h2 h3),
    fun g hg => (k.enw g hg).elim (fun h1 => h.enw g h1) (fun h1 => .inr (Nat.le_trans h.size h1)), fun g hg => (k.dsw g hg).elim (fun h1 => h.dsw g h1) (fun h1 => .inr (Nat.le_trans h.size h1))⟩
theorem BPost.of_engine (h : KeptO L.own L'.own w w') : BPost b d L L' dv dv w w' := ⟨h.os, h.tape, h.output, h.size, fun k hk _ _ h3 => h.block k hk h3, h.sub, fun _ hg => .inl hg⟩

variable {recs : List (List (Int × Int))}
set_option maxRecDepth 100000 in
set_option maxHeartbeats 2000000 in
theorem bcommit_ok (h : BasAt w b d L E dv D recs.length torn false) (hr : Recs D recs) {a0 : Int} {K0 : Int → Option Int} (hM : Mid a0 K0 E.ce noQ) {i : Nat} {t : Tx} (ht : E.txs[i]? = some t) (hs : t.state = 0) (hb : betB t.ahead t.behind = false) (hne : writesP t.vals ≠ []) (hleft : I64 (D.left - 1)) (hpw : powerB D = true) {R : Int × Eng} (hR : commitE 7 E i = some R) :
    Calls Tryz.prog 43 #[.pointer (some ⟨b, 0, none⟩), .int .i64 ((i : Int) + 1)] w fun e w' => e = .returned (errV R.1) ∧ ∃ L' dv', BasAt w' b d L' R.2 dv' (writeD D recs.length (recP (writesP t.vals)) torn) (recs.length + 1) torn false ∧ BPost b d L L' dv dv' w w' := by
  have c1 := h.cell 1
  simp only [basCells, List.getElem?_toArray, List.getElem?_cons_zero, List.getElem?_cons_succ] at c1
  have HW := hid (writesE_ok h.en ht)
  have HH := hid h
  have HT := hid (And.intro ht hs)
  have HM := hid hM
  have HR7 := hid hR
  have HRC := hid hr
  have HBT := hid hb
  have hwl := writesP_len t.vals
  have hfv := hM.fine ht
  have hvk := (hM.reg.fair i _ (cs_get ht)).vk
  have HWF := hid (show ∀ p ∈ writesP t.vals, Fine p from writesP_fine hvk hfv)
  obtain ⟨ws, hws⟩ : ∃ ws, writesP t.vals = ws := ⟨_, rfl⟩
  rw [hws] at HW hne hwl HWF ⊢
  have gw0 : ((ws.length : Int) == 0) = false := beq_false_of_ne (fun e => hne (List.eq_nil_of_length_eq_zero (by omega)))
  clear h hM ht hs hR hws hb hr hfv hvk
  go_enter Tryz.func43, Tryz.ntmps43
  go_wp2_with fail
  refine HW.out.mono ?_
  rintro e w1 ⟨v, rfl, hrow, hB1⟩
  rcases row_slice hrow with ⟨_, e0⟩ | ⟨g, cap, rfl, hg, hc⟩
  · exact (hne (List.eq_nil_of_length_eq_zero e0)).elim
  have HH1 := hid (HH.out.below hB1)
  have HB1 := hid hB1
  have d1 := HH1.out.cell 1
  simp only [basCells, List.getElem?_toArray, List.getElem?_cons_zero, List.getElem?_cons_succ] at d1
  have hRD := ready_main HH1.out.en HT.out.1 HT.out.2
  rw [HBT.out, if_neg (by simp)] at hRD
  have HRD := hid hRD
  have HREC := hid (record_any (some ⟨g, 0, none⟩) cap ws w1 hwl (fun p hp => fine_key (HWF.out p hp)) (fun j a x hax => ⟨g, 0, rfl, hg, by rw [Nat.zero_add]; exact hc _ _ (vrow_get ws j a x hax).1, by rw [Nat.zero_add]; exact hc _ _ (vrow_get ws j a x hax).2⟩))
  clear hrow hB1 HW c1 hRD hc
  go_wp2_with fail
  refine HRD.out.mono ?_
  rintro e w2 ⟨rfl, hw2⟩
  rw [hw2]
  clear hw2 w2 HRD
  go_wp2_with fail
  refine HREC.out.mono ?_
  rintro e w2 ⟨rv, rfl, hrow2, hB2⟩
  have hrec10 : (recP ws).length = 9 + 9 * ws.length := recP_len ws
  rcases row_slice hrow2 with ⟨_, e0⟩ | ⟨g2, cap2, rfl, hg2, hc2⟩
  · omega
  have HH2 := hid (HH1.out.below hB2)
  have HB2 := hid hB2
  have hin := recP_in ws hwl (fun p hp => fine_key (HWF.out p hp))
  have HBW := hid (bwrite_ok (g := g2) (off := 0) (cap := cap2) HH2.out HRC.out hwl (fun j x hx => ⟨hin x (List.mem_of_getElem? hx), g2, 0, rfl, by rw [Nat.zero_add]; exact hc2 _ _ (u8V_get hx)⟩) hleft hpw)
  clear hrow2 hB2 HREC hc2 hin hrec10
  go_wp2_with fail
  refine HBW.out.mono ?_
  rintro e w3 ⟨rfl, dv3, hB3, hK3, hO3⟩
  have HB3 := hid hB3
  have HP3 := hid (show BPost b d L L dv dv3 w w3 from ((BPost.of_below HB1.out).trans (BPost.of_below HB2.out)).trans ⟨hK3.os, hK3.tape, hK3.output, hK3.size, fun k hk h1 h2 _ => hK3.block k hk h1 h2, fun _ hg => .inl hg, hO3⟩)
  have e1 := hB3.cell 1
  simp only [basCells, List.getElem?_toArray, List.getElem?_cons_zero, List.getElem?_cons_succ] at e1
  have HCM := hid (commit_main hB3.en HM.out.fits HT.out.1 HT.out.2 (HM.out.fine HT.out.1) (by have := HM.out.last_le; have e : E.ce.last = E.last := rfl; omega) (by have := HM.out.com.nwc; have := HM.out.cw_len; have e : E.ce.nw = E.nw := rfl; omega) (by have := HM.out.com_len; have e : E.ce.com = E.com := rfl; rw [e] at this; omega) (HM.out.inst_ks i) HR7.out)
  clear hB3 hK3 hO3 HBW
  go_wp2_with fail
  refine HCM.out.mono ?_
  rintro e w4 ⟨rfl, hP⟩
  obtain ⟨L4, hB4, hK4, _⟩ := HB3.out.post hP
  have HF := hid (And.intro hB4 (HP3.out.trans (BPost.of_engine hK4)))
  clear hP hB4 hK4 HCM
  go_wp2
  go_ret
  exact ⟨rfl, L4, dv3, HF.out⟩
set_option maxRecDepth 100000 in
set_option maxHeartbeats 2000000 in
theorem bcommit_down (h : BasAt w b d L E dv D recs.length torn false) (hr : Recs D recs) {a0 : Int} {K0 : Int → Option Int} (hM : Mid a0 K0 E.ce noQ) {i : Nat} {t : Tx} (ht : E.txs[i]? = some t) (hs : t.state = 0) (hb : betB t.ahead t.behind = false) (hne : writesP t.vals ≠ []) (htn : 0 ≤ torn) (hpw : powerB D = false) :
    Calls Tryz.prog 43 #[.pointer (some ⟨b, 0, none⟩), .int .i64 ((i : Int) + 1)] w fun e w' => e = .returned (.iface 24 (.int .i64 14)) ∧ ∃ dv', BasAt w' b d L E dv' (writeD D recs.length (recP (writesP t.vals)) torn) recs.length torn true ∧ BPost b d L L dv dv' w w' := by
  have c1 := h.cell 1
  simp only [basCells, List.getElem?_toArray, List.getElem?_cons_zero, List.getElem?_cons_succ] at c1
  have HW := hid (writesE_ok h.en ht)
  have HH := hid h
  have HT := hid (And.intro ht hs)
  have HRC := hid hr
  have HBT := hid hb
  have hwl := writesP_len t.vals
  have hfv := hM.fine ht
  have hvk := (hM.reg.fair i _ (cs_get ht)).vk
  have HWF := hid (show ∀ p ∈ writesP t.vals, Fine p from writesP_fine hvk hfv)
  obtain ⟨ws, hws⟩ : ∃ ws, writesP t.vals = ws := ⟨_, rfl⟩
  rw [hws] at HW hne hwl HWF ⊢
  have gw0 : ((ws.length : Int) == 0) = false := beq_false_of_ne (fun e => hne (List.eq_nil_of_length_eq_zero (by omega)))
  have hne14 : ∀ w, (binOp .neq 33 (.iface 24 (.int .i64 14)) .nilIface).run Tryz.prog w = .ok (.bool true) w := fun _ => by kernel_rfl
  clear h hM ht hs hws hb hr hfv hvk
  go_enter Tryz.func43, Tryz.ntmps43
  go_wp2_with fail
  refine HW.out.mono ?_
  rintro e w1 ⟨v, rfl, hrow, hB1⟩
  rcases row_slice hrow with ⟨_, e0⟩ | ⟨g, cap, rfl, hg, hc⟩
  · exact (hne (List.eq_nil_of_length_eq_zero e0)).elim
  have HH1 := hid (HH.out.below hB1)
  have HB1 := hid hB1
  have d1 := HH1.out.cell 1
  simp only [basCells, List.getElem?_toArray, List.getElem?_cons_zero, List.getElem?_cons_succ] at d1
  have hRD := ready_main HH1.out.en HT.out.1 HT.out.2
  rw [HBT.out, if_neg (by simp)] at hRD
  have HRD := hid hRD
  have HREC := hid (record_any (some ⟨g, 0, none⟩) cap ws w1 hwl (fun p hp => fine_key (HWF.out p hp)) (fun j a x hax => ⟨g, 0, rfl, hg, by rw [Nat.zero_add]; exact hc _ _ (vrow_get ws j a x hax).1, by rw [Nat.zero_add]; exact hc _ _ (vrow_get ws j a x hax).2⟩))
  clear hrow hB1 HW c1 hRD hc
  go_wp2_with fail
  refine HRD.out.mono ?_
  rintro e w2 ⟨rfl, hw2⟩
  rw [hw2]
  clear hw2 w2 HRD
  go_wp2_with fail
  refine HREC.out.mono ?_
  rintro e w2 ⟨rv, rfl, hrow2, hB2⟩
  have hrec10 : (recP ws).length = 9 + 9 * ws.length := recP_len ws
  obtain ⟨_, rad, rcap, erv, hcap2, hx2⟩ := bytesV_own hrow2
  rcases row_slice hrow2 with ⟨_, e0⟩ | ⟨g2, cap2, rfl, hg2, hc2⟩
  · omega
  have hcap3 : (recP ws).length ≤ cap2 := by injection erv with _ _ e3; omega
  have HH2 := hid (HH1.out.below hB2)
  have HB2 := hid hB2
  have hin := recP_in ws hwl (fun p hp => fine_key (HWF.out p hp))
  have HBW := hid (bwrite_off (g := g2) (off := 0) (cap := cap2) HH2.out HRC.out hwl (fun j x hx => ⟨hin x (List.mem_of_getElem? hx), g2, 0, rfl, by rw [Nat.zero_add]; exact hc2 _ _ (u8V_get hx)⟩) hcap3 htn hpw)
  clear hrow2 hB2 HREC hc2 hin hrec10 erv hcap2 hx2
  go_wp2_with fail
  refine HBW.out.mono ?_
  rintro e w3 ⟨rfl, dv3, hB3, hK3, hO3⟩
  have HF := hid (And.intro hB3 (show BPost b d L L dv dv3 w w3 from ((BPost.of_below HB1.out).trans (BPost.of_below HB2.out)).trans ⟨hK3.os, hK3.tape, hK3.output, hK3.size, fun k hk h1 h2 _ => hK3.block k hk h1 h2, fun _ hg => .inl hg, hO3⟩))
  clear hB3 hK3 hO3 HBW
  go_wp2
  go_ret
  exact ⟨rfl, dv3, HF.out⟩
end

end Go.Proofs.YtjefgmeejhakbaaGreatDoor

/- A base, its disk and a map beside them, over a ground. -/
namespace Go.Proofs.YtjefgmeejhakbaaGreatDoor
open Go.RowKit

/-- An empty disk. -/
def dsk0 : Dsk := ⟨List.replicate 250 [], false, 0⟩
def dv0 : List Value := List.replicate 250 (.slice none 0 0)
theorem zero_disk : Tryz.zeroCells96 = (dv0 ++ [Value.bool false, Value.int .i64 0]).toArray := by kernel_rfl
theorem disk0 (w : World) : DiskAt (w.alloc (.cells Tryz.zeroCells96 96)) w.heap.size dv0 dsk0 := by
  refine ⟨by rw [zero_disk]; exact heap_alloc_new w _, List.length_replicate, List.length_replicate, fun i v l hv hl => ?_, fun l hl => ?_⟩
  · have e1 : v = .slice none 0 0 := List.eq_of_mem_replicate (List.mem_of_getElem? hv)
    have e2 : l = [] := List.eq_of_mem_replicate (List.mem_of_getElem? (show (List.replicate 250 [])[i]? = some l from hl))
    subst e1 e2
    exact ⟨fun g hg => (by cases hg), none, 0, rfl, Nat.le_refl _, fun i x hx => (by cases hx)⟩
  · have e2 : l = [] := List.eq_of_mem_replicate (show l ∈ List.replicate 250 [] from hl)
    subst e2
    exact ⟨Nat.zero_le _, fun x hx => (by cases hx)⟩
theorem dOwn0 {d g : Nat} (h : dOwn d dv0 g) : g = d := by
  rcases h with h | ⟨i, v, hv, hg⟩
  · exact h
  · have e1 : v = .slice none 0 0 := List.eq_of_mem_replicate (List.mem_of_getElem? hv)
    subst e1
    cases hg
theorem dskOk0 : DskOk dsk0 [] := by
  have hn : ∀ (j : Nat) (l : List Int), dsk0.pl[j]? = some l → wholeP l = false := fun j l hl => by
    have e2 : l = [] := List.eq_of_mem_replicate (List.mem_of_getElem? (show (List.replicate 250 [])[j]? = some l from hl))
    subst e2
    rfl
  exact ⟨⟨fun j ws h => (by cases h), fun ws h => (by cases h), fun ws h => (by cases h), fun ws h => (by cases h), by simp, fun l hl => hn _ l hl⟩, List.length_replicate, fun j l _ hl => hn j l hl, by decide⟩

/-- All that a walk over a base has in memory: the base, and all of it lies above the ground. -/
structure CrAt (w0 w : World) (b d : Nat) (L : EnL) (E : Eng) (dv : List Value) (D : Dsk) (used torn : Int) (down : Bool) : Prop where
  bas : BasAt w b d L E dv D used torn down
  fr : Below w0.heap.size w0 w
  lob : w0.heap.size ≤ b
  lod : ∀ g, dOwn d dv g → w0.heap.size ≤ g
  loe : ∀ g, L.own g → w0.heap.size ≤ g
section
variable {w0 w w' : World} {b d : Nat} {L L' : EnL} {E E' : Eng} {dv dv' : List Value} {D D' : Dsk} {used torn used' torn' : Int} {down down' : Bool}
theorem CrAt.lod' (h : CrAt w0 w b d L E dv D used torn down) : w0.heap.size ≤ d := h.lod d (.inl rfl)
theorem CrAt.bpost (h : CrAt w0 w b d L E dv D used torn down) (hB : BasAt w' b d L' E' dv' D' used' torn' down') (hP : BPost b d L L' dv dv' w w') : CrAt w0 w' b d L' E' dv' D' used' torn' down' := by
  have hs := h.fr.size
  refine ⟨hB, h.fr.trans ⟨hP.os, hP.tape, hP.output, hP.size, fun k hk => hP.block k (by omega) (fun e => ?_) (fun e => ?_) (fun ho => ?_)⟩, h.lob, fun g hg => ?_, fun g hg => ?_⟩
  · have := h.lob; omega
  · have := h.lod'; omega
  · have := h.loe k ho; omega
  · rcases hP.dsw g hg with h1 | h1
    · exact h.lod g h1
    · omega
  · rcases hP.enw g hg with h1 | h1
    · exact h.loe g h1
    · omega
theorem CrAt.below (h : CrAt w0 w b d L E dv D used torn down) (hB : Below w.heap.size w w') : CrAt w0 w' b d L E dv D used torn down := h.bpost (h.bas.below hB) (BPost.of_below hB)
theorem CrAt.drewN (h : CrAt w0 w b d L E dv D used torn down) (q : Nat) : CrAt w0 (w.drewN q) b d L E dv D used torn down := h.below (below_drewN (Below.refl _ w) q)
theorem CrAt.turn (h : CrAt w0 w b d L E dv D used torn down) (hE : EnAt w' L' E') (hK : KeptO L.own L'.own w w') (hs : L'.s = L.s) : CrAt w0 w' b d L' E' dv D used torn down := h.bpost (h.bas.turn hE hK hs) (BPost.of_engine hK)
theorem CrAt.engine (h : CrAt w0 w b d L E dv D used torn down) (hP : EnPost L E' w w') : ∃ L', CrAt w0 w' b d L' E' dv D used torn down ∧ KeptO L.own L'.own w w' := by
  obtain ⟨L', h1, h2, _⟩ := h.bas.post hP
  exact ⟨L', h.bpost h1 (BPost.of_engine h2), h2⟩
end
/-- A base that was opened. -/
theorem cr_open {w0 w w' : World} {d b : Nat} {L : EnL} {dv : List Value} {D : Dsk} {recs : List (List (Int × Int))} (hD : DiskAt w d dv D) (hf : Below w0.heap.size w0 w) (hd : ∀ g, dOwn d dv g → w0.heap.size ≤ g)
    (h : w'.heap[b]? = some (.cells (basCells d L.s recs.length 0 false) 193 (0, 0)) ∧ EnAt w' L (engO recs.length recs.flatten) ∧ Below w.heap.size w w' ∧ (∀ g, L.own g → w.heap.size ≤ g) ∧ w.heap.size ≤ b ∧ ¬ L.own b) : CrAt w0 w' b d L (engO recs.length recs.flatten) dv D recs.length 0 false := by
  obtain ⟨h1, h2, h3, h4, h5, h6⟩ := h
  have hs := hf.size
  refine ⟨⟨h1, hD.below h3, h2, h6, fun g hg => ⟨fun ho => ?_, fun e => ?_⟩⟩, hf.trans (h3.mono hs), by omega, hd, fun g hg => by have := h4 g hg; omega⟩
  · have := h4 g ho; have := hD.own_lt hg; omega
  · have := hD.own_lt hg; omega

end Go.Proofs.YtjefgmeejhakbaaGreatDoor

/- Plain: keep's fact: two that write what the other one read. -/
namespace Go.Proofs.YtjefgmeejhakbaaGreatDoor

noncomputable def rA : Eng := { eng0 with txs := [] ++ [newTx 2 0] }
noncomputable def rB : Eng := { rA with txs := rA.txs ++ [newTx 2 0] }
noncomputable def rC : Eng := ((readE 7 rB 0 1).map (·.2)).getD eng0
noncomputable def rD : Eng := ((readE 7 rC 1 2).map (·.2)).getD eng0
noncomputable def rF : Eng := ((writeE 7 (fun _ => 0) rD 0 2 5).map (·.2)).getD eng0
noncomputable def rG : Eng := ((writeE 7 (fun _ => 0) rF 1 1 6).map (·.2)).getD eng0
set_option maxRecDepth 100000
theorem rC_eq : readE 7 rB 0 1 = some ((0, 8), rC) := rfl
theorem rD_eq : readE 7 rC 1 2 = some ((0, 8), rD) := rfl
theorem rF_eq : writeE 7 (fun _ => 0) rD 0 2 5 = some ((true, 0), rF) := rfl
theorem rG_eq : writeE 7 (fun _ => 0) rF 1 1 6 = some ((true, 0), rG) := rfl
noncomputable def rH : Eng := (endF 7 (loseE rG 0 13) 0 3).getD eng0
noncomputable def rI : Eng := (endF 7 { (installE rH 1) with com := rH.com ++ [1] } 1 2).getD eng0
theorem rH_eq : commitE 7 rG 0 = some (13, rH) := by
  obtain ⟨t, ht, ha, hb⟩ : ∃ t, rG.txs[0]? = some t ∧ t.ahead 2 = true ∧ t.behind 2 = true := ⟨_, rfl, rfl, rfl⟩
  have h1 : endF 7 (loseE rG 0 13) 0 3 = some rH := rfl
  unfold commitE
  rw [ht]
  simp only
  rw [if_pos (betB_true.2 ⟨⟨2, ha⟩, ⟨2, hb⟩⟩), h1]
  rfl
theorem rI_eq : commitE 7 rH 1 = some (0, rI) := by
  obtain ⟨t, ht, ha⟩ : ∃ t, rH.txs[1]? = some t ∧ ∀ x, t.ahead x = ((false || x == 1) && x != 1) := ⟨_, rfl, fun _ => rfl⟩
  have h1 : endF 7 { (installE rH 1) with com := rH.com ++ [1] } 1 2 = some rI := rfl
  unfold commitE
  rw [ht]
  simp only
  rw [if_neg (by
    rw [betB_false]
    · simp
    · rintro ⟨⟨x, hx⟩, _⟩
      rw [ha] at hx
      simp at hx), h1]
  rfl
theorem rI_last : rI.last = 1 := rfl
theorem rA_mid : Mid0 rA := mid0_eng0.begin (level := 2) (.inr (.inr rfl)) (by decide) (by decide)
theorem rB_mid : Mid0 rB := rA_mid.begin (level := 2) (.inr (.inr rfl)) (by decide) (by decide)
theorem rB_rd : ∀ u ∈ rB.txs, u.reads.length ≤ 0 := fun u hu => by
  have : u = newTx 2 0 := by
    rcases List.mem_cons.1 (show u ∈ [newTx 2 0, newTx 2 0] from hu) with h | h
    · exact h
    · exact List.mem_singleton.1 h
  rw [this]
  exact Nat.le_refl _
theorem rC_went : Went rB rC 1 := went_read rB_mid rB_rd (i := 0) (u := newTx 2 0) rfl rfl (by decide) rC_eq
theorem rD_went : Went rC rD 2 := by
  obtain ⟨u, hu, hs⟩ : ∃ u, rC.txs[1]? = some u ∧ u.state = 0 := ⟨_, rfl, rfl⟩
  exact went_read rC_went.mid rC_went.rd hu hs (by decide) rD_eq
theorem rD_rank : Ranked rD.T (fun _ => 0) := fun k x h => (by cases h)
theorem rF_went : Went rD rF 2 := by
  obtain ⟨u, hu, hs⟩ : ∃ u, rD.txs[0]? = some u ∧ u.state = 0 := ⟨_, rfl, rfl⟩
  exact went_write rD_went.mid rD_went.rd hu hs (by decide) (by decide) rD_rank rF_eq
theorem rF_rank : Ranked rF.T (fun _ => 0) := fun k x h => by
  have e : rF.T = updT (fun _ => []) 2 [1] := rfl
  rw [e] at h
  unfold updT at h
  split at h <;> cases h
theorem rG_went : Went rF rG 2 := by
  obtain ⟨u, hu, hs⟩ : ∃ u, rF.txs[1]? = some u ∧ u.state = 0 := ⟨_, rfl, rfl⟩
  exact went_write rF_went.mid rF_went.rd hu hs (by decide) (by decide) rF_rank rG_eq
theorem rH_went : Went rG rH 2 := by
  obtain ⟨u, hu, hs⟩ : ∃ u, rG.txs[0]? = some u ∧ u.state = 0 := ⟨_, rfl, rfl⟩
  exact (went_commit rG_went.mid rG_went.rd hu hs rH_eq).1

end Go.Proofs.YtjefgmeejhakbaaGreatDoor

/- An engine that was turned, beside its tale; that there is an end to each call. -/
namespace Go.Proofs.YtjefgmeejhakbaaGreatDoor
open Go.RowKit

theorem TaleAt.post {w0 : Gr} {w w' : World} {L : EnL} {E E' : Eng} {TL : TalL} {t : Tal} (h : TaleAt w0 w L E TL t) (hp : EnPost L E' w w') : ∃ L', TaleAt w0 w' L' E' TL t ∧ L'.s = L.s ∧ E'.txs.length = E.txs.length := by
  obtain ⟨L', hE, hK, hs, hb⟩ := hp
  have hl : E'.txs.length = E.txs.length := by
    rw [← hE.len, ← h.en.len]
    have := congrArg List.length hb
    simpa [EnL.bs] using this
  exact ⟨L', h.engine hE hK hs hl, hs, hl⟩
/-- A row that is not the engine's lies as it lay. -/
theorem row_post {w w' : World} {L : EnL} {E' : Eng} {base sz n : Nat} {T : TypeId} {v : Value} {xs : List Value} (hp : EnPost L E' w w') (h : w.ownsRow base T sz v n xs) (hn : ∀ g, v.ownBlock = some g → ¬ L.own g) : w'.ownsRow base T sz v n xs := by
  obtain ⟨L', _, hK, _, _⟩ := hp
  exact owns_same h (fun g hg => hK.block g (owns_lt h hg) (hn g hg))
theorem TaleAt.handle {w0 : Gr} {w : World} {L : EnL} {E : Eng} {TL : TalL} {t : Tal} (h : TaleAt w0 w L E TL t) (hg : Handle w0.w ∧ w0.P 0) : Handle w := h.cell hg.2 hg.1
section
variable {E : Eng} {i : Nat} {u : Tx}
theorem commit_ends (hM : Mid0 E) (hu : E.txs[i]? = some u) (hs : u.state = 0) : ∃ R, commitE 7 E i = some R := by
  have hl : liveB u.state = true := live_iff.2 (.inl hs)
  by_cases hb : Between u.ahead u.behind
  · obtain ⟨E', h, _⟩ := commit_bad (goes_true 0 (fun _ => none)) hM hu hl hb trivial
    exact ⟨_, h⟩
  · obtain ⟨E', h, _⟩ := commit_ok (goes_true 0 (fun _ => none)) hM hu hl hb trivial
    exact ⟨_, h⟩
theorem abort_ends (hM : Mid0 E) (hu : E.txs[i]? = some u) (hl : liveB u.state = true) : ∃ E', endF 7 (loseE E i 0) i 3 = some E' := by
  obtain ⟨E', h, _⟩ := lose_ok (goes_true 0 (fun _ => none)) hM hu hl trivial
  exact ⟨_, h⟩
theorem read_ends (hM : Mid0 E) (hu : E.txs[i]? = some u) (hs : u.state = 0) {key : Int} (hk : 0 ≤ key ∧ key < 10) : ∃ R, readE 7 E i key = some R ∧ (R.1.2 = 0 ∨ R.1.2 = 8 ∨ R.1.2 = 13) := by
  cases hv : u.vals key with
  | some v =>
    refine ⟨((v, 0), E), ?_, .inl rfl⟩
    unfold readE
    rw [hu]
    simp only
    rw [hv]
  | none =>
    obtain ⟨R, h, _, _, h3, _⟩ := read_ok (goes_true 0 (fun _ => none)) hM hu hs hk hv (fun _ => trivial) (fun _ _ _ => trivial) (fun _ _ _ => trivial)
    refine ⟨R, h, ?_⟩
    rcases h3 with ⟨h3, _⟩ | h3
    · rw [h3]
      unfold verP
      split
      · exact .inl rfl
      · exact .inr (.inl rfl)
    · rw [h3]
      exact .inr (.inr rfl)
theorem write_ends (hM : Mid0 E) (hu : E.txs[i]? = some u) (hs : u.state = 0) {key val : Int} (hk : 0 ≤ key ∧ key < 10) (hv : -1099511627776 ≤ val ∧ val ≤ 1099511627776) {q : Int → Nat} (hq : Ranked E.T q) : ∃ R, writeE 7 q E i key val = some R := by
  obtain ⟨R, h, _⟩ := write_ok (goes_true 0 (fun _ => none)) hM hu hs hk hv hq trivial trivial (fun _ _ _ _ => trivial) (fun _ _ _ _ _ _ => trivial)
  exact ⟨R, h⟩
end
/-- What a read tells, whatever it is of. -/
theorem read_any {w : World} {L : EnL} {E : Eng} (h : EnAt w L E) (hg : Handle w) (hM : Mid0 E) (hrd : ∀ u ∈ E.txs, u.reads.length ≤ 100000) {i : Nat} {u : Tx} (hu : E.txs[i]? = some u) (hs : u.state = 0) {key : Int} (hk : 0 ≤ key ∧ key < 10) {R : (Int × Int) × Eng} (hR : readE 7 E i key = some R) :
    Calls Tryz.prog 52 #[.pointer (some ⟨L.s, 0, none⟩), .int .i64 ((i : Int) + 1), .int .i64 key] w fun e w' => e = .returned (.tuple #[.int .i64 R.1.1, errV R.1.2]) ∧ EnPost L R.2 w w' := by
  obtain ⟨l, hl, _⟩ := h.get hu
  cases hv : u.vals key with
  | some v =>
    have e : R = ((v, 0), E) := by
      unfold readE at hR
      rw [hu] at hR
      simp only at hR
      rw [hv] at hR
      injection hR with hR
      exact hR.symm
    subst e
    refine (read_own h hl hu hs (by unfold I64; omega) hv).mono ?_
    rintro e w' ⟨rfl, hw⟩
    rw [hw]
    exact ⟨rfl, L, h, KeptO.refl _ _, rfl, rfl⟩
  | none =>
    obtain ⟨k, rfl⟩ : ∃ k : Nat, key = k := ⟨key.toNat, by omega⟩
    exact read_main h hg hM.fits hl hu hs (by have := hrd u (List.mem_of_getElem? hu); omega) (hM.open_wr hu (live_iff.2 (.inl hs))) (by omega) hv hR

end Go.Proofs.YtjefgmeejhakbaaGreatDoor

/- Plain: the last one of each key, by the history. -/
namespace Go.Proofs.YtjefgmeejhakbaaGreatDoor
/-- By the writes of a history, who wrote a key last. -/
def lastH (l : List (Int × Int × Bool × Int)) : Int → Option Int := l.foldl (fun f o => if o.2.2.1 = true then updT f o.2.1 (some o.1) else f) (fun _ => none)
theorem lastH_snoc (l : List (Int × Int × Bool × Int)) (o : Int × Int × Bool × Int) : lastH (l ++ [o]) = if o.2.2.1 = true then updT (lastH l) o.2.1 (some o.1) else lastH l := by
  unfold lastH
  rw [List.foldl_append]
  rfl
theorem lastH_reads (l : List (Int × Int × Bool × Int)) (n : Int) (r : List (Int × Int)) : lastH (l ++ readOps n r) = lastH l := by
  unfold lastH
  rw [List.foldl_append]
  generalize List.foldl (fun f o => if o.2.2.1 = true then updT f o.2.1 (some o.1) else f) (fun _ => none) l = f
  induction r generalizing f with
  | nil => rfl
  | cons p r ih => exact ih f
theorem lastH_keys (l : List (Int × Int × Bool × Int)) (n : Int) (V : Int → Option Int) : ∀ (ks : List Int) (k : Int), lastH (l ++ (ks.map (fun k => (k, (V k).getD 0))).map (fun p => (n, p.1, true, (0 : Int)))) k = if k ∈ ks then some n else lastH l k := by
  intro ks
  unfold lastH
  rw [List.foldl_append]
  generalize List.foldl (fun f o => if o.2.2.1 = true then updT f o.2.1 (some o.1) else f) (fun _ => none) l = f
  induction ks generalizing f with
  | nil => intro k; simp
  | cons a r ih =>
    intro k
    have := ih (updT f a (some n)) k
    simp only [List.map_cons, List.foldl_cons, if_true] at this ⊢
    rw [this]
    by_cases e : k = a
    · subst e
      by_cases hk : k ∈ r
      · simp [hk]
      · simp [hk, updT_same]
    · by_cases hk : k ∈ r
      · simp [hk]
      · simp [hk, e, updT_other _ _ e]
theorem lastH_hist {a0 : Int} {K0 : Int → Option Int} {E : Eng} {Q : Nat → Prop} (h : Mid a0 K0 E.ce Q) : ∀ (j : Nat) (k : Int), j ≤ E.com.length → lastH (histTo E j) k = (lastW E.ce.v (E.com.take j) k).map (fun (i : Nat) => (i : Int) + 1)
  | 0, k, _ => by simp [histTo, lastH, lastW]
  | j + 1, k, hj => by
    have hi : E.com[j]? = some E.com[j] := List.getElem?_eq_getElem (by omega)
    obtain ⟨c, hc, _⟩ := (h.com.coms E.com[j]).1 (show E.com[j] ∈ E.com from List.getElem_mem _)
    obtain ⟨t, ht, rfl⟩ := cs_of hc
    have hvk := (h.reg.fair _ _ hc).vk
    rw [histTo_step hi ht, List.take_add_one, hi]
    simp only [Option.toList_some]
    rw [lastW_snoc, histOf, ← List.append_assoc]
    unfold writesP
    rw [lastH_keys, lastH_reads, lastH_hist h j k (by omega), CE.v_some hc]
    have hm := mem_keysOf (f := t.vals) hvk k
    by_cases hs : (t.vals k).isSome = true
    · rw [if_pos (hm.2 hs)]
      show _ = Option.map _ (if ((cor t).vals k).isSome = true then _ else _)
      rw [if_pos (show ((cor t).vals k).isSome = true from hs)]
      rfl
    · rw [if_neg (fun hc => hs (hm.1 hc))]
      show _ = Option.map _ (if ((cor t).vals k).isSome = true then _ else _)
      rw [if_neg (show ¬ ((cor t).vals k).isSome = true from hs)]
theorem allK_fst (f : Nat → Option (Int × Int)) : ∀ m : Nat, (allK f m).length = ((List.range m).filter (fun k => (f k).isSome)).length
  | 0 => rfl
  | m + 1 => by
    rw [allK, List.length_append, allK_fst f m, List.range_succ, List.filter_append, List.length_append]
    congr 1
    cases h : f m <;> simp [h]
theorem keysOf_range {α : Type} (f : Int → Option α) : (keysOf f).length = ((List.range 10).filter (fun (k : Nat) => (f (k : Int)).isSome)).length := by
  unfold keysOf
  have : keysP = (List.range 10).map (fun (k : Nat) => (k : Int)) := rfl
  rw [this, List.filter_map, List.length_map]
  rfl
theorem allK_mem (f : Nat → Option (Int × Int)) : ∀ (m : Nat) (k x : Int), (k, x) ∈ allK f m → ∃ j : Nat, j < m ∧ k = j ∧ (f j).map (·.2) = some x
  | 0, k, x, h => by cases h
  | m + 1, k, x, h => by
    rw [allK] at h
    rcases List.mem_append.1 h with h | h
    · obtain ⟨j, h1, h2, h3⟩ := allK_mem f m k x h
      exact ⟨j, by omega, h2, h3⟩
    · cases hf : f m with
      | none => rw [hf] at h; cases h
      | some p =>
        rw [hf] at h
        simp only [List.mem_singleton, Prod.mk.injEq] at h
        exact ⟨m, by omega, h.1, by rw [hf, h.2]; rfl⟩
section
variable {E : Eng} {Q : Nat → Prop}
/-- As many keys have something as were written. -/
theorem all_count (h : Mid 0 (fun _ => none) E.ce Q) : (allE E).length = (keysOf (lastH (histP E))).length := by
  unfold allE
  rw [allK_fst, keysOf_range]
  congr 1
  refine List.filter_congr (fun k hk => ?_)
  have hk := List.mem_range.1 hk
  have h1 := h.now hk
  unfold histP
  rw [lastH_hist h _ _ (Nat.le_refl _), List.take_length]
  cases hl : lastW E.ce.v E.com k with
  | none =>
    rw [hl] at h1
    cases hr : rdP E.last (E.ks[k]?.getD []) with
    | none => rfl
    | some p => rw [hr] at h1; cases h1
  | some i =>
    rw [hl] at h1
    have h2 := (lastW_some hl).2
    cases hr : rdP E.last (E.ks[k]?.getD []) with
    | none =>
      rw [hr] at h1
      simp only [Option.map_none, Option.bind_some] at h1
      rw [← h1] at h2
      cases h2
    | some p => rfl
theorem lastH_keys_in (h : Mid 0 (fun _ => none) E.ce Q) (k : Int) (hk : lastH (histP E) k ≠ none) : 0 ≤ k ∧ k < 10 := by
  unfold histP at hk
  rw [lastH_hist h _ _ (Nat.le_refl _), List.take_length] at hk
  cases hl : lastW E.ce.v E.com k with
  | none => rw [hl] at hk; exact (hk rfl).elim
  | some i =>
    obtain ⟨h1, h2⟩ := lastW_some hl
    obtain ⟨c, hc, _⟩ := (h.com.coms i).1 h1
    rw [CE.v_some hc] at h2
    exact (h.reg.fair i c hc).vk k (fun e => by rw [e] at h2; cases h2)
/-- Each key's value is of the one that wrote it last, and that one is committed. -/
theorem all_each (h : Mid 0 (fun _ => none) E.ce Q) {k x : Int} (hx : (k, x) ∈ allE E) : ∃ (i : Nat) (t : Tx), lastH (histP E) k = some ((i : Int) + 1) ∧ E.txs[i]? = some t ∧ t.state = 2 ∧ t.vals k = some x ∧ 0 ≤ k ∧ k < 10 := by
  obtain ⟨j, hj, rfl, hv⟩ := allK_mem _ _ _ _ hx
  have h1 := h.now hj
  rw [hv] at h1
  unfold histP
  rw [lastH_hist h _ _ (Nat.le_refl _), List.take_length]
  cases hl : lastW E.ce.v E.com j with
  | none => rw [hl] at h1; cases h1
  | some i =>
    rw [hl] at h1
    obtain ⟨h2, _⟩ := lastW_some hl
    obtain ⟨c, hc, hs⟩ := (h.com.coms i).1 h2
    obtain ⟨t, ht, rfl⟩ := cs_of hc
    simp only [Option.bind_some] at h1
    rw [CE.v_some hc] at h1
    exact ⟨i, t, rfl, ht, hs, h1.symm, by omega, by omega⟩
end
end Go.Proofs.YtjefgmeejhakbaaGreatDoor
