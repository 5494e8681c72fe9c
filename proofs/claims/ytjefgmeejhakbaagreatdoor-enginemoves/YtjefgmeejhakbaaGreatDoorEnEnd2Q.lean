/- engine.end. -/
import Derived.Test.YtjefgmeejhakbaaGreatDoorMgAIQ
namespace Go.Proofs.YtjefgmeejhakbaaGreatDoor
open Go.RowKit
variable {w w' : World} {L : EnL} {E : Eng}
def SameRest (E E' : Eng) : Prop := E'.ks = E.ks ∧ E'.last = E.last ∧ E'.wr = E.wr ∧ E'.com = E.com ∧ E'.txs.length = E.txs.length
theorem SameRest.refl (E : Eng) : SameRest E E := ⟨rfl, rfl, rfl, rfl, rfl⟩
theorem SameRest.trans {A B C : Eng} (h : SameRest A B) (k : SameRest B C) : SameRest A C := ⟨k.1.trans h.1, k.2.1.trans h.2.1, k.2.2.1.trans h.2.2.1, k.2.2.2.1.trans h.2.2.2.1, k.2.2.2.2.trans h.2.2.2.2⟩
theorem rest_upd (E : Eng) (i : Nat) (f : Tx → Tx) : SameRest E (E.upd i f) := by
  unfold Eng.upd
  split
  · exact ⟨rfl, rfl, rfl, rfl, setTx_len _ _ _⟩
  · exact SameRest.refl E
theorem rest_over (E : Eng) (i : Nat) (st : Int) : SameRest E (overE E i st) := by
  have := rest_upd E i (fun t => { t with state := st, bae := E.txs.length })
  exact this
theorem rest_put (E : Eng) (i : Nat) : SameRest E (putE E i).2 := by
  have := putE_rest E i
  exact ⟨this.1, this.2.2.1, this.2.2.2.1, this.2.2.2.2.1, this.2.2.2.2.2⟩
theorem rest_lose (E : Eng) (i : Nat) (why : Int) : SameRest E (loseE E i why) := by
  unfold loseE
  split
  · rename_i t ht
    have := rest_upd { E with txs := (E.txs.set i { t with why := why }).map (freeOf ((i : Int) + 1)) } i (fun t => { t with reads := [] })
    refine ⟨this.1, this.2.1, this.2.2.1, this.2.2.2.1, this.2.2.2.2.trans ?_⟩
    simp
  · exact SameRest.refl E
theorem rest_write {fin : Eng → Nat → Int → Option Eng} (hf : ∀ E i st E', fin E i st = some E' → SameRest E E') {E : Eng} {j : Nat} {R : Int × Eng} (h : writeR fin E j = some R) : SameRest E R.2 := by
  unfold writeR at h
  have hp := rest_put E j
  rcases hq : putE E j with ⟨why, E1⟩
  rw [hq] at h hp
  simp only at h hp
  split at h
  · injection h with h
    subst h
    exact hp
  · cases he : fin (loseE E1 j why) j 3 with
    | none => rw [he] at h; cases h
    | some E2 =>
      rw [he] at h
      simp at h
      subst h
      exact (hp.trans (rest_lose E1 j why)).trans (hf _ _ _ _ he)
theorem rest_go {fin : Eng → Nat → Int → Option Eng} (hf : ∀ E i st E', fin E i st = some E' → SameRest E E') : ∀ (l : List (Int × Int)) {E E' : Eng}, goR fin l E = some E' → SameRest E E'
  | [], E, E', h => by
    simp only [goR] at h
    injection h with h
    subst h
    exact SameRest.refl _
  | (_, x) :: r, E, E', h => by
    simp only [goR] at h
    split at h
    · rcases hw : writeR fin (E.upd (x - 1).toNat (fun t => { t with state := 0 })) (x - 1).toNat with _ | ⟨why, E1⟩
      · rw [hw] at h; cases h
      · rw [hw] at h
        exact ((rest_upd E _ _).trans (rest_write hf hw)).trans (rest_go hf r h)
    · exact rest_go hf r h
theorem rest_end : ∀ (f : Nat) (E : Eng) (i : Nat) (st : Int) (E' : Eng), endF f E i st = some E' → SameRest E E'
  | 0, _, _, _, _, h => by cases h
  | f + 1, E, i, st, E', h => by
    simp only [endF] at h
    exact (rest_over E i st).trans (rest_go (rest_end f) _ h)
theorem mem_out {T : Tab} {tx : Int} {p : Int × Int} (h : p ∈ outP T tx) : p.2 ∈ T p.1 := by
  unfold outP at h
  obtain ⟨k, _, hk⟩ := List.mem_flatMap.1 h
  unfold outOf at hk
  split at hk
  · rename_i hc
    rw [List.mem_singleton] at hk
    subst hk
    simp only
    have : holdsP (dropP T tx) k ∈ dropP T tx k := by
      unfold holdsP
      cases hd : dropP T tx k with
      | nil => exact (hc.2 hd).elim
      | cons a r => simp
    exact (List.mem_filter.1 this).1
  · cases hk
theorem EnAt.dropped {i : Nat} (h : EnAt w L E) {M' : LkM} {N : Nat} (hT : TabAt (L.C E.last) w' L.s N M' (dropP E.T ((i : Int) + 1))) (hK : KeptO (L.M.own L.s) (M'.own L.s) w w') :
    EnAt w' { L with M := M' } { E with T := dropP E.T ((i : Int) + 1) } ∧ KeptO L.own ({ L with M := M' } : EnL).own w w' :=
  h.setLock hT hK (h.good.drop _) (fun k x hx => h.mem k x (List.mem_filter.1 hx).1)
set_option maxRecDepth 100000 in
set_option maxHeartbeats 4000000 in
theorem end_step {f : Nat} (hend : EndOk f) : EndOk (f + 1) := by
  intro w L E E' i b st h hb hks hE
  obtain ⟨l, hl, rfl⟩ : ∃ l, L.txs[i]? = some l ∧ l.b = b := by
    simp only [EnL.bs, List.getElem?_map, Option.map_eq_some_iff] at hb
    exact hb
  obtain ⟨t, ht, hA⟩ := h.getL hl
  have c3 := hA.c3
  have f3 := hA.free 3
  obtain ⟨h1, k1⟩ := h.setCell hl ht (txCells_state _ l t st) rfl rfl hA.sl rfl rfl hA.wkr
  have hA1 := h1.txs i l _ hl (setTx_get ht)
  have c5 := hA1.c5
  have f5 := hA1.free 5
  have c14 := h1.c14
  obtain ⟨h2, k2⟩ := h1.setCell hl (setTx_get ht) (txCells_bae _ l _ (E.txs.length : Int)) rfl rfl hA1.sl rfl rfl hA1.wkr
  rw [setTx_twice] at h2
  have hA2 := h2.txs i l _ hl (setTx_get ht)
  have c0 := hA2.c0
  obtain ⟨ad, cap, e⟩ := row_form h.all
  rw [h.len] at e
  rw [e] at c14
  obtain ⟨m, hm⟩ : ∃ m, E.txs.length = m := ⟨_, rfl⟩
  have hE3 : { (E.setTx i { t with state := st, bae := (E.txs.length : Int) }) with T := dropP E.T ((i : Int) + 1) } = overE E i st := by
    unfold overE
    rw [Eng.upd_some ht]
    rfl
  simp only [endF] at hE
  have hov := rest_over E i st
  obtain ⟨out, hout⟩ : ∃ out, outP E.T ((i : Int) + 1) = out := ⟨_, rfl⟩
  have hmo : ∀ p ∈ out, 1 ≤ p.2 ∧ p.2 ≤ m := fun p hp => by rw [← hm]; exact h.mem p.1 p.2 (mem_out (hout ▸ hp))
  have hol : out.length ≤ 10 := by rw [← hout, ← outTo_end]; exact outTo_length _ _ 10 (by omega)
  have hle := h.le
  have hi := (List.getElem?_eq_some_iff.1 ht).1
  have hdr := drop_any (C := L.C E.last) L.s 201 L.M E.T ((i : Int) + 1) _ (h2.below (w' := ((w.setCell ⟨l.b, 3, none⟩ (.int .i64 st)).setCell ⟨l.b, 5, none⟩ (.int .i64 (E.txs.length : Int))).drew) (below_drewN (Below.refl _ _) 1)).loc h.good (by unfold I64; omega) (by omega)
  rw [hout] at hdr hE
  rw [h.o] at hdr
  have hap := hid (fun (w4 : World) (M' : LkM) (N : Nat) (hT : TabAt (L.C E.last) w4 L.s N M' (dropP E.T ((i : Int) + 1))) (hK : KeptO (L.M.own L.s) (M'.own L.s) ((w.setCell ⟨l.b, 3, none⟩ (.int .i64 st)).setCell ⟨l.b, 5, none⟩ (.int .i64 (E.txs.length : Int))).drew w4) =>
    (h2.below (w' := ((w.setCell ⟨l.b, 3, none⟩ (.int .i64 st)).setCell ⟨l.b, 5, none⟩ (.int .i64 (E.txs.length : Int))).drew) (below_drewN (Below.refl _ _) 1)).dropped (i := i) hT hK)
  have hown := hid (fun g (hg : L.own g) => h2.own_lt hg)
  rw [show ({ (E.setTx i { t with state := st, bae := (E.txs.length : Int) }) with T := dropP (E.setTx i { t with state := st, bae := (E.txs.length : Int) }).T ((i : Int) + 1) } : Eng) = overE E i st from hE3] at hap
  rw [hm] at c0 c14 hdr hap hle hown k2
  have HD := hid hdr
  have HK := hid (k1.trans k2)
  have hks3 : ∀ l ∈ (overE E i st).ks, l.length ≤ 100000 := by rw [hov.1]; exact hks
  have hlen3 : (overE E i st).txs.length = m := hov.2.2.2.2.trans hm
  obtain ⟨E3, hE3'⟩ : ∃ E3, overE E i st = E3 := ⟨_, rfl⟩
  rw [hE3'] at hap hE hks3 hlen3
  have HE := hid hE
  have HKS := hid hks3
  have HMO := hid hmo
  have HMM := hid hm
  have HLEN3 := hid hlen3
  clear h hb hks hE ht hA h1 k1 hA1 h2 k2 hA2 e hE3 hov hout hmo hdr hks3 hE3' hlen3 hm
  go_enter Tryz.func105, Tryz.ntmps105
  go_wp2
  go_region_held3 (fun W => W.cell? ⟨l.b, 0, none⟩ = some (.int .i64 ((i : Int) + 1)))
    (first | go_keep | exact y1)
    (first | (go_at_call 153
              refine HD.out.mono ?_
              rintro e w4 ⟨v, rfl, ho, M', hT4, hK4, hng⟩
              obtain ⟨ad2, cap2, hv2⟩ := row_form ho
              subst hv2
              obtain ⟨hE4, hKK⟩ := hap.out w4 M' _ hT4 hK4
              obtain ⟨t4, _, hA4⟩ := hE4.getL (L := { L with M := M' }) hl
              have y1 : w4.cell? ⟨l.b, 0, none⟩ = some (.int .i64 ((i : Int) + 1)) := hA4.c0
              have HE4 := hid hE4
              have HKK := hid hKK
              have HO := hid ho
              have HNG := hid hng
              clear hE4 hKK ho hng hA4 hT4 hK4))
  have hadg : Hid (∀ j p, out[j]? = some p → ∃ g, (Value.slice ad2 out.length cap2).ownBlock = some g ∧ ¬ ({ L with M := M' } : EnL).own g ∧ g < w4.heap.size ∧ ∃ cap, Value.slice ad2 out.length cap2 = .slice (some ⟨g, 0, none⟩) out.length cap ∧ w4.cell? ⟨g, j * 2, none⟩ = some (.int .i64 p.1) ∧ w4.cell? ⟨g, j * 2 + 1, none⟩ = some (.int .i64 p.2)) := fun j p hp => by
    rcases row_slice HO.out with ⟨e1, e2⟩ | ⟨g, cap', e1, hg, hc⟩
    · have := (List.getElem?_eq_some_iff.1 hp).1; omega
    · have hob : (Value.slice ad2 out.length cap2).ownBlock = some g := by rw [e1]; rfl
      have hb := (HO.out.lt g hob).1
      have hv := vrow_get out j p.1 p.2 hp
      refine ⟨g, hob, fun ho => ?_, hg, cap', e1, hc _ _ hv.1, hc _ _ hv.2⟩
      rcases ho with h1 | h1 | h1 | h1 | h1 | h1 | h1
      · exact Nat.lt_irrefl _ (Nat.lt_of_lt_of_le (hown.out g (.inl h1)) hb)
      · exact Nat.lt_irrefl _ (Nat.lt_of_lt_of_le (hown.out g (.inr (.inl h1))) hb)
      · exact HNG.out g hob h1
      · exact Nat.lt_irrefl _ (Nat.lt_of_lt_of_le (hown.out g (.inr (.inr (.inr (.inl h1))))) hb)
      · exact Nat.lt_irrefl _ (Nat.lt_of_lt_of_le (hown.out g (.inr (.inr (.inr (.inr (.inl h1)))))) hb)
      · exact Nat.lt_irrefl _ (Nat.lt_of_lt_of_le (hown.out g (.inr (.inr (.inr (.inr (.inr (.inl h1))))))) hb)
      · exact Nat.lt_irrefl _ (Nat.lt_of_lt_of_le (hown.out g (.inr (.inr (.inr (.inr (.inr (.inr h1))))))) hb)
  go_wp2
  go_loopw [31] (fun iv wr => ∃ (j : Nat) (Lj : EnL) (Ej : Eng), j ≤ out.length ∧ iv = .int .i64 j ∧ EnAt wr Lj Ej ∧ goR (endF f) (out.drop j) Ej = some E' ∧ Ej.ks = E3.ks ∧ Ej.txs.length = m ∧ KeptO ({ L with M := M' } : EnL).own Lj.own w4 wr ∧ Lj.s = L.s ∧ Lj.bs = L.bs) (fun iv _ => out.length - (intOf iv).toNat)
  case atStart => exact ⟨0, { L with M := M' }, E3, by omega, rfl, HE4.out, by simpa using HE.out, rfl, HLEN3.out, KeptO.refl _ _, rfl, rfl⟩
  case round =>
    obtain ⟨j, Lj, Ej, hj, rfl, hEj, hgo, hksj, hlj, hKj, hsj, hbj⟩ := hrel
    by_cases hlt : j < out.length
    · obtain ⟨⟨kx, x⟩, hp⟩ : ∃ p, out[j]? = some p := ⟨out[j], List.getElem?_eq_getElem hlt⟩
      obtain ⟨g, _, hng, hg, cap', e1, r1, r2⟩ := hadg.out j (kx, x) hp
      obtain ⟨hx1, hx2⟩ := HMO.out _ (List.mem_of_getElem? hp)
      simp only at hx1 hx2 r1 r2
      have q1 := (World.cell?_of_block (a := ⟨g, j * 2, none⟩) (hKj.block g hg hng)).trans r1
      have q2 := (World.cell?_of_block (a := ⟨g, j * 2 + 1, none⟩) (hKj.block g hg hng)).trans r2
      have e2 : ad2 = some ⟨g, 0, none⟩ := by injection e1
      clear e1
      subst e2
      obtain ⟨y, hy⟩ : ∃ y : Nat, x = (y : Int) + 1 := ⟨(x - 1).toNat, by omega⟩
      subst hy
      obtain ⟨ly, hly⟩ : ∃ ly, Lj.txs[y]? = some ly := ⟨Lj.txs[y]'(by have := hEj.len; omega), List.getElem?_eq_getElem _⟩
      have hdrop : out.drop j = (kx, (y : Int) + 1) :: out.drop (j + 1) := by
        rw [List.drop_eq_getElem_cons hlt]
        congr 1
        rw [List.getElem?_eq_getElem hlt] at hp
        injection hp
      rw [hdrop] at hgo
      simp only [goR] at hgo
      rw [if_pos (by rw [hlj]; omega), show ((y : Int) + 1 - 1).toNat = y from by omega] at hgo
      have hB1 : Below wr.heap.size wr (wr.alloc (.cells #[.int .i64 kx, .int .i64 ((y : Int) + 1)] 78)) := (Below.refl _ wr).alloc (Nat.le_refl _) _
      have hE1 := hEj.below hB1
      obtain ⟨ty, hty, hTy⟩ := hE1.getL hly
      have z3 := hTy.c3
      have zf := hTy.free 3
      obtain ⟨hE2, hK2⟩ := hE1.setCell hly hty (txCells_state _ ly ty 0) rfl rfl hTy.sl rfl rfl hTy.wkr
      rw [Eng.upd_some hty] at hgo
      rcases hw : writeR (endF f) (Ej.setTx y { ty with state := 0 }) y with _ | ⟨why, E5⟩
      · rw [hw] at hgo; cases hgo
      rw [hw] at hgo
      simp only at hgo
      have hrest := rest_write (rest_end f) hw
      have HFI := hid (find_ok hE1 hly)
      have HWR := hid (write_any hend hE2 hly (setTx_get hty) (by have := HKS.out; rw [← hksj] at this; exact this) hw)
      have hj0 : (0 : Int) ≤ (j : Int) := by omega
      have hj1 : (j : Int) < (out.length : Int) := by omega
      have HGO := hid hgo
      have HKJ := hid ((hKj.trans (KeptO.of_below hB1)).trans hK2)
      have HK5 := hid (show E5.ks = E3.ks ∧ E5.txs.length = m from ⟨hrest.1.trans hksj, hrest.2.2.2.2.trans ((setTx_len _ _ _).trans hlj)⟩)
      have HBJ := hid (And.intro hsj hbj)
      rw [hsj] at HFI HWR
      clear hp hdrop hgo hB1 hE1 hty hTy hE2 hK2 hw hrest hly hEj hKj hksj hlj hbj hsj r1 r2 HE
      go_wp2_with fail
      refine HFI.out.mono ?_
      rintro e w5 ⟨rfl, hw5⟩
      rw [hw5]
      clear hw5 w5
      go_wp2_with fail
      refine HWR.out.mono ?_
      rintro e w6 ⟨rfl, L6, hE6, hK6, hs6, hb6⟩
      have HF := hid (show _ ∧ _ from ⟨hE6, HKJ.out.trans hK6⟩)
      have HS6 := hid (show L6.s = L.s ∧ L6.bs = L.bs from ⟨hs6.trans HBJ.out.1, hb6.trans HBJ.out.2⟩)
      clear hE6 hK6 hs6 hb6 HWR HFI
      go_wp2
      go_roundw
      case rel => exact ⟨j + 1, L6, E5, by omega, by go_num, HF.out.1, HGO.out, HK5.out.1, HK5.out.2, HF.out.2, HS6.out.1, HS6.out.2⟩
      case measure => simp [intOf]; omega
    · have hj2 : out.drop j = [] := List.drop_of_length_le (by omega)
      rw [hj2] at hgo
      simp only [goR] at hgo
      injection hgo with hgo
      subst hgo
      have hd : Below ((w.setCell ⟨l.b, 3, none⟩ (.int .i64 st)).setCell ⟨l.b, 5, none⟩ (.int .i64 (m : Int))).heap.size ((w.setCell ⟨l.b, 3, none⟩ (.int .i64 st)).setCell ⟨l.b, 5, none⟩ (.int .i64 (m : Int))) ((w.setCell ⟨l.b, 3, none⟩ (.int .i64 st)).setCell ⟨l.b, 5, none⟩ (.int .i64 (m : Int))).drew := below_drewN (Below.refl _ _) 1
      have HF := hid (show EnPost L Ej w wr from ⟨Lj, hEj, (HK.out.trans (KeptO.of_below hd)).trans (HKK.out.trans hKj), hsj, hbj⟩)
      clear hEj hKj hsj hbj hd
      go_wp2
      refine bodyPost_end (results_none rfl _ _ _) rfl ?_
      exact ⟨rfl, HF.out⟩
theorem end_ok : ∀ f, EndOk f
  | 0 => fun _ _ _ _ _ _ _ _ _ _ h => by cases h
  | f + 1 => end_step (end_ok f)
end Go.Proofs.YtjefgmeejhakbaaGreatDoor
