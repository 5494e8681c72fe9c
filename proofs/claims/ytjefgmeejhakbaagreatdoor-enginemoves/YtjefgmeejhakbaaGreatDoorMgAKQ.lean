/- EnCommit EnInst EnCom: put together for a claim. -/
import Derived.Test.YtjefgmeejhakbaaGreatDoorMgAJQ
/- engine.install, Commit. -/
namespace Go.Proofs.YtjefgmeejhakbaaGreatDoor
open Go.RowKit
variable {w w' : World} {L : EnL} {E : Eng}
def installE (E : Eng) (i : Nat) : Eng := match E.txs[i]? with
  | some t => if writesP t.vals = [] ∨ 1099511627776 < E.last + 1 then E else { E with last := E.last + 1, ks := instP (E.last + 1) (writesP t.vals) E.ks, wr := updT E.wr (E.last + 1) (some ((i : Int) + 1)), nw := E.nw + 1 }
  | none => E
noncomputable def commitE (f : Nat) (E : Eng) (i : Nat) : Option (Int × Eng) := match E.txs[i]? with
  | some t => if betB t.ahead t.behind = true then (endF f (loseE E i 13) i 3).map (fun E' => (13, E')) else
    (endF f { (installE E i) with com := E.com ++ [i] } i 2).map (fun E' => (0, E'))
  | none => none
theorem P_set16 (L : EnL) (last : Int) (hlv : L.vs.length = 10) (v : Value) : (L.P.cells last L.vs).setIfInBounds 16 v = ({ L with cv := v } : EnL).P.cells last L.vs := by
  unfold Tail.cells
  rw [List.setIfInBounds_toArray, show 16 = 15 + 1 from rfl, List.set_cons_succ, List.set_append_right _ _ (by omega), hlv]
  rfl
theorem P_set14 (L : EnL) (last : Int) (hlv : L.vs.length = 10) (v : Value) : (L.P.cells last L.vs).setIfInBounds 14 v = ({ L with av := v } : EnL).P.cells last L.vs := by
  unfold Tail.cells
  rw [List.setIfInBounds_toArray, show 14 = 13 + 1 from rfl, List.set_cons_succ, List.set_append_right _ _ (by omega), hlv]
  rfl
theorem EnAt.setWr (h : EnAt w L E) {a x : Int} (ha : I64 a) (hn : E.nw ≤ 1000000000) :
    ∃ w', (Instr.mapUpdate 69 (.map (some L.wb)) (.int .i64 a) (.int .i64 x)).run Tryz.prog w = .ok () w' ∧ EnAt w' L { E with wr := updT E.wr a (some x), nw := E.nw + 1 } ∧ KeptO L.own L.own w w' := by
  obtain ⟨w', hr, hI, hg⟩ := h.wr.store Tryz.underlying69 (by unfold maxLen; omega) ha (.int .i64 x)
  rw [show updT (fun k => (E.wr k).map (Value.int .i64)) a (some (.int .i64 x)) = fun k => (updT E.wr a (some x) k).map (Value.int .i64) from (updT_map E.wr a (some x)).symm] at hI
  have hb : ∀ g, g < w.heap.size → g ≠ L.wb → w'.heap[g]? = w.heap[g]? := fun g hg' hne => hg.block g hg' (fun e => hne (by injection e))
  obtain ⟨ρ, T⟩ := h.tag
  have hk : ∀ g, L.own g → ρ g ≠ .wr → w'.heap[g]? = w.heap[g]? := fun g hg' hn => hb g (h.own_lt hg') (fun e => hn (by rw [e]; exact T.wr))
  refine ⟨w', hr, ⟨h.sto.kept (hk _ (.inl rfl) (by rw [T.eng]; exact nofun)) (fun g hg => hk g (.inr (.inl hg)) (by rw [T.srow g hg]; exact nofun)),
    h.loc.same (fun g hg => hk g (.inr (.inr (.inl hg))) (by
      by_cases hgs : g = L.s
      · rw [hgs, T.eng]; exact nofun
      · rw [T.lock g hg hgs]; exact nofun)), h.good, h.mem, owns_same h.all (fun g hg => hk g (.inr (.inr (.inr (.inl hg)))) (by rw [T.all g hg]; exact nofun)), h.len, h.le, hI,
    owns_same h.com (fun g hg => hk g (.inr (.inr (.inr (.inr (.inr (.inl hg)))))) (by rw [T.com g hg]; exact nofun)), h.coml,
    fun i l t hl ht => (h.txs i l t hl ht).same (fun g hg => hk g (TxL.own_in hl hg) (by rw [T.tx i l g hl hg]; exact nofun)), ρ, T⟩, ?_⟩
  exact ⟨hg.os, hg.tape, hg.output, hg.size, fun g hg' hn => hb g hg' (fun e => hn (e ▸ .inr (.inr (.inr (.inr (.inl rfl)))))), fun g hg => .inl hg⟩
theorem EnAt.addCom (h : EnAt w L E) {i : Nat} {l : TxL} (hl : L.txs[i]? = some l) {w1 : World} {gg cap m : Nat} (hm : E.com.length = m)
    (hown : w1.ownsRow 0 179 1 (.slice (some ⟨gg, 0, none⟩) (m + 1) cap) (m + 1) ((E.com.map fun i => ptrV (L.bs[i]?.getD 0)) ++ [.pointer (some ⟨l.b, 0, none⟩)]))
    (hos : w1.os = w.os ∧ w1.tape = w.tape ∧ w1.output = w.output) (hsz : w.heap.size ≤ w1.heap.size) (hb : ∀ g, g < w.heap.size → L.cv.ownBlock ≠ some g → w1.heap[g]? = w.heap[g]?) (hat : L.cv.ownBlock = some gg ∨ w.heap.size ≤ gg) :
    EnAt (w1.setCell ⟨L.s, 16, none⟩ (.slice (some ⟨gg, 0, none⟩) (m + 1) cap)) { L with cv := .slice (some ⟨gg, 0, none⟩) (m + 1) cap } { E with com := E.com ++ [i] } ∧
      KeptO L.own ({ L with cv := .slice (some ⟨gg, 0, none⟩) (m + 1) cap } : EnL).own w (w1.setCell ⟨L.s, 16, none⟩ (.slice (some ⟨gg, 0, none⟩) (m + 1) cap)) := by
  obtain ⟨ρ, T⟩ := h.tag
  have hsl := h.sto.lt
  have hcs : L.cv.ownBlock ≠ some L.s := fun e => by have h1 := T.com _ e; rw [T.eng] at h1; cases h1
  have hgs : gg ≠ L.s := by
    rcases hat with h1 | h1
    · exact fun e => hcs (e ▸ h1)
    · omega
  have hblk := setCell_at (o := 16) (v := .slice (some ⟨gg, 0, none⟩) (m + 1) cap) ((hb L.s hsl hcs).trans h.sto.blk)
  rw [P_set16 L E.last h.lv] at hblk
  have ho : ∀ g, g ≠ L.s → (w1.setCell ⟨L.s, 16, none⟩ (.slice (some ⟨gg, 0, none⟩) (m + 1) cap)).heap[g]? = w1.heap[g]? := fun g hg => heap_setCell_other _ ⟨L.s, 16, none⟩ g _ hg
  have hk : ∀ g, L.own g → ρ g ≠ .eng → ρ g ≠ .com → (w1.setCell ⟨L.s, 16, none⟩ (.slice (some ⟨gg, 0, none⟩) (m + 1) cap)).heap[g]? = w.heap[g]? := fun g hg h1 h2 =>
    (ho g (fun e => h1 (by rw [e]; exact T.eng))).trans (hb g (h.own_lt hg) (fun e => h2 (T.com g e)))
  have hi : i < E.txs.length := by have := (List.getElem?_eq_some_iff.1 hl).1; have := h.len; omega
  refine ⟨⟨h.sto.reblk hblk (fun g hg => hk g (.inr (.inl hg)) (by rw [T.srow g hg]; exact nofun) (by rw [T.srow g hg]; exact nofun)),
    h.loc.reblk (C' := ({ L with cv := .slice (some ⟨gg, 0, none⟩) (m + 1) cap } : EnL).C E.last) (hblk.trans (by rw [← EnL.cells_eq]; rfl)) (fun g hg hne => hk g (.inr (.inr (.inl hg))) (by rw [T.lock g hg hne]; exact nofun) (by rw [T.lock g hg hne]; exact nofun)), h.good, h.mem,
    owns_same h.all (fun g hg => hk g (.inr (.inr (.inr (.inl hg)))) (by rw [T.all g hg]; exact nofun) (by rw [T.all g hg]; exact nofun)), h.len, h.le,
    h.wr.same (hk _ (.inr (.inr (.inr (.inr (.inl rfl))))) (by rw [T.wr]; exact nofun) (by rw [T.wr]; exact nofun)), ?_, ?_,
    fun i l t hl ht => (h.txs i l t hl ht).same (fun g hg => hk g (TxL.own_in (L := L) hl hg) (by rw [T.tx i l g hl hg]; exact nofun) (by rw [T.tx i l g hl hg]; exact nofun)), fun g => if g < w.heap.size then ρ g else .com, ?_⟩, ?_⟩
  · rw [show (({ E with com := E.com ++ [i] } : Eng).com).length = m + 1 from by simp [hm], show (({ E with com := E.com ++ [i] } : Eng).com.map fun i => ptrV (({ L with cv := .slice (some ⟨gg, 0, none⟩) (m + 1) cap } : EnL).bs[i]?.getD 0)) = (E.com.map fun i => ptrV (L.bs[i]?.getD 0)) ++ [.pointer (some ⟨l.b, 0, none⟩)] from by
      show (E.com ++ [i]).map (fun i => ptrV (L.bs[i]?.getD 0)) = _
      rw [List.map_append, List.map_singleton, bs_get hl]
      rfl]
    exact owns_same hown (fun g hg => ho g (by
      have : gg = g := by simpa [Value.ownBlock] using hg
      rw [← this]; exact hgs))
  · intro j hj
    rcases List.mem_append.1 hj with h1 | h1
    · exact h.coml j h1
    · rw [List.mem_singleton.1 h1]; exact hi
  · have hlt : ∀ g, L.own g → (if g < w.heap.size then ρ g else Tag.com) = ρ g := fun g hg => if_pos (h.own_lt hg)
    refine ⟨(hlt _ (.inl rfl)).trans T.eng, fun g hg => (hlt g (.inr (.inl hg))).trans (T.srow g hg), fun g hg hn => (hlt g (.inr (.inr (.inl hg)))).trans (T.lock g hg hn), fun g hg => (hlt g (.inr (.inr (.inr (.inl hg))))).trans (T.all g hg), (hlt _ (.inr (.inr (.inr (.inr (.inl rfl)))))).trans T.wr,
      fun g hg => ?_, fun j m g hm hg => (hlt g (TxL.own_in (L := L) hm hg)).trans (T.tx j m g hm hg)⟩
    have hgg : gg = g := by simpa [Value.ownBlock] using hg
    subst hgg
    rcases hat with h1 | h1
    · exact (hlt gg (.inr (.inr (.inr (.inr (.inr (.inl h1))))))).trans (T.com gg h1)
    · simp only [if_neg (Nat.not_lt.2 h1)]
  · refine ⟨hos.1, hos.2.1, hos.2.2, by simpa using hsz, fun g hg hn => (ho g (fun e => hn (.inl e))).trans (hb g hg (fun e => hn (.inr (.inr (.inr (.inr (.inr (.inl e)))))))), fun g hg => ?_⟩
    rcases hg with h1 | h1 | h1 | h1 | h1 | h1 | h1
    · exact .inl (.inl h1)
    · exact .inl (.inr (.inl h1))
    · exact .inl (.inr (.inr (.inl h1)))
    · exact .inl (.inr (.inr (.inr (.inl h1))))
    · exact .inl (.inr (.inr (.inr (.inr (.inl h1)))))
    · have hgg : gg = g := by simpa [Value.ownBlock] using h1
      subst hgg
      rcases hat with h2 | h2
      · exact .inl (.inr (.inr (.inr (.inr (.inr (.inl h2))))))
      · exact .inr h2
    · exact .inl (.inr (.inr (.inr (.inr (.inr (.inr h1))))))
end Go.Proofs.YtjefgmeejhakbaaGreatDoor

/- engine.install. -/
namespace Go.Proofs.YtjefgmeejhakbaaGreatDoor
open Go.RowKit
variable {w w' : World} {L : EnL} {E : Eng}
theorem writesP_nil {V : Int → Option Int} (hv : ∀ k, V k ≠ none → 0 ≤ k ∧ k < 10) : writesP V = [] ↔ ∀ a, V a = none := by
  unfold writesP
  rw [List.map_eq_nil_iff]
  constructor
  · intro h a
    cases ha : V a with
    | none => rfl
    | some x =>
      have := (mem_keysOf hv a).2 (by rw [ha]; rfl)
      rw [h] at this
      cases this
  · intro h
    unfold keysOf
    rw [List.filter_eq_nil_iff]
    intro a _
    rw [h a]
    simp
theorem vals_len {n : Int} {l : TxL} {t : Tx} (hA : TxAt w n l t) : ∃ k : Nat, k ≤ 10 ∧ (∀ ty, (Builtin.len_ #[69] ty #[.map (some l.vb)]).run Tryz.prog w = .ok (.int .i64 k) w) ∧ (k = 0 ↔ writesP t.vals = []) := by
  obtain ⟨k, h1, h2, h3⟩ := hA.va.len Tryz.underlying69
  refine ⟨k, h1, h2, h3.trans ((writesP_nil hA.vk).trans ?_).symm⟩
  constructor
  · intro h a; show (t.vals a).map _ = none; rw [h a]; rfl
  · intro h a
    have := h a
    cases hv : t.vals a with
    | none => rfl
    | some x => rw [hv] at this; cases this
theorem vrow_wrow {W : World} {g : Nat} {ws : List (Int × Int)} (h : ∀ j u, (vrow ws)[j]? = some u → W.cell? ⟨g, j, none⟩ = some u) : WRow W g 0 ws := fun j a v e => by
  have hx := vrow_get ws j a v e
  exact ⟨by rw [Nat.zero_add]; exact h _ _ hx.1, by rw [Nat.zero_add]; exact h _ _ hx.2⟩
def FineV (t : Tx) : Prop := ∀ k v, t.vals k = some v → -1099511627776 ≤ v ∧ v ≤ 1099511627776
theorem writesP_fine {t : Tx} (hv : ∀ k, t.vals k ≠ none → 0 ≤ k ∧ k < 10) (hf : FineV t) : ∀ p ∈ writesP t.vals, Fine p := fun p hp => by
  obtain ⟨k, hk, rfl⟩ := List.mem_map.1 hp
  have h1 := (mem_keysOf hv k).1 hk
  cases hx : t.vals k with
  | none => rw [hx] at h1; cases h1
  | some x =>
    have h2 := hv k (by rw [hx]; exact nofun)
    have h3 := hf k x hx
    exact ⟨by simp [keyB]; omega, by simpa using h3.1, by simpa using h3.2⟩
set_option maxRecDepth 100000 in
set_option maxHeartbeats 2000000 in
theorem install_any (h : EnAt w L E) (hf : Fits E) {i : Nat} {l : TxL} {t : Tx} (hl : L.txs[i]? = some l) (ht : E.txs[i]? = some t) (hfv : FineV t) (hlast : 0 ≤ E.last ∧ E.last ≤ 1099511627776) (hnw : E.nw ≤ 1000000000) :
    Calls Tryz.prog 104 #[.pointer (some ⟨L.s, 0, none⟩), .pointer (some ⟨l.b, 0, none⟩)] w fun e w' => e = .returned (.tuple #[]) ∧ EnPost L (installE E i) w w' := by
  have hA := h.txs i l t hl ht
  have c8 := hA.c8
  obtain ⟨kk, hkk, hlen, hk0⟩ := vals_len hA
  have hI : installE E i = if writesP t.vals = [] ∨ 1099511627776 < E.last + 1 then E else { E with last := E.last + 1, ks := instP (E.last + 1) (writesP t.vals) E.ks, wr := updT E.wr (E.last + 1) (some ((i : Int) + 1)), nw := E.nw + 1 } := by
    unfold installE; rw [ht]
  by_cases hz : kk = 0
  · subst hz
    rw [hI, if_pos (.inl (hk0.1 rfl))]
    have HP := hid (show EnPost L E w w from ⟨L, h, KeptO.refl _ _, rfl, rfl⟩)
    clear h hf hl ht hA hI hk0
    go_enter Tryz.func104, Tryz.ntmps104
    go_wp2
    refine bodyPost_ret (results_none rfl _ _ _) rfl ?_
    exact ⟨rfl, HP.out⟩
  · have g0 : ((kk : Int) == 0) = false := by simp; omega
    have hwn : writesP t.vals ≠ [] := fun e => hz (hk0.2 e)
    have hwl := writesP_len t.vals
    have HL := hid (last_any _ _ _ _ _ w h.sto)
    have hd : Below w.heap.size w w.drew := below_drewN (Below.refl _ w) 1
    have hW : Calls Tryz.prog 94 #[.pointer (some ⟨l.b, 0, none⟩)] w.drew fun e w1 => ∃ g cap, e = .returned (.slice (some ⟨g, 0, none⟩) (writesP t.vals).length cap) ∧ Below w.heap.size w w1 ∧ WRow w1 g 0 (writesP t.vals) ∧ w.heap.size ≤ g ∧ g < w1.heap.size := by
      refine (writes_any ((h.below hd).txs i l t hl ht)).mono ?_
      rintro e w1 ⟨v, rfl, ho, hB⟩
      rcases row_slice ho with ⟨e1, e2⟩ | ⟨g, cap, e1, hg, hc⟩
      · exact (hwn (List.eq_nil_of_length_eq_zero e2)).elim
      · exact ⟨g, cap, by rw [e1], hd.trans hB, vrow_wrow hc, (ho.lt g (by rw [e1]; rfl)).1, hg⟩
    have HW := hid hW
    have gw : IntKind.i64.wrap (E.last + 1) = E.last + 1 := IntWalk.i64_in _ (by omega)
    have HH := hid h
    have HLL := hid hl
    have HT := hid ht
    by_cases hm : 1099511627776 < E.last + 1
    · rw [hI, if_pos (.inr hm)]
      have HIN := hid (fun W (hB : Below w.heap.size w W) lv => install_order _ _ _ (E.last + 1) lv _ _ W (h.below hB).sto (.inr hm))
      obtain ⟨la, hla⟩ : ∃ la, E.last = la := ⟨_, rfl⟩
      rw [hla] at HL HIN gw
      clear h hf hl ht hA hI hk0 hW hm hla hlast hwn
      go_enter Tryz.func104, Tryz.ntmps104
      go_wp2_with fail
      refine HL.out.mono ?_
      rintro e w1 ⟨rfl, hw1⟩
      rw [hw1]
      clear hw1 w1
      go_wp2
      go_region_held3 (fun W => True)
        (first | go_keep | trivial)
        (first | (go_at_call 94
                  refine HW.out.mono ?_
                  rintro e w2 ⟨g, cap, rfl, hB2, hws, hg1, hg2⟩
                  have HB2 := hid hB2
                  clear hB2 hws)
               | (go_at_call 76
                  refine (HIN.out w2 HB2.out _).mono ?_
                  rintro e w3 ⟨rfl, hw3⟩
                  rw [hw3]
                  clear hw3 w3))
      have HP := hid (show EnPost L E w w2 from ⟨L, HH.out.below HB2.out, KeptO.of_below HB2.out, rfl, rfl⟩)
      go_wp2
      refine bodyPost_end (results_none rfl _ _ _) rfl ?_
      exact ⟨rfl, HP.out⟩
    · rw [hI, if_neg (fun e => e.elim hwn hm)]
      have HIN := hid (show ∀ W g cap, Below w.heap.size w W → WRow W g 0 (writesP t.vals) → w.heap.size ≤ g → g < W.heap.size →
          Calls Tryz.prog 76 #[.pointer (some ⟨L.s, 0, none⟩), .int .i64 (E.last + 1), .slice (some ⟨g, 0, none⟩) (writesP t.vals).length cap] W fun e w3 => e = .returned .nilIface ∧ ∃ vs',
            EnAt w3 { L with vs := vs' } { E with last := E.last + 1, ks := instP (E.last + 1) (writesP t.vals) E.ks } ∧ KeptO L.own ({ L with vs := vs' } : EnL).own w w3 from fun W g cap hB hws hg1 hg2 => by
        have hE := h.below hB
        refine (install_good _ _ g 0 cap _ (E.last + 1) _ _ (writesP t.vals) W hE.sto (by have := hE.sto.lt; omega) hws (fun hr => by have := (h.sto.row hr).2; omega) (by have := h.sto.lt; omega) hg2 (writesP_fine hA.vk hfv) (by omega) (by omega) (by omega) hf.len).mono ?_
        rintro e w3 ⟨rfl, vs', hS, hK⟩
        obtain ⟨h3, k3⟩ := hE.setSto hS hK
        exact ⟨rfl, vs', h3, KeptO.below_l hB k3⟩)
      have hi64 : I64 (E.last + 1) := by unfold I64; omega
      have HIX := hid hi64
      obtain ⟨lz, hlz⟩ : ∃ lz, E.last = lz := ⟨_, rfl⟩
      rw [hlz] at HIN HIX gw HL ⊢
      clear h hf hl ht hA hI hk0 hW hm hlast hwn hi64 hlz
      go_enter Tryz.func104, Tryz.ntmps104
      go_wp2_with fail
      refine HL.out.mono ?_
      rintro e w1 ⟨rfl, hw1⟩
      rw [hw1]
      clear hw1 w1
      go_wp2
      go_region_held3 (fun W => True)
        (first | go_keep | trivial)
        (first | (go_at_call 94
                  refine HW.out.mono ?_
                  rintro e w2 ⟨g, cap, rfl, hB2, hws, hg1, hg2⟩
                  have HB2 := hid (And.intro hB2 (And.intro hws (And.intro hg1 hg2)))
                  clear hB2 hws hg1 hg2)
               | (go_at_call 76
                  refine (HIN.out w2 g cap HB2.out.1 HB2.out.2.1 HB2.out.2.2.1 HB2.out.2.2.2).mono ?_
                  rintro e w3 ⟨rfl, vs', hE3, hK3⟩
                  have HE3 := hid (And.intro hE3 hK3)
                  clear hE3 hK3))
      have hE3 := HE3.out.1
      have c15 := hE3.c15
      have hA3 := hE3.txs (L := { L with vs := vs' }) i l t HLL.out HT.out
      have c0 := hA3.c0
      obtain ⟨w4, hr, hE4, hK4⟩ := (hE3.below (w' := w3.drew) (below_drewN (Below.refl _ w3) 1)).setWr (x := (i : Int) + 1) HIX.out hnw
      have d15 := hE4.c15
      have hA4 := hE4.txs (L := { L with vs := vs' }) i l t HLL.out HT.out
      have d0 := hA4.c0
      have HP := hid (show EnPost L _ w w4 from ⟨{ L with vs := vs' }, hE4, HE3.out.2.trans (KeptO.below_l (below_drewN (Below.refl _ w3) 1) hK4), rfl, rfl⟩)
      clear hE3 hA3 hE4 hK4 hA4
      go_wp2
      go_region_held3 (fun W => W.cell? ⟨L.s, 15, none⟩ = some (.map (some L.wb)) ∧ W.cell? ⟨l.b, 0, none⟩ = some (.int .i64 ((i : Int) + 1)))
        (first | go_keep | exact ⟨d15, d0⟩)
        (fail)
      go_wp2
      refine bodyPost_end (results_none rfl _ _ _) rfl ?_
      exact ⟨rfl, HP.out⟩
end Go.Proofs.YtjefgmeejhakbaaGreatDoor

/- engine.Commit, Ready, Writes. -/
namespace Go.Proofs.YtjefgmeejhakbaaGreatDoor
open Go.RowKit
variable {w w' : World} {L : EnL} {E : Eng}
set_option maxRecDepth 100000 in
set_option maxHeartbeats 1000000 in
theorem writesE_ok (h : EnAt w L E) {i : Nat} {t : Tx} (ht : E.txs[i]? = some t) :
    Calls Tryz.prog 28 #[.pointer (some ⟨L.s, 0, none⟩), .int .i64 ((i : Int) + 1)] w fun e w' => ∃ v, e = .returned (.tuple #[v, .nilIface]) ∧ w'.ownsRow w.heap.size 78 2 v (writesP t.vals).length (vrow (writesP t.vals)) ∧ Below w.heap.size w w' := by
  obtain ⟨l, hl, hA⟩ := h.get ht
  have HO := hid (find_ok h hl)
  have HW := hid (writes_any hA)
  clear h ht hl hA
  go_enter Tryz.func28, Tryz.ntmps28
  go_wp2_with fail
  refine HO.out.mono ?_
  rintro e w1 ⟨rfl, hw1⟩
  rw [hw1]
  clear hw1 w1
  go_wp2_with fail
  refine HW.out.mono ?_
  rintro e w1 ⟨v, rfl, ho, hB⟩
  have HF := hid (And.intro ho hB)
  clear ho hB HW
  go_wp2
  go_ret2
  exact ⟨v, rfl, HF.out⟩
theorem installE_rest (E : Eng) (i : Nat) : (installE E i).txs = E.txs ∧ (installE E i).com = E.com ∧ (installE E i).T = E.T := by
  unfold installE
  split
  · split <;> exact ⟨rfl, rfl, rfl⟩
  · exact ⟨rfl, rfl, rfl⟩
set_option maxRecDepth 100000 in
set_option maxHeartbeats 1000000 in
theorem commit_shut (h : EnAt w L E) {n c : Int} (hc : (c = 7 ∧ (n < 1 ∨ (E.txs.length : Int) < n)) ∨ (c = 6 ∧ ∃ (i : Nat) (t : Tx), n = (i : Int) + 1 ∧ E.txs[i]? = some t ∧ t.state ≠ 0)) :
    Calls Tryz.prog 37 #[.pointer (some ⟨L.s, 0, none⟩), .int .i64 n] w fun e w' => e = .returned (errV c) ∧ w' = w := by
  have HO : Hid (Calls Tryz.prog 102 #[.pointer (some ⟨L.s, 0, none⟩), .int .i64 n] w fun e w' => e = .returned (.tuple #[.pointer none, errV c]) ∧ w' = w) := by
    rcases hc with ⟨rfl, hn⟩ | ⟨rfl, i, t, rfl, ht, hs⟩
    · exact open_err h hn
    · obtain ⟨l, hl, _⟩ := h.get ht
      exact open_state h hl ht hs
  have h0 : c ≠ 0 := by rcases hc with ⟨rfl, _⟩ | ⟨rfl, _⟩ <;> decide
  rw [show errV c = Value.iface 24 (.int .i64 c) from if_neg h0] at HO ⊢
  clear h hc h0
  go_enter Tryz.func37, Tryz.ntmps37
  go_wp2_with fail
  refine HO.out.mono ?_
  rintro e w1 ⟨rfl, rfl⟩
  go_wp2
  go_ret
  exact ⟨rfl, rfl⟩
set_option maxRecDepth 100000 in
set_option maxHeartbeats 4000000 in
theorem commit_main (h : EnAt w L E) (hf : Fits E) {f : Nat} {i : Nat} {t : Tx} (ht : E.txs[i]? = some t) (hs : t.state = 0) (hfv : FineV t) (hlast : 0 ≤ E.last ∧ E.last ≤ 1099511627776) (hnw : E.nw ≤ 1000000000) (hcom : E.com.length ≤ 1000000000)
    (hks : ∀ l ∈ (installE E i).ks, l.length ≤ 100000) {R : Int × Eng} (hR : commitE f E i = some R) :
    Calls Tryz.prog 37 #[.pointer (some ⟨L.s, 0, none⟩), .int .i64 ((i : Int) + 1)] w fun e w' => e = .returned (errV R.1) ∧ EnPost L R.2 w w' := by
  obtain ⟨i0, hi0, hz0, hz1, hz2⟩ := info_parts info179
  obtain ⟨l, hl, hA⟩ := h.get ht
  have HO := hid (open_ok h hl ht hs)
  have HB := hid (between_any l.b l.ab l.hb 201 201 t.ahead t.behind w hA.c20 hA.c21 hA.ah hA.be)
  unfold commitE at hR
  rw [ht] at hR
  simp only at hR
  have HL := hid hl
  have hbi := bs_get hl
  cases hb : betB t.ahead t.behind with
  | true =>
    rw [hb] at HB hR
    rw [if_pos rfl] at hR
    obtain ⟨E9, hE9, hR2⟩ : ∃ E9, endF f (loseE E i 13) i 3 = some E9 ∧ R = (13, E9) := by
      cases he : endF f (loseE E i 13) i 3 with
      | none => rw [he] at hR; cases hR
      | some E9 => rw [he] at hR; simp at hR; exact ⟨E9, rfl, hR.symm⟩
    have HC := hid (lose_any (end_ok f) h hl ht 13 hf.len hE9)
    have HR2 := hid hR2
    clear h hf ht hs hfv hks hR hA hl hb hE9 hR2 hbi
    go_enter Tryz.func37, Tryz.ntmps37
    go_wp2_with fail
    refine HO.out.mono ?_
    rintro e w1 ⟨rfl, hw1⟩
    rw [hw1]
    clear hw1 w1
    go_wp2_with fail
    refine HB.out.mono ?_
    rintro e w1 ⟨rfl, hw1⟩
    rw [hw1]
    clear hw1 w1
    go_wp2_with fail
    refine HC.out.mono ?_
    rintro e w1 ⟨rfl, hP⟩
    have HP := hid hP
    clear hP HC
    go_wp2
    go_ret
    rw [HR2.out]
    exact ⟨rfl, HP.out⟩
  | false =>
    rw [hb] at HB hR
    rw [if_neg (by simp)] at hR
    obtain ⟨E9, hE9, hR2⟩ : ∃ E9, endF f { (installE E i) with com := E.com ++ [i] } i 2 = some E9 ∧ R = (0, E9) := by
      cases he : endF f { (installE E i) with com := E.com ++ [i] } i 2 with
      | none => rw [he] at hR; cases hR
      | some E9 => rw [he] at hR; simp at hR; exact ⟨E9, rfl, hR.symm⟩
    have HI := hid (install_any h hf hl ht hfv hlast hnw)
    have HR2 := hid hR2
    have hir := installE_rest E i
    have HE9 := hid hE9
    have HKS := hid hks
    have hlb : l.b = l.b := rfl
    clear h hf ht hs hfv hks hR hA hl hb hE9 hR2
    go_enter Tryz.func37, Tryz.ntmps37
    go_wp2_with fail
    refine HO.out.mono ?_
    rintro e w1 ⟨rfl, hw1⟩
    rw [hw1]
    clear hw1 w1
    go_wp2_with fail
    refine HB.out.mono ?_
    rintro e w1 ⟨rfl, hw1⟩
    rw [hw1]
    clear hw1 w1
    go_wp2_with fail
    refine HI.out.mono ?_
    rintro e w1 ⟨rfl, L1, hE1, hK1, hs1, hb1⟩
    obtain ⟨l1, hl1, hlb1⟩ : ∃ l1, L1.txs[i]? = some l1 ∧ l1.b = l.b := by
      have : L1.bs[i]? = some l.b := by rw [hb1]; exact hbi
      simp only [EnL.bs, List.getElem?_map, Option.map_eq_some_iff] at this
      exact this
    have c16 := hE1.c16
    have hf16 : w1.frozen? ⟨L1.s, 16, none⟩ = false := hE1.sto.free 16
    have hrow := hE1.com
    obtain ⟨ad, cap, hcv⟩ := row_form hrow
    obtain ⟨m, hm⟩ : ∃ m, (installE E i).com.length = m := ⟨_, rfl⟩
    have hm2 : m ≤ 1000000000 := by rw [← hm, hir.2.1]; exact hcom
    rw [hm] at hrow hcv
    rw [hcv] at c16
    rw [hs1] at c16 hf16
    have hsl : L.s < w1.heap.size := by have := hE1.sto.lt; rw [hs1] at this; exact this
    have hcs : L1.cv.ownBlock ≠ some L.s := fun e => by
      obtain ⟨ρ, T⟩ := hE1.tag
      have h1 := T.com _ e
      have h2 := T.eng
      rw [hs1] at h2
      rw [h2] at h1; cases h1
    have HE1 := hid hE1
    have HK1 := hid hK1
    have HL1 := hid (And.intro hl1 hlb1)
    have HM := hid hm
    have HCV := hid hcv
    have HSB := hid (And.intro hs1 hb1)
    have HCS := hid hcs
    rw [hcv] at hrow hcs
    have HROW := hid hrow
    have HCS2 := hid hcs
    clear hE1 hK1 hl1 hlb1 hrow hm hcv hs1 hb1 hcs HI
    go_wp2_with (at_builtin; refine wpList_append_lies _ rfl _ _ _ rfl 0 179 i0 _ 1 8 Tryz.underlying160 hi0 hz0 hz1 hz2 rfl (by omega) (.slice ad m cap) _ _ rfl (HROW.out.alloc _) ⟨w1.heap.size, 0, none⟩ 1 1 [.pointer (some ⟨l.b, 0, none⟩)] rfl rfl (World.news_of_block (cs := #[.pointer (some ⟨l.b, 0, none⟩)]) (t := 179) (fr := (0, 0)) (heap_alloc_new w1 _)) (by simp [Value.oneCell']) (by omega) (by unfold maxLen; omega) (by omega) (by simp) (w1.heap.size + 1) (by simp) ?_; intro gg cap' w2 ho hgrow hat hlt2; have hsb : w2.heap[L.s]? = w1.heap[L.s]? := (hgrow.block L.s (by simp; omega) (fun e => HCS2.out e.symm)).trans (Below.heap_alloc w1 _ L.s hsl); have d16 := (World.cell?_of_block (a := ⟨L.s, 16, none⟩) hsb).trans c16; have e16 := (World.frozen?_of_block (a := ⟨L.s, 16, none⟩) hsb).trans hf16; clear hsb)
    have hcb : L1.cv.ownBlock = (Value.slice ad m cap).ownBlock := by rw [HCV.out]
    obtain ⟨h3, k3⟩ := HE1.out.addCom HL1.out.1 HM.out (w1 := w2) (gg := gg) (cap := cap') (by rw [HL1.out.2]; exact ho) ⟨hgrow.os, hgrow.tape, hgrow.output⟩ (by have := hgrow.size; simp at this; omega)
      (fun g hg hne => (hgrow.block g (by simp; omega) (fun e => hne (by rw [hcb]; exact e.symm))).trans (Below.heap_alloc w1 _ g hg)) (by
        rcases hat with h1 | h1
        · exact .inl (by rw [hcb]; exact h1)
        · exact .inr (by omega))
    rw [show ({ (installE E i) with com := (installE E i).com ++ [i] } : Eng) = { (installE E i) with com := E.com ++ [i] } from by rw [hir.2.1]] at h3
    have hend := end_ok f _ _ _ E9 i l.b 2 h3 (by show L1.bs[i]? = some l.b; rw [HSB.out.2]; exact hbi) HKS.out HE9.out
    rw [show ({ L1 with cv := .slice (some ⟨gg, 0, none⟩) (m + 1) cap' } : EnL).s = L.s from HSB.out.1] at hend
    rw [HSB.out.1] at k3
    have HC := hid hend
    have HK3 := hid (HK1.out.trans k3)
    clear h3 k3 hend hcb ho hgrow hat
    go_wp2_with fail
    refine HC.out.mono ?_
    rintro e w4 ⟨rfl, L4, hE4, hK4, hs4, hb4⟩
    have HP := hid (show EnPost L E9 w w4 from ⟨L4, hE4, HK3.out.trans hK4, hs4, hb4.trans HSB.out.2⟩)
    clear hE4 hK4 hs4 hb4 HC
    go_wp2
    go_ret
    rw [HR2.out]
    exact ⟨rfl, HP.out⟩
end Go.Proofs.YtjefgmeejhakbaaGreatDoor
