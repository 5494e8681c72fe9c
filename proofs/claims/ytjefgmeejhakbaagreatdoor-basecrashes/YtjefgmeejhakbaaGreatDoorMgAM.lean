/- EnCommit EnInst BsWhole: put together for a claim. -/
import Derived.Test.YtjefgmeejhakbaaGreatDoorMgAL
import Derived.Test.YtjefgmeejhakbaaGreatDoorMgAF
import Derived.Deep.RegionHeld3
import Derived.Deep.QuietTactic
import Derived.BigQuiet
/- engine.install, Commit. -/
namespace Go.Proofs.YtjefgmeejhakbaaGreatDoor
open Go.RowKit

variable {w w' : World} {L : EnL} {E : Eng}
/-- What one wrote is in the store. -/
def installE (E : Eng) (i : Nat) : Eng := match E.txs[i]? with
  | some t => if writesP t.vals = [] ∨ 1099511627776 < E.last + 1 then E else { E with last := E.last + 1, ks := instP (E.last + 1) (writesP t.vals) E.ks, wr := updT E.wr (E.last + 1) (some ((i : Int) + 1)), nw := E.nw + 1 }
  | none => E
noncomputable def commitE (f : Nat) (E : Eng) (i : Nat) : Option (Int × Eng) := match E.txs[i]? with
  | some t => if betB t.ahead t.behind = true then (endF f (loseE E i 13) i 3).map (fun E' => (13, E')) else
    (endF f { (installE E i) with com := E.com ++ [i] } i 2).map (fun E' => (0, E'))
  | none => none

theorem P_set16 (L : EnL) (last : Int) (hlv : L.vs.length = 10) (v : Value) : (L.P.cells last L.vs).setIfInBounds 16 v = ({ L with cv := v } : EnL).P.cells last L.vs := by
  unfold Tail.cells
  rw [List.setIfInBounds_toArray, show 16 = 15 + 1 from rfl, List.set_cons_succ, List.set_append_right _ _ (by omega), hlv]
  rfl
theorem P_set14 (L : EnL) (last : Int) (hlv : L.vs.length = 10) (v : Value) : (L.P.cells last L.vs).setIfInBounds 14 v = ({ L with av := v } : EnL).P.cells last L.vs := by
  unfold Tail.cells
  rw [List.setIfInBounds_toArray, show 14 = 13 + 1 from rfl, List.set_cons_succ, List.set_append_right _ _ (by omega), hlv]
  rfl

/-- The writers are turned. -/
theorem EnAt.setWr (h : EnAt w L E) {a x : Int} (ha : I64 a) (hn : E.nw ≤ 1000000) :
    ∃ w', (Instr.mapUpdate 69 (.map (some L.wb)) (.int .i64 a) (.int .i64 x)).run Tryz.prog w = .ok () w' ∧ EnAt w' L { E with wr := updT E.wr a (some x), nw := E.nw + 1 } ∧ KeptO L.own L.own w w' := by
  obtain ⟨w', hr, hI, hg⟩ := h.wr.store Tryz.underlying69 (by unfold maxLen; omega) ha (.int .i64 x)
  rw [show updT (fun k => (E.wr k).map (Value.int .i64)) a (some (.int .i64 x)) = fun k => (updT E.wr a (some x) k).map (Value.int .i64) from (updT_map E.wr a (some x)).symm] at hI
  have hb : ∀ g, g < w.heap.size → g ≠ L.wb → w'.heap[g]? = w.heap[g]? := fun g hg' hne => hg.block g hg' (fun e => hne (by injection e))
  obtain ⟨ρ, T⟩ := h.tag
  have hk : ∀ g, L.own g → ρ g ≠ .wr → w'.heap[g]? = w.heap[g]? := fun g hg' hn => hb g (h.own_lt hg') (fun e => hn (by rw [e]; exact T.wr))
  refine ⟨w', hr, ⟨h.sto.kept (hk _ (.inl rfl) (by rw [T.eng]; exact nofun)) (fun g hg => hk g (.inr (.inl hg)) (by rw [T.srow g hg]; exact nofun)),
    h.loc.same (fun g hg => hk g (.inr (.inr (.inl hg))) (by
      by_cases hgs : g = L.s
      · rw [hgs, T.eng]; exact nofun
      · rw [T.lock g hg hgs]; exact nofun)), h.good, h.mem, owns_same h.all (fun g hg => hk g (.inr (.inr (.inr (.inl hg)))) (by rw [T.all g hg]; exact nofun)), h.len, h.le, hI,
    owns_same h.com (fun g hg => hk g (.inr (.inr (.inr (.inr (.inr (.inl hg)))))) (by rw [T.com g hg]; exact nofun)), h.coml,
    fun i l t hl ht => (h.txs i l t hl ht).same (fun g hg => hk g (TxL.own_in hl hg) (by rw [T.tx i l g hl hg]; exact nofun)), ρ, T⟩, ?_⟩
  exact ⟨hg.os, hg.tape, hg.output, hg.size, fun g hg' hn => hb g hg' (fun e => hn (e ▸ .inr (.inr (.inr (.inr (.inl rfl)))))), fun g hg => .inl hg⟩

/-- One more is committed. -/
theorem EnAt.addCom (h : EnAt w L E) {i : Nat} {l : TxL} (hl : L.txs[i]? = some l) {w1 : World} {gg cap m : Nat} (hm : E.com.length = m)
    (hown : w1.ownsRow 0 179 1 (.slice (some ⟨gg, 0, none⟩) (m + 1) cap) (m + 1) ((E.com.map fun i => ptrV (L.bs[i]?.getD 0)) ++ [.pointer (some ⟨l.b, 0, none⟩)]))
    (hos : w1.os = w.os ∧ w1.tape = w.tape ∧ w1.output = w.output) (hsz : w.heap.size ≤ w1.heap.size) (hb : ∀ g, g < w.heap.size → L.cv.ownBlock ≠ some g → w1.heap[g]? = w.heap[g]?) (hat : L.cv.ownBlock = some gg ∨ w.heap.size ≤ gg) :
    EnAt (w1.setCell ⟨L.s, 16, none⟩ (.slice (some ⟨gg, 0, none⟩) (m + 1) cap)) { L with cv := .slice (some ⟨gg, 0, none⟩) (m + 1) cap } { E with com := E.com ++ [i] } ∧
      KeptO L.own ({ L with cv := .slice (some ⟨gg, 0, none⟩) (m + 1) cap } : EnL).own w (w1.setCell ⟨L.s, 16, none⟩ (.slice (some ⟨gg, 0, none⟩) (m + 1) cap)) := by
  obtain ⟨ρ, T⟩ := h.tag
  have hsl := h.sto.lt
  have hcs : L.cv.ownBlock ≠ some L.s := fun e => by have h1 := T.com _ e; rw [T.eng] at h1; cases h1
  have hgs : gg ≠ L.s := by
    rcases hat with h1 | h1
    · exact fun e => hcs (e ▸ h1)
    · omega
  have hblk := setCell_at (o := 16) (v := .slice (some ⟨gg, 0, none⟩) (m + 1) cap) ((hb L.s hsl hcs).trans h.sto.blk)
  rw [P_set16 L E.last h.lv] at hblk
  have ho : ∀ g, g ≠ L.s → (w1.setCell ⟨L.s, 16, none⟩ (.slice (some ⟨gg, 0, none⟩) (m + 1) cap)).heap[g]? = w1.heap[g]? := fun g hg => heap_setCell_other _ ⟨L.s, 16, none⟩ g _ hg
  have hk : ∀ g, L.own g → ρ g ≠ .eng → ρ g ≠ .com → (w1.setCell ⟨L.s, 16, none⟩ (.slice (some ⟨gg, 0, none⟩) (m + 1) cap)).heap[g]? = w.heap[g]? := fun g hg h1 h2 =>
    (ho g (fun e => h1 (by rw [e]; exact T.eng))).trans (hb g (h.own_lt hg) (fun e => h2 (T.com g e)))
  have hi : i < E.txs.length := by have := (List.getElem?_eq_some_iff.1 hl).1; have := h.len; omega
  refine ⟨⟨h.sto.reblk hblk (fun g hg => hk g (.inr (.inl hg)) (by rw [T.srow g hg]; exact nofun) (by rw [T.srow g hg]; exact nofun)),
    h.loc.reblk (C' := ({ L with cv := .slice (some ⟨gg, 0, none⟩) (m + 1) cap } : EnL).C E.last) (hblk.trans (by rw [← EnL.cells_eq]; rfl)) (fun g hg hne => hk g (.inr (.inr (.inl hg))) (by rw [T.lock g hg hne]; exact nofun) (by rw [T.lock g hg hne]; exact nofun)), h.good, h.mem,
    owns_same h.all (fun g hg => hk g (.inr (.inr (.inr (.inl hg)))) (by rw [T.all g hg]; exact nofun) (by rw [T.all g hg]; exact nofun)), h.len, h.le,
    h.wr.same (hk _ (.inr (.inr (.inr (.inr (.inl rfl))))) (by rw [T.wr]; exact nofun) (by rw [T.wr]; exact nofun)), ?_, ?_,
    fun i l t hl ht => (h.txs i l t hl ht).same (fun g hg => hk g (TxL.own_in (L := L) hl hg) (by rw [T.tx i l g hl hg]; exact nofun) (by rw [T.tx i l g hl hg]; exact nofun)), fun g => if g < w.heap.size then ρ g else .com, ?_⟩, ?_⟩
  · rw [show (({ E with com := E.com ++ [i] } : Eng).com).length = m + 1 from by simp [hm], show (({ E with com := E.com ++ [i] } : Eng).com.map fun i => ptrV (({ L with cv := .slice (some ⟨gg, 0, none⟩) (m + 1) cap } : EnL).bs[i]?.getD 0)) = (E.com.map fun i => ptrV (L.bs[i]?.getD 0)) ++ [.pointer (some ⟨l.b, 0, none⟩)] from by
      show (E.com ++ [i]).map (fun i => ptrV (L.bs[i]?.getD 0)) = _
      rw [List.map_append, List.map_singleton, bs_get hl]
      rfl]
    exact owns_same hown (fun g hg => ho g (by
      have : gg = g := by simpa [Value.ownBlock] using hg
      rw [← this]; exact hgs))
  · intro j hj
    rcases List.mem_append.1 hj with h1 | h1
    · exact h.coml j h1
    · rw [List.mem_singleton.1 h1]; exact hi
  · have hlt : ∀ g, L.own g → (if g < w.heap.size then ρ g else Tag.com) = ρ g := fun g hg => if_pos (h.own_lt hg)
    refine ⟨(hlt _ (.inl rfl)).trans T.eng, fun g hg => (hlt g (.inr (.inl hg))).trans (T.srow g hg), fun g hg hn => (hlt g (.inr (.inr (.inl hg)))).trans (T.lock g hg hn), fun g hg => (hlt g (.inr (.inr (.inr (.inl hg))))).trans (T.all g hg), (hlt _ (.inr (.inr (.inr (.inr (.inl rfl)))))).trans T.wr,
      fun g hg => ?_, fun j m g hm hg => (hlt g (TxL.own_in (L := L) hm hg)).trans (T.tx j m g hm hg)⟩
    have hgg : gg = g := by simpa [Value.ownBlock] using hg
    subst hgg
    rcases hat with h1 | h1
    · exact (hlt gg (.inr (.inr (.inr (.inr (.inr (.inl h1))))))).trans (T.com gg h1)
    · simp only [if_neg (Nat.not_lt.2 h1)]
  · refine ⟨hos.1, hos.2.1, hos.2.2, by simpa using hsz, fun g hg hn => (ho g (fun e => hn (.inl e))).trans (hb g hg (fun e => hn (.inr (.inr (.inr (.inr (.inr (.inl e)))))))), fun g hg => ?_⟩
    rcases hg with h1 | h1 | h1 | h1 | h1 | h1 | h1
    · exact .inl (.inl h1)
    · exact .inl (.inr (.inl h1))
    · exact .inl (.inr (.inr (.inl h1)))
    · exact .inl (.inr (.inr (.inr (.inl h1))))
    · exact .inl (.inr (.inr (.inr (.inr (.inl h1)))))
    · have hgg : gg = g := by simpa [Value.ownBlock] using h1
      subst hgg
      rcases hat with h2 | h2
      · exact .inl (.inr (.inr (.inr (.inr (.inr (.inl h2))))))
      · exact .inr h2
    · exact .inl (.inr (.inr (.inr (.inr (.inr (.inr h1))))))

end Go.Proofs.YtjefgmeejhakbaaGreatDoor

/- engine.install. -/
namespace Go.Proofs.YtjefgmeejhakbaaGreatDoor
open Go.RowKit

variable {w w' : World} {L : EnL} {E : Eng}
theorem writesP_nil {V : Int → Option Int} (hv : ∀ k, V k ≠ none → 0 ≤ k ∧ k < 10) : writesP V = [] ↔ ∀ a, V a = none := by
  unfold writesP
  rw [List.map_eq_nil_iff]
  constructor
  · intro h a
    cases ha : V a with
    | none => rfl
    | some x =>
      have := (mem_keysOf hv a).2 (by rw [ha]; rfl)
      rw [h] at this
      cases this
  · intro h
    unfold keysOf
    rw [List.filter_eq_nil_iff]
    intro a _
    rw [h a]
    simp
theorem vals_len {n : Int} {l : TxL} {t : Tx} (hA : TxAt w n l t) : ∃ k : Nat, k ≤ 10 ∧ (∀ ty, (Builtin.len_ #[69] ty #[.map (some l.vb)]).run Tryz.prog w = .ok (.int .i64 k) w) ∧ (k = 0 ↔ writesP t.vals = []) := by
  obtain ⟨k, h1, h2, h3⟩ := hA.va.len Tryz.underlying69
  refine ⟨k, h1, h2, h3.trans ((writesP_nil hA.vk).trans ?_).symm⟩
  constructor
  · intro h a; show (t.vals a).map _ = none; rw [h a]; rfl
  · intro h a
    have := h a
    cases hv : t.vals a with
    | none => rfl
    | some x => rw [hv] at this; cases this
theorem vrow_wrow {W : World} {g : Nat} {ws : List (Int × Int)} (h : ∀ j u, (vrow ws)[j]? = some u → W.cell? ⟨g, j, none⟩ = some u) : WRow W g 0 ws := fun j a v e => by
  have hx := vrow_get ws j a v e
  exact ⟨by rw [Nat.zero_add]; exact h _ _ hx.1, by rw [Nat.zero_add]; exact h _ _ hx.2⟩

/-- The values are right. -/
def FineV (t : Tx) : Prop := ∀ k v, t.vals k = some v → -1099511627776 ≤ v ∧ v ≤ 1099511627776
theorem writesP_fine {t : Tx} (hv : ∀ k, t.vals k ≠ none → 0 ≤ k ∧ k < 10) (hf : FineV t) : ∀ p ∈ writesP t.vals, Fine p := fun p hp => by
  obtain ⟨k, hk, rfl⟩ := List.mem_map.1 hp
  have h1 := (mem_keysOf hv k).1 hk
  cases hx : t.vals k with
  | none => rw [hx] at h1; cases h1
  | some x =>
    have h2 := hv k (by rw [hx]; exact nofun)
    have h3 := hf k x hx
    exact ⟨by simp [keyB]; omega, by simpa using h3.1, by simpa using h3.2⟩

set_option maxRecDepth 100000 in
set_option maxHeartbeats 2000000 in
theorem install_any (h : EnAt w L E) (hf : Fits E) {i : Nat} {l : TxL} {t : Tx} (hl : L.txs[i]? = some l) (ht : E.txs[i]? = some t) (hfv : FineV t) (hlast : 0 ≤ E.last ∧ E.last ≤ 1099511627776) (hnw : E.nw ≤ 1000000) :
    Calls Tryz.prog 104 #[.pointer (some ⟨L.s, 0, none⟩), .pointer (some ⟨l.b, 0, none⟩)] w fun e w' => e = .returned (.tuple #[]) ∧ EnPost L (installE E i) w w' := by
  have hA := h.txs i l t hl ht
  have c8 := hA.c8
  obtain ⟨kk, hkk, hlen, hk0⟩ := vals_len hA
  have hI : installE E i = if writesP t.vals = [] ∨ 1099511627776 < E.last + 1 then E else { E with last := E.last + 1, ks := instP (E.last + 1) (writesP t.vals) E.ks, wr := updT E.wr (E.last + 1) (some ((i : Int) + 1)), nw := E.nw + 1 } := by
    unfold installE; rw [ht]
  by_cases hz : kk = 0
  · subst hz
    rw [hI, if_pos (.inl (hk0.1 rfl))]
    have HP := hid (show EnPost L E w w from ⟨L, h, KeptO.refl _ _, rfl, rfl⟩)
    clear h hf hl ht hA hI hk0
    go_enter Tryz.func104, Tryz.ntmps104
    go_wp2
    refine bodyPost_ret (results_none rfl _ _ _) rfl ?_
    exact ⟨rfl, HP.out⟩
  · have g0 : ((kk : Int) == 0) = false := by simp; omega
    have hwn : writesP t.vals ≠ [] := fun e => hz (hk0.2 e)
    have hwl := writesP_len t.vals
    have HL := hid (last_any _ _ _ _ _ w h.sto)
    have hd : Below w.heap.size w w.drew := below_drewN (Below.refl _ w) 1
    have hW : Calls Tryz.prog 94 #[.pointer (some ⟨l.b, 0, none⟩)] w.drew fun e w1 => ∃ g cap, e = .returned (.slice (some ⟨g, 0, none⟩) (writesP t.vals).length cap) ∧ Below w.heap.size w w1 ∧ WRow w1 g 0 (writesP t.vals) ∧ w.heap.size ≤ g ∧ g < w1.heap.size := by
      refine (writes_any ((h.below hd).txs i l t hl ht)).mono ?_
      rintro e w1 ⟨v, rfl, ho, hB⟩
      rcases row_slice ho with ⟨e1, e2⟩ | ⟨g, cap, e1, hg, hc⟩
      · exact (hwn (List.eq_nil_of_length_eq_zero e2)).elim
      · exact ⟨g, cap, by rw [e1], hd.trans hB, vrow_wrow hc, (ho.lt g (by rw [e1]; rfl)).1, hg⟩
    have HW := hid hW
    have gw : IntKind.i64.wrap (E.last + 1) = E.last + 1 := IntWalk.i64_in _ (by omega)
    have HH := hid h
    have HLL := hid hl
    have HT := hid ht
    by_cases hm : 1099511627776 < E.last + 1
    · rw [hI, if_pos (.inr hm)]
      have HIN := hid (fun W (hB : Below w.heap.size w W) lv => install_order _ _ _ (E.last + 1) lv _ _ W (h.below hB).sto (.inr hm))
      obtain ⟨la, hla⟩ : ∃ la, E.last = la := ⟨_, rfl⟩
      rw [hla] at HL HIN gw
      clear h hf hl ht hA hI hk0 hW hm hla hlast hwn
      go_enter Tryz.func104, Tryz.ntmps104
      go_wp2_with fail
      refine HL.out.mono ?_
      rintro e w1 ⟨rfl, hw1⟩
      rw [hw1]
      clear hw1 w1
      go_wp2
      go_region_held3 (fun W => True)
        (first | go_keep | trivial)
        (first | (go_at_call 94
                  refine HW.out.mono ?_
                  rintro e w2 ⟨g, cap, rfl, hB2, hws, hg1, hg2⟩
                  have HB2 := hid hB2
                  clear hB2 hws)
               | (go_at_call 76
                  refine (HIN.out w2 HB2.out _).mono ?_
                  rintro e w3 ⟨rfl, hw3⟩
                  rw [hw3]
                  clear hw3 w3))
      have HP := hid (show EnPost L E w w2 from ⟨L, HH.out.below HB2.out, KeptO.of_below HB2.out, rfl, rfl⟩)
      go_wp2
      refine bodyPost_end (results_none rfl _ _ _) rfl ?_
      exact ⟨rfl, HP.out⟩
    · rw [hI, if_neg (fun e => e.elim hwn hm)]
      have HIN := hid (show ∀ W g cap, Below w.heap.size w W → WRow W g 0 (writesP t.vals) → w.heap.size ≤ g → g < W.heap.size →
          Calls Tryz.prog 76 #[.pointer (some ⟨L.s, 0, none⟩), .int .i64 (E.last + 1), .slice (some ⟨g, 0, none⟩) (writesP t.vals).length cap] W fun e w3 => e = .returned .nilIface ∧ ∃ vs',
            EnAt w3 { L with vs := vs' } { E with last := E.last + 1, ks := instP (E.last + 1) (writesP t.vals) E.ks } ∧ KeptO L.own ({ L with vs := vs' } : EnL).own w w3 from fun W g cap hB hws hg1 hg2 => by
        have hE := h.below hB
        refine (install_good _ _ g 0 cap _ (E.last + 1) _ _ (writesP t.vals) W hE.sto (by have := hE.sto.lt; omega) hws (fun hr => by have := (h.sto.row hr).2; omega) (by have := h.sto.lt; omega) hg2 (writesP_fine hA.vk hfv) (by omega) (by omega) (by omega) hf.len).mono ?_
        rintro e w3 ⟨rfl, vs', hS, hK⟩
        obtain ⟨h3, k3⟩ := hE.setSto hS hK
        exact ⟨rfl, vs', h3, KeptO.below_l hB k3⟩)
      have hi64 : I64 (E.last + 1) := by unfold I64; omega
      have HIX := hid hi64
      obtain ⟨lz, hlz⟩ : ∃ lz, E.last = lz := ⟨_, rfl⟩
      rw [hlz] at HIN HIX gw HL ⊢
      clear h hf hl ht hA hI hk0 hW hm hlast hwn hi64 hlz
      go_enter Tryz.func104, Tryz.ntmps104
      go_wp2_with fail
      refine HL.out.mono ?_
      rintro e w1 ⟨rfl, hw1⟩
      rw [hw1]
      clear hw1 w1
      go_wp2
      go_region_held3 (fun W => True)
        (first | go_keep | trivial)
        (first | (go_at_call 94
                  refine HW.out.mono ?_
                  rintro e w2 ⟨g, cap, rfl, hB2, hws, hg1, hg2⟩
                  have HB2 := hid (And.intro hB2 (And.intro hws (And.intro hg1 hg2)))
                  clear hB2 hws hg1 hg2)
               | (go_at_call 76
                  refine (HIN.out w2 g cap HB2.out.1 HB2.out.2.1 HB2.out.2.2.1 HB2.out.2.2.2).mono ?_
                  rintro e w3 ⟨rfl, vs', hE3, hK3⟩
                  have HE3 := hid (And.intro hE3 hK3)
                  clear hE3 hK3))
      have hE3 := HE3.out.1
      have c15 := hE3.c15
      have hA3 := hE3.txs (L := { L with vs := vs' }) i l t HLL.out HT.out
      have c0 := hA3.c0
      obtain ⟨w4, hr, hE4, hK4⟩ := (hE3.below (w' := w3.drew) (below_drewN (Below.refl _ w3) 1)).setWr (x := (i : Int) + 1) HIX.out hnw
      have d15 := hE4.c15
      have hA4 := hE4.txs (L := { L with vs := vs' }) i l t HLL.out HT.out
      have d0 := hA4.c0
      have HP := hid (show EnPost L _ w w4 from ⟨{ L with vs := vs' }, hE4, HE3.out.2.trans (KeptO.below_l (below_drewN (Below.refl _ w3) 1) hK4), rfl, rfl⟩)
      clear hE3 hA3 hE4 hK4 hA4
      go_wp2
      go_region_held3 (fun W => W.cell? ⟨L.s, 15, none⟩ = some (.map (some L.wb)) ∧ W.cell? ⟨l.b, 0, none⟩ = some (.int .i64 ((i : Int) + 1)))
        (first | go_keep | exact ⟨d15, d0⟩)
        (fail)
      go_wp2
      refine bodyPost_end (results_none rfl _ _ _) rfl ?_
      exact ⟨rfl, HP.out⟩

end Go.Proofs.YtjefgmeejhakbaaGreatDoor

/- base's isWhole: whether bytes are all those of a commit. -/
namespace Go.Proofs.YtjefgmeejhakbaaGreatDoor
open Go.RowKit

/-- Bytes are all those of a commit. -/
def wholeP (l : List Int) : Bool := match l with
  | [] => false
  | x :: _ => decide ((l.length : Int) = x * 9 + 9) && ((numN (l.drop (l.length - 8)) 8 : Nat) : Int) == sumP (l.take (l.length - 8))
theorem BytesAt.drop {w : World} {g off : Nat} {l : List Int} (h : BytesAt w (some ⟨g, off, none⟩) l) (d : Nat) : BytesAt w (some ⟨g, off + d, none⟩) (l.drop d) := fun i x hx => by
  rw [List.getElem?_drop] at hx
  obtain ⟨h1, g', off', e, hc⟩ := h (d + i) x hx
  cases e
  exact ⟨h1, g, off + d, rfl, by rw [Nat.add_assoc]; exact hc⟩
theorem BytesAt.take {w : World} {ad : Option Addr} {l : List Int} (h : BytesAt w ad l) (d : Nat) : BytesAt w ad (l.take d) := fun i x hx => by
  rw [List.getElem?_take] at hx
  split at hx
  · exact h i x hx
  · cases hx
theorem BytesAt.same {w w' : World} {ad : Option Addr} {l : List Int} (h : BytesAt w ad l) (hs : ∀ a : Addr, ad.map (·.block) = some a.block → w'.cell? a = w.cell? a) : BytesAt w' ad l := fun i x hx => by
  obtain ⟨h1, g, off, e, hc⟩ := h i x hx
  exact ⟨h1, g, off, e, (hs ⟨g, off + i, none⟩ (by rw [e]; rfl)).trans hc⟩

set_option maxRecDepth 100000 in
set_option maxHeartbeats 1000000 in
theorem whole_any (ad : Option Addr) (cap : Nat) (l : List Int) (w : World) (hn : l.length ≤ 10000) (hcap : l.length ≤ cap) (hA : BytesAt w ad l) :
    Calls Tryz.prog 208 #[.slice ad l.length cap] w fun e w' => e = .returned (.bool (wholeP l)) ∧ ∃ q, w' = w.drewN q := by
  cases hl : l with
  | nil =>
    clear hA
    go_enter Tryz.func208, Tryz.ntmps208
    go_wp2
    go_ret
    exact ⟨rfl, 0, rfl⟩
  | cons x r =>
    rw [← hl]
    obtain ⟨hx, g, off, rfl, c0⟩ := hA 0 x (by rw [hl]; rfl)
    rw [Nat.add_zero] at c0
    have hw0 : wholeP l = (decide ((l.length : Int) = x * 9 + 9) && ((numN (l.drop (l.length - 8)) 8 : Nat) : Int) == sumP (l.take (l.length - 8))) := by rw [hl]; rfl
    have hpos : 0 < l.length := by rw [hl]; simp
    have gm : IntKind.i64.wrap (x * 9) = x * 9 := IntWalk.i64_in _ (by omega)
    have gm2 : IntKind.i64.wrap (1 + x * 9) = 1 + x * 9 := IntWalk.i64_in _ (by omega)
    have gm3 : IntKind.i64.wrap (1 + x * 9 + 8) = 1 + x * 9 + 8 := IntWalk.i64_in _ (by omega)
    by_cases hlen : (l.length : Int) = x * 9 + 9
    · have ge : IntKind.i64.wrap ((l.length : Int) - 8) = ((l.length - 8 : Nat) : Int) := by rw [show (l.length : Int) - 8 = ((l.length - 8 : Nat) : Int) by omega]; exact IntWalk.i64_in _ (by omega)
      obtain ⟨d, hd⟩ : ∃ d, l.length - 8 = d := ⟨_, rfl⟩
      have hdl : l.length = d + 8 := by omega
      rw [hd] at ge
      have HN := hid (fun q => bnumber_any (some ⟨g, off + d, none⟩) 8 (cap - d) (l.drop d) (w.drewN q) (Nat.le_refl _) ((hA.drop d).same (fun a _ => by simp)) (by rw [List.length_drop]; omega))
      have HS := hid (fun q => bsum_any (some ⟨g, off, none⟩) cap (l.take d) (w.drewN q) (by rw [List.length_take]; omega) ((hA.take d).same (fun a _ => by simp)))
      have hw : wholeP l = (((numN (l.drop d) 8 : Nat) : Int) == sumP (l.take d)) := by
        rw [hw0, hd, decide_eq_true hlen, Bool.true_and]
      rw [List.length_take, Nat.min_eq_left (by omega)] at HS
      rw [hw]
      obtain ⟨nn, hnn⟩ : ∃ nn : Int, ((numN (l.drop d) 8 : Nat) : Int) = nn := ⟨_, rfl⟩
      obtain ⟨ss, hss⟩ : ∃ ss, sumP (l.take d) = ss := ⟨_, rfl⟩
      rw [hnn] at HN
      rw [hss] at HS
      rw [hnn, hss]
      obtain ⟨len, hle⟩ : ∃ len, l.length = len := ⟨_, rfl⟩
      rw [hle] at ge hdl hcap hn hlen
      rw [hle]
      clear hA hw hw0 hnn hss hd hl hpos hle
      subst hdl
      have g0 : ((d : Int) + 8 == 0) = false := by simp; omega
      have gne : ((d : Int) + 8 != 1 + x * 9 + 8) = false := by simp; omega
      have gl0 : (0 : Int) < (d : Int) + 8 := by omega
      have ge2 : IntKind.i64.wrap ((d : Int) + 8 - 8) = (d : Int) := by rw [show (d : Int) + 8 - 8 = (d : Int) by omega]; exact IntWalk.i64_in _ (by omega)
      clear hlen
      go_enter Tryz.func208, Tryz.ntmps208
      go_wp2
      go_quiet (first | (go_at_call 209; refine Calls.quiet_of_same (HN.out _)) | (go_at_call 158; refine Calls.quiet_of_same (HS.out _)))
      go_wp2
      go_ret
      exact ⟨rfl, _, rfl⟩
    · have gne : ((l.length : Int) != 1 + x * 9 + 8) = true := by simp; omega
      have g0 : ((l.length : Int) == 0) = false := beq_false_of_ne (by omega)
      have gl0 : (0 : Int) < (l.length : Int) := by omega
      have hw : wholeP l = false := by
        rw [hw0, decide_eq_false hlen, Bool.false_and]
      rw [hw]
      clear hA hw hl hw0
      go_enter Tryz.func208, Tryz.ntmps208
      go_wp2
      go_ret
      exact ⟨rfl, 0, rfl⟩

end Go.Proofs.YtjefgmeejhakbaaGreatDoor
