/- KtTalOk KtAllS KtRan KtTellsC KtTellsD SrFull KtRowAt: put together for a claim. -/
import Derived.Test.YtjefgmeejhakbaaGreatDoorKtDoesS
import Derived.Test.YtjefgmeejhakbaaGreatDoorMgAW
import Derived.Test.YtjefgmeejhakbaaGreatDoorKtDoesC
import Derived.Test.YtjefgmeejhakbaaGreatDoorMgAD
import Derived.Test.YtjefgmeejhakbaaGreatDoorMgAX
import Derived.Test.YtjefgmeejhakbaaGreatDoorMgAS
/- What is asked of a tale's memory. -/
namespace Go.Proofs.YtjefgmeejhakbaaGreatDoor
open Go.RowKit

theorem POk.talOk {w0 : Gr} {E : Eng} {t : Tal} {n : Nat} (h : POk E t n) (hg : Handle w0.w ∧ w0.P 0) : TalOk w0 E t n := ⟨h.mid, h.steps, h.num, h.rd, h.tr, h.ts, hg⟩

end Go.Proofs.YtjefgmeejhakbaaGreatDoor

/- keep's does, whatever the act, all being strict. -/
namespace Go.Proofs.YtjefgmeejhakbaaGreatDoor
open Go.RowKit

theorem does_strict {w0 : Gr} {w : World} {L : EnL} {E : Eng} {TL : TalL} {t : Tal} {n : Nat} (h : TaleAt w0 w L E TL t) (ho : POk E t n) (hg : Handle w0.w ∧ w0.P 0) (hn : n ≤ 1000) (what lev tx key : Int) :
    Calls Tryz.prog 24 #[.pointer (some ⟨TL.b, 0, none⟩), .agg #[.int .i64 what, .int .i64 lev, .int .i64 tx, .int .i64 key], .int .i64 2] w fun e w' => e = .returned (.tuple #[]) ∧
      ∃ L' E' TL' t', TaleAt w0 w' L' E' TL' t' ∧ Does 2 E t E' t' ∧ TL'.b = TL.b := by
  have hs : 0 ≤ t.steps ∧ t.steps ≤ 1000 := by have := ho.steps; omega
  by_cases hw : what = 0
  · subst hw
    by_cases hb : 200 ≤ E.txs.length ∨ 6 ≤ (liveOnes E).length
    · refine (does_full_at h ho.mid.fits hs 2 lev tx key (by omega) hb).mono ?_
      rintro e w' ⟨rfl, L', E', TL', t', h1, h2, _, h4⟩
      exact ⟨rfl, L', E', TL', t', h2, h1, h4⟩
    · refine (does_begin_at h ho.mid.fits hs 2 lev tx key (by omega) (by omega) (by omega)).mono ?_
      rintro e w' ⟨rfl, L', E', TL', t', h1, h2, _, h4⟩
      exact ⟨rfl, L', E', TL', t', h2, h1, h4⟩
  · refine (does_rest h (ho.talOk hg) hn 2 what lev tx key hw).mono ?_
    rintro e w' ⟨rfl, L', E', TL', t', h1, h2, _, h4⟩
    exact ⟨rfl, L', E', TL', t', h2, h1, h4⟩

end Go.Proofs.YtjefgmeejhakbaaGreatDoor

/- keep's ran. -/
namespace Go.Proofs.YtjefgmeejhakbaaGreatDoor
open Go.RowKit

theorem EnPost.go {w0 w w' : World} {L : EnL} {E' : Eng} (hB : Below w0.heap.size w0 w) (hn : ∀ g, L.own g → w0.heap.size ≤ g) (hp : EnPost L E' w w') : ∃ L', EnAt w' L' E' ∧ Below w0.heap.size w0 w' ∧ (∀ g, L'.own g → w0.heap.size ≤ g) ∧ L'.s = L.s := by
  obtain ⟨L', hE, hK, hs, _⟩ := hp
  exact ⟨L', hE, hB.trans (hK.below hB.size hn), fun g hg => (hK.sub g hg).elim (hn g) (fun e => Nat.le_trans hB.size e), hs⟩

set_option maxRecDepth 100000 in
set_option maxHeartbeats 4000000 in
theorem ran_any (w : World) (hg : Handle w) : Calls Tryz.prog 22 #[] w fun e w' => e = .returned (.bool true) ∧ Below w.heap.size w w' := by
  have hh : ∀ W, Below w.heap.size w W → Handle W := fun W hB => hg.below hB hg.pos
  have HH := hid hh
  have HN := hid (new_any w)
  clear hh hg
  go_enter Tryz.func22, Tryz.ntmps22
  go_wp2_with fail
  refine HN.out.mono ?_
  rintro e w1 ⟨L1, rfl, hE1, hB1, hn1⟩
  have hs1 : L1.s = L1.s := rfl
  have HB1 : Hid (Calls Tryz.prog 51 #[.pointer (some ⟨L1.s, 0, none⟩), .int .i64 2] w1 fun e w' => e = .returned (.tuple #[.int .i64 1, .nilIface]) ∧ ∃ L' b, EnAt w' L' rA ∧ KeptO L1.own L'.own w1 w' ∧ L'.s = L1.s ∧ L'.bs = L1.bs ++ [b]) := by
    have := begin_ok (E := eng0) hE1 (level := 2) (.inr (.inr rfl)) (by decide) (by decide)
    exact this
  have HX1 := hid (And.intro hB1 (And.intro hn1 hs1))
  clear hE1 hB1 hn1 hs1
  go_wp2_with fail
  refine HB1.out.mono ?_
  rintro e w2 ⟨rfl, L2, b2, hE2, hK, hs, _⟩
  have hB2 : Below w.heap.size w w2 := HX1.out.1.trans (hK.below HX1.out.1.size HX1.out.2.1)
  have hn2 : ∀ g, L2.own g → w.heap.size ≤ g := fun g hg => (hK.sub g hg).elim (HX1.out.2.1 g) (fun e => Nat.le_trans HX1.out.1.size e)
  have hs2 : L2.s = L1.s := hs
  clear hK hs HB1 HX1
  have HB2 : Hid (Calls Tryz.prog 51 #[.pointer (some ⟨L1.s, 0, none⟩), .int .i64 2] w2 fun e w' => e = .returned (.tuple #[.int .i64 2, .nilIface]) ∧ ∃ L' b, EnAt w' L' rB ∧ KeptO L2.own L'.own w2 w' ∧ L'.s = L2.s ∧ L'.bs = L2.bs ++ [b]) := by
    have := begin_ok (E := rA) hE2 (level := 2) (.inr (.inr rfl)) (by decide) (by decide)
    rw [hs2] at this ⊢
    exact this
  have HX2 := hid (And.intro hB2 (And.intro hn2 hs2))
  clear hE2 hB2 hn2 hs2
  go_wp2_with fail
  refine HB2.out.mono ?_
  rintro e w3 ⟨rfl, L3, b3, hE3, hK, hs, _⟩
  have hB3 : Below w.heap.size w w3 := HX2.out.1.trans (hK.below HX2.out.1.size HX2.out.2.1)
  have hn3 : ∀ g, L3.own g → w.heap.size ≤ g := fun g hg => (hK.sub g hg).elim (HX2.out.2.1 g) (fun e => Nat.le_trans HX2.out.1.size e)
  have hs3 : L3.s = L1.s := hs.trans HX2.out.2.2
  clear hK hs HB2 HX2
  have HC3 : Hid (Calls Tryz.prog 52 #[.pointer (some ⟨L1.s, 0, none⟩), .int .i64 1, .int .i64 1] w3 fun e w' => e = .returned (.tuple #[.int .i64 0, errV 8]) ∧ EnPost L3 rC w3 w') := by
    have := read_any hE3 (HH.out w3 hB3) rB_mid (fun u hu => by have := rB_rd u hu; omega) (i := 0) (u := newTx 2 0) rfl rfl (by decide) rC_eq
    rw [hs3] at this
    exact this
  have HX3 := hid (And.intro hB3 (And.intro hn3 hs3))
  clear hE3 hB3 hn3 hs3
  go_wp2_with fail
  refine HC3.out.mono ?_
  rintro e w4 ⟨rfl, hP⟩
  obtain ⟨L4, hE4, hB4, hn4, hs⟩ := EnPost.go HX3.out.1 HX3.out.2.1 hP
  have hs4 : L4.s = L1.s := hs.trans HX3.out.2.2
  clear hP hs HC3 HX3
  have HC4 : Hid (Calls Tryz.prog 52 #[.pointer (some ⟨L1.s, 0, none⟩), .int .i64 2, .int .i64 2] w4 fun e w' => e = .returned (.tuple #[.int .i64 0, errV 8]) ∧ EnPost L4 rD w4 w') := by
    have := read_any hE4 (HH.out w4 hB4) rC_went.mid (fun u hu => by have := rC_went.rd u hu; omega) (i := 1) (Classical.choose_spec (show ∃ u, rC.txs[1]? = some u ∧ u.state = 0 from ⟨_, rfl, rfl⟩)).1 (Classical.choose_spec (show ∃ u, rC.txs[1]? = some u ∧ u.state = 0 from ⟨_, rfl, rfl⟩)).2 (by decide) rD_eq
    rw [hs4] at this
    exact this
  have HX4 := hid (And.intro hB4 (And.intro hn4 hs4))
  clear hE4 hB4 hn4 hs4
  go_wp2_with fail
  refine HC4.out.mono ?_
  rintro e w5 ⟨rfl, hP⟩
  obtain ⟨L5, hE5, hB5, hn5, hs⟩ := EnPost.go HX4.out.1 HX4.out.2.1 hP
  have hs5 : L5.s = L1.s := hs.trans HX4.out.2.2
  clear hP hs HC4 HX4
  have HC5 : Hid (Calls Tryz.prog 53 #[.pointer (some ⟨L1.s, 0, none⟩), .int .i64 1, .int .i64 2, .int .i64 5] w5 fun e w' => e = .returned (.tuple #[.bool true, errV 0]) ∧ EnPost L5 rF w5 w') := by
    have := write_main hE5 rD_went.mid.fits rD_rank (i := 0) (Classical.choose_spec (show ∃ u, rD.txs[0]? = some u ∧ u.state = 0 from ⟨_, rfl, rfl⟩)).1 (Classical.choose_spec (show ∃ u, rD.txs[0]? = some u ∧ u.state = 0 from ⟨_, rfl, rfl⟩)).2 (by decide) (by decide) rF_eq
    rw [hs5] at this
    exact this
  have HX5 := hid (And.intro hB5 (And.intro hn5 hs5))
  clear hE5 hB5 hn5 hs5
  go_wp2_with fail
  refine HC5.out.mono ?_
  rintro e w6 ⟨rfl, hP⟩
  obtain ⟨L6, hE6, hB6, hn6, hs⟩ := EnPost.go HX5.out.1 HX5.out.2.1 hP
  have hs6 : L6.s = L1.s := hs.trans HX5.out.2.2
  clear hP hs HC5 HX5
  have HC6 : Hid (Calls Tryz.prog 53 #[.pointer (some ⟨L1.s, 0, none⟩), .int .i64 2, .int .i64 1, .int .i64 6] w6 fun e w' => e = .returned (.tuple #[.bool true, errV 0]) ∧ EnPost L6 rG w6 w') := by
    have := write_main hE6 rF_went.mid.fits rF_rank (i := 1) (Classical.choose_spec (show ∃ u, rF.txs[1]? = some u ∧ u.state = 0 from ⟨_, rfl, rfl⟩)).1 (Classical.choose_spec (show ∃ u, rF.txs[1]? = some u ∧ u.state = 0 from ⟨_, rfl, rfl⟩)).2 (by decide) (by decide) rG_eq
    rw [hs6] at this
    exact this
  have HX6 := hid (And.intro hB6 (And.intro hn6 hs6))
  clear hE6 hB6 hn6 hs6
  go_wp2_with fail
  refine HC6.out.mono ?_
  rintro e w7 ⟨rfl, hP⟩
  obtain ⟨L7, hE7, hB7, hn7, hs⟩ := EnPost.go HX6.out.1 HX6.out.2.1 hP
  have hs7 : L7.s = L1.s := hs.trans HX6.out.2.2
  clear hP hs HC6 HX6
  have HT8 := hid (fun W (hB : Below w7.heap.size w7 W) => tellV 8 W (HH.out W (hB7.trans (hB.mono hB7.size))))
  have HCc : Hid (∀ W, Below w7.heap.size w7 W → Calls Tryz.prog 37 #[.pointer (some ⟨L1.s, 0, none⟩), .int .i64 1] W fun e w' => e = .returned (errV 13) ∧ EnPost L7 rH W w') := fun W hB => by
    have CH := (Classical.choose_spec (show ∃ u, rG.txs[0]? = some u ∧ u.state = 0 from ⟨_, rfl, rfl⟩))
    have := commit_main (hE7.below hB) rG_went.mid.fits (i := 0) CH.1 CH.2 (rG_went.mid.fine CH.1) (by have := rG_went.mid.last_le; have e : rG.ce.last = rG.last := rfl; omega) (by have := rG_went.mid.com.nwc; have := rG_went.mid.cw_len; have e : rG.ce.nw = rG.nw := rfl; omega) (by have := rG_went.mid.com_len; have e : rG.ce.com = rG.com := rfl; rw [e] at this; omega) (rG_went.mid.inst_ks _) rH_eq
    rw [hs7] at this
    exact this
  have HX7 := hid (And.intro hB7 (And.intro hn7 hs7))
  rw [show errV 8 = Value.iface 24 (.int .i64 8) from rfl, show errV 0 = Value.nilIface from rfl]
  rw [show errV 8 = Value.iface 24 (.int .i64 8) from rfl] at HT8
  clear hE7 hB7 hn7 hs7
  go_wp2_with fail
  refine (HT8.out _ (Below.refl _ _)).mono ?_
  rintro e w8 ⟨rfl, hB8⟩
  go_wp2_with fail
  refine (HT8.out _ hB8).mono ?_
  rintro e w9 ⟨rfl, hB9'⟩
  have hB9 : Below w7.heap.size w7 w9 := hB8.trans (hB9'.mono hB8.size)
  have HB9 := hid hB9
  clear hB8 hB9' hB9
  go_wp2_with fail
  refine (HCc.out _ HB9.out).mono ?_
  rintro e w10 ⟨rfl, hP⟩
  obtain ⟨L10, hE10, hB10, hn10, hs⟩ := EnPost.go (HX7.out.1.trans (HB9.out.mono HX7.out.1.size)) HX7.out.2.1 hP
  have hs10 : L10.s = L1.s := hs.trans HX7.out.2.2
  clear hP hs HCc HT8 HX7 HB9
  have HCd : Hid (Calls Tryz.prog 37 #[.pointer (some ⟨L1.s, 0, none⟩), .int .i64 2] w10 fun e w' => e = .returned (errV 0) ∧ EnPost L10 rI w10 w') := by
    have CH := (Classical.choose_spec (show ∃ u, rH.txs[1]? = some u ∧ u.state = 0 from ⟨_, rfl, rfl⟩))
    have := commit_main hE10 rH_went.mid.fits (i := 1) CH.1 CH.2 (rH_went.mid.fine CH.1) (by have := rH_went.mid.last_le; have e : rH.ce.last = rH.last := rfl; omega) (by have := rH_went.mid.com.nwc; have := rH_went.mid.cw_len; have e : rH.ce.nw = rH.nw := rfl; omega) (by have := rH_went.mid.com_len; have e : rH.ce.com = rH.com := rfl; rw [e] at this; omega) (rH_went.mid.inst_ks _) rI_eq
    rw [hs10] at this
    exact this
  have HX10 := hid (And.intro hB10 (And.intro hn10 hs10))
  clear hE10 hB10 hn10 hs10
  go_wp2_with fail
  refine HCd.out.mono ?_
  rintro e w11 ⟨rfl, hP⟩
  obtain ⟨L11, hE11, hB11, hn11, hs⟩ := EnPost.go HX10.out.1 HX10.out.2.1 hP
  have hs11 : L11.s = L1.s := hs.trans HX10.out.2.2
  have HT := hid (tellV 13 w11 (HH.out w11 hB11))
  have HL : Hid (∀ W, Below w11.heap.size w11 W → Calls Tryz.prog 86 #[.pointer (some ⟨L1.s, 0, none⟩)] W fun e w' => e = .returned (.int .i64 1) ∧ w' = W) := fun W hB => by
    have := lastE_any (hE11.below hB)
    rw [hs11] at this
    exact this
  have HB11 := hid hB11
  rw [show errV 0 = Value.nilIface from rfl]
  clear hP hs HCd HX10 hE11 hB11 hn11 hs11
  go_wp2_with fail
  refine HT.out.mono ?_
  rintro e w12 ⟨rfl, hB12⟩
  have HB12 := hid hB12
  clear hB12
  go_wp2_with fail
  refine (HL.out _ HB12.out).mono ?_
  rintro e w13 ⟨rfl, hw13⟩
  rw [hw13]
  go_wp2
  go_ret
  exact ⟨rfl, HB11.out.trans (HB12.out.mono HB11.out.size)⟩

end Go.Proofs.YtjefgmeejhakbaaGreatDoor

/- Plain: each act keeps what a tale tells, put together. -/
namespace Go.Proofs.YtjefgmeejhakbaaGreatDoor

section
variable {E E' : Eng} {t t' : Tal}
theorem tells0 : Tells eng0 tal00 :=
  ⟨mid0_eng0, rfl, rfl, rfl, rfl, rfl, rfl, fun i u h => (by cases h), fun i u h => (by simp [eng0, Eng.ce] at h), fun i u h => (by cases h), rfl, by decide, fun o h => (by cases h), fun o h => (by cases h), fun i u h => (by cases h), fun o h => (by cases h), fun i k u c h => (by cases h), fun i k u v _ h => (by cases h), fun c i u _ h => (by cases h), fun i u l h => (by cases h)⟩
theorem Tells.same (h : Tells E t) : Tells E (stepT t) :=
  ⟨h.mid, h.llev, h.lsnap, h.lown, h.lreads, h.lbegun, h.lover, h.lev, h.own, h.snap, h.ok, ⟨h.num.1, by have := h.num; show t.n ≤ t.steps + 1; omega⟩, fun o ho => by have := h.ovr o ho; show o ≤ t.steps + 1; omega, h.ovp, h.ovn, fun o ho => ⟨(h.bgn o ho).1, by have := (h.bgn o ho).2; show o ≤ t.steps + 1; omega⟩, h.ord, h.mono, h.late, h.rds⟩
theorem Tells.sweep (h : Tells E t) : Tells (sweepE E) (stepT t) :=
  ⟨h.mid.sweep, h.llev, h.lsnap, h.lown, h.lreads, h.lbegun, h.lover, h.lev, h.own, h.snap, h.ok, ⟨h.num.1, by have := h.num; show t.n ≤ t.steps + 1; omega⟩, fun o ho => by have := h.ovr o ho; show o ≤ t.steps + 1; omega, h.ovp, h.ovn, fun o ho => ⟨(h.bgn o ho).1, by have := (h.bgn o ho).2; show o ≤ t.steps + 1; omega⟩, h.ord, h.mono, h.late, h.rds⟩
theorem Tells.went (h : Tells E t) (hM : Mid0 E') (hL : Later E.ce E'.ce) {own' : List (Int → Option Int)} {reads' : List (List (Int × Int))} {n' : Int} (hol : OwnLen (fun i => own'[i]?.getD (fun _ => none)) E.txs.length E' noQ) (ho : own'.length = t.own.length) (hr : reads'.length = t.reads.length)
    (hrd : ∀ (i : Nat) (u : Tx) (l : List (Int × Int)), E.txs[i]? = some u → u.level ≠ 0 → reads'[i]? = some l → ∀ p ∈ l, (0 ≤ p.1 ∧ p.1 < 10) ∧ p.2 = valOr (rdP u.start (full0 E.ce p.1))) (hn : 0 ≤ n' ∧ n' ≤ t.steps + 1) :
    Tells E' (endT E' { t with own := own', reads := reads', n := n', steps := t.steps + 1, broken := false }) :=
  h.go hM hL hol.2 hol.1 ho hr hrd hn (fun c hc _ i u hu => by
    have h1 : u.start ≤ E.last := (h.mid.com.start i _ (cs_get hu)).2
    omega)
theorem Tells.begin (h : Tells E t) {level : Int} (hlv : level = 0 ∨ level = 1 ∨ level = 2) (hl : E.txs.length < 200) (ho : (liveOnes E).length < 6) : Tells { E with txs := E.txs ++ [newTx level E.last] } (beginT E (stepT t) level) := by
  have hM := h.mid.begin hlv hl (by rw [← live_len]; exact ho)
  have hL := later_begin E (newTx level E.last)
  have hC := h.mid.com
  have hst : ∀ (i : Nat) (u : Tx), E.txs[i]? = some u → u.start ≤ E.last := fun i u hu => (hC.start i _ (cs_get hu)).2
  have hnum := h.num
  have part : ∀ (i : Nat) (u : Tx), (E.txs ++ [newTx level E.last])[i]? = some u → E.txs[i]? = some u ∨ (i = E.txs.length ∧ u = newTx level E.last) := fun i u hu => by
    rcases Nat.lt_or_ge i E.txs.length with hi | hi
    · rw [List.getElem?_append_left hi] at hu; exact .inl hu
    · rw [List.getElem?_append_right hi] at hu
      have h0 : i - E.txs.length = 0 := by
        have := (List.getElem?_eq_some_iff.1 hu).1
        simp at this
        omega
      rw [h0] at hu
      simp at hu
      exact .inr ⟨by omega, hu.symm⟩
  have ltn : ∀ {i : Nat} {u : Tx}, E.txs[i]? = some u → i < E.txs.length := fun hu => (List.getElem?_eq_some_iff.1 hu).1
  refine ⟨hM, by show (t.level ++ [level]).length = _; simp [h.llev], by show (t.snap ++ [allE E]).length = _; simp [h.lsnap], by show (t.own ++ [_]).length = _; simp [h.lown], by show (t.reads ++ [[]]).length = _; simp [h.lreads], by show (t.begun ++ [t.steps + 1]).length = _; simp [h.lbegun], by show (t.over ++ [0]).length = _; simp [h.lover], fun i u hu => ?_, ?_, fun i u hu k hk => ?_, h.ok, ⟨hnum.1, by show t.n ≤ t.steps + 1; omega⟩, fun o ho => ?_, fun o ho => ?_, fun k u hu h2 => ?_, fun o ho => ?_, fun i k u c hu hc hcs => ?_, fun i k u v hki hv hu => ?_, fun c i u hc hu => ?_, fun i u l hu hlv2 hl2 p hp => ?_⟩
  · show (t.level ++ [level])[i]? = some u.level
    rcases part i u hu with h1 | ⟨rfl, rfl⟩
    · rw [List.getElem?_append_left (by rw [h.llev]; exact ltn h1)]; exact h.lev i u h1
    · rw [List.getElem?_append_right (by rw [h.llev]; exact Nat.le_refl _), h.llev]; simp [newTx]
  · intro i c hc hlive
    obtain ⟨u, hu, rfl⟩ := cs_of hc
    show (t.own ++ [fun _ => none])[i]?.getD (fun _ => none) = _
    rcases part i u hu with h1 | ⟨rfl, rfl⟩
    · rw [List.getElem?_append_left (by rw [h.lown]; exact ltn h1)]; exact h.own i _ (cs_get h1) hlive
    · rw [List.getElem?_append_right (by rw [h.lown]; exact Nat.le_refl _), h.lown]
      simp [newTx, cor]
  · show ofP ((t.snap ++ [allE E])[i]?.getD []) k = _
    rcases part i u hu with h1 | ⟨rfl, rfl⟩
    · rw [List.getElem?_append_left (by rw [h.lsnap]; exact ltn h1), h.snap i u h1 k hk]
      rw [hL.rd hC k (hst i u h1)]
    · rw [List.getElem?_append_right (by rw [h.lsnap]; exact Nat.le_refl _), h.lsnap]
      simp only [Nat.sub_self, List.getElem?_cons_zero, Option.getD_some]
      rw [of_all E hk, h.mid.rd_full (u := E.last) hk (.inl (Int.le_refl _))]
      show _ = valOr (rdP E.last (full0 _ k))
      rw [hL.rd hC k (show E.last ≤ E.ce.last from Int.le_refl _)]
  · rcases List.mem_append.1 (show o ∈ t.over ++ [0] from ho) with h1 | h1
    · have := h.ovr o h1; show o ≤ t.steps + 1; omega
    · rw [List.mem_singleton.1 h1]; show (0 : Int) ≤ t.steps + 1; omega
  · rcases List.mem_append.1 (show o ∈ t.over ++ [0] from ho) with h1 | h1
    · exact h.ovp o h1
    · rw [List.mem_singleton.1 h1]; exact Int.le_refl _
  · show 0 < (t.over ++ [0])[k]?.getD 0
    rcases part k u hu with h1 | ⟨rfl, rfl⟩
    · rw [List.getElem?_append_left (by rw [h.lover]; exact ltn h1)]; exact h.ovn k u h1 h2
    · simp [newTx] at h2
  · rcases List.mem_append.1 (show o ∈ t.begun ++ [t.steps + 1] from ho) with h1 | h1
    · have := h.bgn o h1; exact ⟨this.1, by show o ≤ t.steps + 1; omega⟩
    · rw [List.mem_singleton.1 h1]; exact ⟨by omega, Int.le_refl _⟩
  · show (t.over ++ [0])[k]?.getD 0 < (t.begun ++ [t.steps + 1])[i]?.getD 0
    obtain ⟨x, hx, hx2⟩ := (hC.coms k).1 (List.mem_filter.1 (hC.wr_com (show E.ce.wr c = _ from hc))).1
    obtain ⟨y, hy, _⟩ := cs_of hx
    have hk : k < t.over.length := by rw [h.lover]; exact ltn hy
    rw [List.getElem?_append_left hk]
    rcases part i u hu with h1 | ⟨rfl, rfl⟩
    · rw [List.getElem?_append_left (by rw [h.lbegun]; exact ltn h1)]; exact h.ord i k u c h1 hc hcs
    · rw [List.getElem?_append_right (by rw [h.lbegun]; exact Nat.le_refl _), h.lbegun, List.getElem?_eq_getElem hk]
      simp only [Nat.sub_self, List.getElem?_cons_zero, Option.getD_some]
      have := h.ovr _ (List.getElem_mem hk)
      omega
  · rcases part k v hv with h1 | ⟨rfl, rfl⟩
    · rcases part i u hu with h2 | ⟨rfl, rfl⟩
      · exact h.mono i k u v hki h1 h2
      · exact hst k v h1
    · rcases part i u hu with h2 | ⟨_, rfl⟩
      · have := ltn h2; omega
      · exact Int.le_refl _
  · rcases part i u hu with h2 | ⟨rfl, rfl⟩
    · exact h.late c i u hc h2
    · exfalso
      obtain ⟨x, hx, hx2⟩ := (hC.coms E.txs.length).1 (List.mem_filter.1 (hC.wr_com (show E.ce.wr c = _ from hc))).1
      obtain ⟨y, hy, _⟩ := cs_of hx
      have := ltn hy
      omega
  · rcases part i u hu with h2 | ⟨rfl, rfl⟩
    · have hl3 : t.reads[i]? = some l := by
        have : (t.reads ++ [[]])[i]? = some l := hl2
        rwa [List.getElem?_append_left (by rw [h.lreads]; exact ltn h2)] at this
      have := h.rds i u l h2 hlv2 hl3 p hp
      rw [hL.rd hC p.1 (hst i u h2)]
      exact this
    · have : (t.reads ++ [[]])[E.txs.length]? = some l := hl2
      rw [List.getElem?_append_right (by rw [h.lreads]; exact Nat.le_refl _), h.lreads] at this
      simp at this
      subst this
      cases hp
theorem readV_ver (E : Eng) (key s : Int) : readV ((verP E key s).1.2, (verP E key s).2) = valOr (rdP s (E.ks[key.toNat]?.getD [])) ∧ ((verP E key s).2 = 0 ∨ (verP E key s).2 = 8) := by
  unfold verP
  cases rdP s (E.ks[key.toNat]?.getD []) with
  | none => exact ⟨rfl, .inr rfl⟩
  | some p => exact ⟨rfl, .inl rfl⟩
theorem own_of (h : Tells E t) {x : Nat} {u : Tx} (hu : E.txs[x]? = some u) (hs : u.state = 0) : ownT t x = u.vals := by
  have := h.own x _ (cs_get hu) (live_iff.2 (.inl hs))
  rw [if_neg (show ¬ (cor u).state = 1 from by show ¬ u.state = 1; omega)] at this
  exact this
theorem Tells.want (h : Tells E t) {x : Nat} {u : Tx} (hu : E.txs[x]? = some u) (hs : u.state = 0) {key : Int} (hk : 0 ≤ key ∧ key < 10) : valOr (rdP (seesP E u) (E.ks[key.toNat]?.getD [])) = wantT E t x key ∧ (u.level ≠ 0 → valOr (rdP (seesP E u) (E.ks[key.toNat]?.getD [])) = valOr (rdP u.start (full0 E.ce key))) := by
  unfold wantT seesP
  rw [h.lev x u hu]
  simp only [Option.getD_some]
  by_cases h0 : u.level = 0
  · rw [if_pos h0, if_pos h0]
    exact ⟨(of_all E hk).symm, fun h => absurd h0 h⟩
  · rw [if_neg h0, if_neg h0, h.snap x u hu key hk]
    rw [h.mid.rd_full (u := u.start) hk (.inr ⟨x, _, cs_get hu, live_iff.2 (.inl hs), h0, Int.le_refl _⟩)]
    exact ⟨rfl, fun _ => rfl⟩
theorem Does.tells {lv : Int} (hd : Does lv E t E' t') (h : Tells E t) (hn : t.n ≤ 1000000) (hrd : ∃ n, ∀ u ∈ E.txs, u.reads.length ≤ n) : Tells E' t' := by
  obtain ⟨n, hrd⟩ := hrd
  have hnum := h.num
  have hown : OwnOk (fun i => t.own[i]?.getD (fun _ => none)) E.ce := h.own
  cases hd with
  | same => exact h.same
  | begin level hl0 hl ho => exact h.begin hl0.1 hl ho
  | sweep => exact h.sweep
  | shut =>
    have := h.went h.mid (Later.refl _) (own' := t.own) (reads' := t.reads) (n' := t.n) ⟨hown, rfl⟩ rfl rfl h.rds (by omega)
    rw [← h.ok] at this
    exact this
  | wshut =>
    have := h.went h.mid (Later.refl _) (own' := t.own) (reads' := t.reads) (n' := t.n + 1) ⟨hown, rfl⟩ rfl rfl h.rds (by omega)
    rw [← h.ok] at this
    exact this
  | commit x u R hu hs hR =>
    have hw := (went_commit h.mid hrd hu hs hR).1
    have := h.went hw.mid hw.later (own' := t.own) (reads' := t.reads) (n' := t.n) (ol_commit h.mid hown hu hs hR) rfl rfl h.rds (by omega)
    rw [← h.ok] at this
    exact this
  | abort x u E' hu hs hR =>
    have hw := (went_abort h.mid hrd hu hs hR).1
    have := h.went hw.mid hw.later (own' := t.own) (reads' := t.reads) (n' := t.n) (ol_abort h.mid hown hu hs hR) rfl rfl h.rds (by omega)
    rw [← h.ok] at this
    exact this
  | read x u key R hu hs hk hR =>
    have hw := went_read h.mid hrd hu hs (by omega) hR
    obtain ⟨hol, hcs⟩ := ol_read h.mid hown hu hs (key := key) (by omega) hR
    have go := h.went hw.mid hw.later (own' := t.own) (reads' := t.reads) (n' := t.n) hol rfl rfl h.rds (by omega)
    have hov := own_of h hu hs
    unfold readT
    rw [show ownT (stepT t) x = u.vals from hov]
    rcases hcs with ⟨v, hv, rfl⟩ | ⟨hv, hcs⟩
    · rw [if_neg (by simp), hv]
      have e : ({ (stepT t) with broken := (stepT t).broken || readV ((v, 0) : Int × Int) != v } : Tal) = { t with own := t.own, reads := t.reads, n := t.n, steps := t.steps + 1, broken := false } := by
        simp [stepT, readV, h.ok]
      rw [show (((v, 0), E) : (Int × Int) × Eng).1 = (v, 0) from rfl] 
      simp only
      rw [e]
      exact go
    · rw [hv]
      rcases hcs with ⟨e1, e2⟩ | e1
      · obtain ⟨h1, h2⟩ := readV_ver E key (seesP E u)
        rw [← e1] at h1
        have h3 : R.1.2 = 0 ∨ R.1.2 = 8 := by rw [e1]; exact h2
        rw [if_neg (by omega)]
        obtain ⟨h4, h5⟩ := h.want hu hs (key := key) (by omega)
        have h6 : wantT E (stepT t) x key = wantT E t x key := rfl
        have hb : ((stepT t).broken || readV R.1 != wantT E (stepT t) x key) = false := by
          rw [h6, h1, h4, show (stepT t).broken = false from h.ok]
          simp
        simp only
        rw [hb]
        exact h.went hw.mid hw.later (own' := t.own) (reads' := t.reads.set x ((t.reads[x]?.getD []) ++ [(key, readV R.1)])) (n' := t.n) hol rfl (by simp) (fun i v l hi hlv hl p hp => by
          by_cases e : i = x
          · subst e
            rw [hu] at hi
            cases hi
            have hil : i < t.reads.length := by rw [h.lreads]; exact (List.getElem?_eq_some_iff.1 hu).1
            rw [List.getElem?_set_self hil] at hl
            injection hl with hl
            subst hl
            rcases List.mem_append.1 hp with hp | hp
            · cases hr : t.reads[i]? with
              | none => rw [hr] at hp; cases hp
              | some l => rw [hr] at hp; exact h.rds i _ l hu hlv hr p hp
            · rw [List.mem_singleton.1 hp]
              exact ⟨by show 0 ≤ key ∧ key < 10; omega, by show readV R.1 = _; rw [h1, h5 hlv]⟩
          · rw [List.getElem?_set_ne (fun h => e h.symm)] at hl
            exact h.rds i v l hi hlv hl p hp) (by omega)
      · rw [if_pos (by rw [e1]; decide)]
        rw [← h.ok] at go
        exact go
  | write x u key q R hu hs hk hq hR =>
    have hw := went_write h.mid hrd hu hs (key := key) (val := t.n + 1) (by omega) (by omega) hq hR
    have hov := own_of h hu hs
    unfold writeT
    rcases ol_write h.mid hown hu hs (key := key) (val := t.n + 1) (by omega) (by omega) hq hR with ⟨h1, h2⟩ | ⟨h1, h2, h3⟩
    · rw [if_pos h1]
      have := h.went hw.mid hw.later (own' := t.own) (reads' := t.reads) (n' := t.n + 1) h2 rfl rfl h.rds (by omega)
      rw [← h.ok] at this
      exact this
    · rw [if_neg (by rw [h1]; simp)]
      have hb : ((nextT (stepT t)).broken || R.1.1 != openB R.2 x) = false := by
        rw [show (nextT (stepT t)).broken = false from h.ok, h2]
        simp
      rw [hb]
      have hxl : x < t.own.length := by rw [h.lown]; exact (List.getElem?_eq_some_iff.1 hu).1
      have e : (fun i => (t.own.set x (updT (ownT t x) key (some (t.n + 1))))[i]?.getD (fun _ => none)) = (fun j => if j = x then updT (t.own[x]?.getD (fun _ => none)) key (some (t.n + 1)) else t.own[j]?.getD (fun _ => none)) := by
        funext j
        by_cases e : j = x
        · subst e
          rw [List.getElem?_set_self hxl, if_pos rfl]
          rfl
        · rw [List.getElem?_set_ne (fun h => e h.symm), if_neg e]
      exact h.went hw.mid hw.later (own' := t.own.set x (updT (ownT t x) key (some (t.n + 1)))) (reads' := t.reads) (n' := t.n + 1) (by rw [e]; exact h3) (by simp) rfl h.rds (by omega)
end

end Go.Proofs.YtjefgmeejhakbaaGreatDoor

/- Plain: of two committed ones at the same time, none of them loose, no two wrote the same key. -/
namespace Go.Proofs.YtjefgmeejhakbaaGreatDoor

theorem Com.wr_of {a0 : Int} {K0 : Int → Option Int} {C : CE} (h : Com a0 K0 C) {j : Nat} (hj : j ∈ C.cw) : ∃ c, C.wr c = some ((j : Int) + 1) := by
  obtain ⟨m, hm, e⟩ := List.getElem_of_mem hj
  refine ⟨a0 + 1 + m, ?_⟩
  rw [h.wrc, if_pos (by omega), show (a0 + 1 + (m : Int) - a0 - 1).toNat = m by omega, List.getElem?_eq_getElem hm, e]
  rfl
theorem Com.wr_inj {a0 : Int} {K0 : Int → Option Int} {C : CE} (h : Com a0 K0 C) {j : Nat} {c d : Int} (hc : C.wr c = some ((j : Int) + 1)) (hd : C.wr d = some ((j : Int) + 1)) : c = d := by
  have hn : C.cw.Nodup := List.Pairwise.filter _ h.comn
  rw [h.wrc] at hc hd
  split at hc
  · split at hd
    · obtain ⟨m, hm, e⟩ := Option.map_eq_some_iff.1 hc
      obtain ⟨m', hm', e'⟩ := Option.map_eq_some_iff.1 hd
      have hmm : m' = m := by omega
      subst hmm
      have hl := (List.getElem?_eq_some_iff.1 hm).1
      have := (List.getElem?_inj hl hn).1 (hm.trans hm'.symm)
      omega
    · cases hd
  · cases hc
theorem Tells.apart {E : Eng} {t : Tal} (h : Tells E t) {i k : Nat} {u v : Tx} (hki : k < i) (hu : E.txs[i]? = some u) (hv : E.txs[k]? = some v) (hlu : u.level ≠ 0) (hlv : v.level ≠ 0) (hsu : u.state = 2) (hsv : v.state = 2) (hb : ¬ t.over[k]?.getD 0 < t.begun[i]?.getD 0) {a : Int} (ha : u.vals a ≠ none) : v.vals a = none := by
  refine Classical.byContradiction fun hva => ?_
  have hC := h.mid.com
  have cwOf : ∀ {j : Nat} {x : Tx}, E.txs[j]? = some x → x.state = 2 → x.vals a ≠ none → j ∈ E.ce.cw := fun {j x} hx hs hxa => by
    refine List.mem_filter.2 ⟨(hC.coms j).2 ⟨_, cs_get hx, hs⟩, ?_⟩
    have hvk := (h.mid.reg.fair _ _ (cs_get hx)).vk
    rw [CE.v_some (cs_get hx)]
    have hm : a ∈ keysOf x.vals := (mem_keysOf (f := x.vals) hvk a).2 (by cases hx2 : x.vals a with | none => exact absurd hx2 hxa | some y => rfl)
    refine decide_eq_true ?_
    intro e
    have : (keysOf x.vals).map (fun k => (k, (x.vals k).getD 0)) = [] := e
    rw [List.map_eq_nil_iff] at this
    rw [this] at hm
    cases hm
  obtain ⟨c, hc⟩ := hC.wr_of (cwOf hv hsv hva)
  have h1 : u.start < c := Classical.byContradiction fun hn => hb (h.ord i k u c hu hc (by omega))
  obtain ⟨c', hc', hlt⟩ := hC.fuw i k _ a c (cs_get hu) hlu (show u.state ≠ 3 by omega) ha hc (by omega) (by rw [CE.v_some (cs_get hv)]; exact hva) h1
  have h2 := h.late c' i u hc' hu
  have h3 := h.mono i k u v (by omega) hv hu
  obtain ⟨c'', hc'', hlt2⟩ := hC.fuw k i _ a c' (cs_get hv) hlv (show v.state ≠ 3 by omega) hva hc' (by omega) (by rw [CE.v_some (cs_get hu)]; exact ha) (show v.start < c' by omega)
  have := hC.wr_inj hc hc''
  omega

end Go.Proofs.YtjefgmeejhakbaaGreatDoor

/- Plain: in an engine of strict ones all that must be ahead of others is noted, and no committed one is between others: what one step makes of that. -/
namespace Go.Proofs.YtjefgmeejhakbaaGreatDoor

def fromP (C : CE) (key s : Int) : Int := match rdP s (full0 C key) with
  | some p => (C.wr p.1).getD 0
  | none => 0
theorem rdP_le {s : Int} {l : List (Int × Int)} {p : Int × Int} (h : rdP s l = some p) : p ∈ l ∧ p.1 ≤ s := by
  rw [rdP_last] at h
  have := List.mem_filter.1 (List.mem_of_getLast? h)
  exact ⟨this.1, by simpa using this.2⟩
theorem from_later {C C' : CE} (h : Later C C') (hC : Com 0 (fun _ => none) C) (hC' : Com 0 (fun _ => none) C') {key s : Int} (hs : s ≤ C.last) : fromP C' key s = fromP C key s := by
  unfold fromP
  rw [show rdP s (full0 C' key) = rdP s (full0 C key) from h.rd hC key hs]
  cases hr : rdP s (full0 C key) with
  | none => rfl
  | some p =>
    simp only
    rw [h.wr hC hC' (Int.le_trans (rdP_le hr).2 hs)]

def Marked (E : Eng) (k m : Nat) : Prop := ∀ t u, E.txs[k]? = some t → E.txs[m]? = some u → t.behind ((m : Int) + 1) = true ∧ u.ahead ((k : Int) + 1) = true
def Needs (E : Eng) (m : Nat) (t u : Tx) (a : Int) : Prop := t.state ≠ 3 ∧ u.state ≠ 3 ∧ t.seen[a.toNat]?.getD false = true ∧ 0 ≤ a ∧ u.vals a ≠ none ∧ (∀ c, E.wr c = some ((m : Int) + 1) → t.start < c) ∧ wasOverB t ((m : Int) + 1) = false
def BT (E : Eng) : Prop := ∀ (k : Nat) (t : Tx), E.txs[k]? = some t → t.state = 2 → ¬ Between t.ahead t.behind
def cntR (E : Eng) : Nat := (E.txs.map (fun t => t.reads.length)).sum
theorem sum_set : ∀ (l : List Nat) (i x y : Nat), l[i]? = some x → (l.set i y).sum + x = l.sum + y
  | [], _, _, _, h => by cases h
  | a :: r, 0, x, y, h => by
    simp only [List.getElem?_cons_zero, Option.some.injEq] at h
    subst h
    simp
    omega
  | a :: r, i + 1, x, y, h => by
    have := sum_set r i x y (by simpa using h)
    simp
    omega
structure StrB (x : Nat → Prop) (R : Nat → List Int) (N : Nat) (E : Eng) : Prop where
  cnt : cntR E + E.txs.length ≤ N
  lev : ∀ (k : Nat) (t : Tx), E.txs[k]? = some t → t.level = 2
  sl : ∀ (k : Nat) (t : Tx), E.txs[k]? = some t → t.seen.length = 10
  full : ∀ (k m : Nat) (t u : Tx) (a : Int), ¬ x k → ¬ x m → k ≠ m → E.txs[k]? = some t → E.txs[m]? = some u → Needs E m t u a → Marked E k m
  btw : ∀ (k : Nat) (t : Tx), ¬ x k → E.txs[k]? = some t → t.state = 2 → ¬ ((∃ a, t.ahead a = true ∧ ∀ m : Nat, x m → a ≠ (m : Int) + 1) ∧ ∃ b, t.behind b = true ∧ ∀ m : Nat, x m → b ≠ (m : Int) + 1)
  bae : ∀ (k : Nat) (t : Tx), E.txs[k]? = some t → liveB t.state = false → (k : Int) < t.bae
  ovr : ∀ (k m : Nat) (t u : Tx) (c : Int), E.txs[k]? = some t → E.txs[m]? = some u → wasOverB t ((m : Int) + 1) = true → E.wr c = some ((k : Int) + 1) → c ≤ u.start
  rds : ∀ (k : Nat) (t : Tx), E.txs[k]? = some t → ∀ p ∈ t.reads, (0 ≤ p.1 ∧ p.1 < 10) ∧ p.2 = fromP E.ce p.1 t.start ∧ t.seen[p.1.toNat]?.getD false = true
  tal : ∀ (k : Nat) (t : Tx), E.txs[k]? = some t → t.state ≠ 3 → ∀ a ∈ R k, ∃ f, (a, f) ∈ t.reads
theorem StrB.bt {R : Nat → List Int} {N : Nat} {E : Eng} (h : StrB noQ R N E) : BT E := fun k t ht hs hb => by
  obtain ⟨⟨a, ha⟩, b, hb⟩ := hb
  exact h.btw k t (fun h => h) ht hs ⟨⟨a, ha, fun m hm => hm.elim⟩, b, hb, fun m hm => hm.elim⟩
theorem StrB.weak {R : Nat → List Int} {N : Nat} {E : Eng} (h : StrB noQ R N E) (i : Nat) : StrB (· = i) R N E :=
  ⟨h.cnt, h.lev, h.sl, fun k m t u a _ _ => h.full k m t u a (fun h => h) (fun h => h), fun k t _ ht hs hb => by
    obtain ⟨⟨a, ha, _⟩, b, hb, _⟩ := hb
    exact h.bt k t ht hs ⟨⟨a, ha⟩, b, hb⟩, h.bae, h.ovr, h.rds, h.tal⟩

structure Turn (i : Nat) (E E' : Eng) : Prop where
  len : E'.txs.length = E.txs.length
  oth : ∀ (k : Nat) (t' : Tx), k ≠ i → E'.txs[k]? = some t' → ∃ (t : Tx) (A B : Int → Bool), E.txs[k]? = some t ∧ t' = { t with ahead := A, behind := B } ∧ (∀ a, a ≠ (i : Int) + 1 → A a = t.ahead a) ∧ ∀ a, a ≠ (i : Int) + 1 → B a = t.behind a
  wr : ∀ (c : Int) (k : Nat), k ≠ i → (E'.wr c = some ((k : Int) + 1) ↔ E.wr c = some ((k : Int) + 1))
theorem Turn.trans {i : Nat} {A B C : Eng} (h : Turn i A B) (g : Turn i B C) : Turn i A C :=
  ⟨g.len.trans h.len, fun k t' hk ht' => by
    obtain ⟨t1, A1, B1, h1, rfl, hA1, hB1⟩ := g.oth k t' hk ht'
    obtain ⟨t0, A0, B0, h0, rfl, hA0, hB0⟩ := h.oth k t1 hk h1
    exact ⟨t0, A1, B1, h0, rfl, fun a ha => (hA1 a ha).trans (hA0 a ha), fun a ha => (hB1 a ha).trans (hB0 a ha)⟩, fun c k hk => (g.wr c k hk).trans (h.wr c k hk)⟩
theorem Turn.set {i : Nat} {E E' : Eng} {t' : Tx} (h : E'.txs = E.txs.set i t') (hw : E'.wr = E.wr) : Turn i E E' :=
  ⟨by rw [h]; simp, fun k u hk hu => by
    rw [h, List.getElem?_set_ne (fun e => hk e.symm)] at hu
    exact ⟨u, u.ahead, u.behind, hu, rfl, fun _ _ => rfl, fun _ _ => rfl⟩, fun c k _ => by rw [hw]⟩
def Mono (E E' : Eng) : Prop := ∀ (k : Nat) (t' : Tx), E'.txs[k]? = some t' → ∃ t, E.txs[k]? = some t ∧ (∀ a, t.ahead a = true → t'.ahead a = true) ∧ ∀ a, t.behind a = true → t'.behind a = true
theorem Mono.trans {A B C : Eng} (h : Mono A B) (g : Mono B C) : Mono A C := fun k t' ht' => by
  obtain ⟨t1, h1, a1, b1⟩ := g k t' ht'
  obtain ⟨t0, h0, a0, b0⟩ := h k t1 h1
  exact ⟨t0, h0, fun a ha => a1 a (a0 a ha), fun a ha => b1 a (b0 a ha)⟩
theorem Mono.set {i : Nat} {E E' : Eng} {t t' : Tx} (ht : E.txs[i]? = some t) (h : E'.txs = E.txs.set i t') (ha : t'.ahead = t.ahead) (hb : t'.behind = t.behind) : Mono E E' := fun k u hu => by
  rw [h] at hu
  by_cases e : k = i
  · subst e
    rw [List.getElem?_set_self (List.getElem?_eq_some_iff.1 ht).1] at hu
    cases hu
    exact ⟨t, ht, fun a h => by rw [ha]; exact h, fun a h => by rw [hb]; exact h⟩
  · rw [List.getElem?_set_ne (fun h => e h.symm)] at hu
    exact ⟨u, hu, fun _ h => h, fun _ h => h⟩
theorem Marked.mono {E E' : Eng} {k m : Nat} (h : Marked E k m) (hm : Mono E E') : Marked E' k m := fun t' u' ht' hu' => by
  obtain ⟨t, ht, _, hb⟩ := hm k t' ht'
  obtain ⟨u, hu, ha, _⟩ := hm m u' hu'
  exact ⟨hb _ (h t u ht hu).1, ha _ (h t u ht hu).2⟩

section
variable {i N d : Nat} {R R' : Nat → List Int} {E E' : Eng} {t t' : Tx}
structure Own1 (R' : Nat → List Int) (d : Nat) (i : Nat) (E E' : Eng) (t t' : Tx) : Prop where
  rl : t'.reads.length ≤ t.reads.length + d
  lv : t'.level = t.level
  st : t'.start = t.start
  sl : t'.seen.length = 10
  wo : ∀ m : Nat, m < E.txs.length → wasOverB t' ((m : Int) + 1) = false
  ba : liveB t'.state = false → (i : Int) < t'.bae
  rd : ∀ p ∈ t'.reads, (0 ≤ p.1 ∧ p.1 < 10) ∧ p.2 = fromP E'.ce p.1 t'.start ∧ t'.seen[p.1.toNat]?.getD false = true
  tl : t'.state ≠ 3 → ∀ a ∈ R' i, ∃ f, (a, f) ∈ t'.reads
theorem StrB.turn (h : StrB (· = i) R N E) (hT : Turn i E E') (hL : Later E.ce E'.ce) (hC : Com 0 (fun _ => none) E.ce) (hC' : Com 0 (fun _ => none) E'.ce) (ht : E.txs[i]? = some t) (ht' : E'.txs[i]? = some t') (ho : Own1 R' d i E E' t t') (hR : ∀ k, k ≠ i → R' k = R k) : StrB (· = i) R' (N + d) E' := by
  have hst : ∀ (k : Nat) (u : Tx), E.txs[k]? = some u → u.start ≤ E.ce.last := fun k u hu => (hC.start k _ (cs_get hu)).2
  have hsum : cntR E' + t.reads.length = cntR E + t'.reads.length := by
    have e : E'.txs.map (fun t => t.reads.length) = (E.txs.map (fun t => t.reads.length)).set i t'.reads.length := by
      refine List.ext_getElem? (fun k => ?_)
      by_cases e : k = i
      · subst e
        rw [List.getElem?_set_self (by simpa using (List.getElem?_eq_some_iff.1 ht).1), List.getElem?_map, ht']
        rfl
      · rw [List.getElem?_set_ne (fun h => e h.symm), List.getElem?_map, List.getElem?_map]
        cases hu : E'.txs[k]? with
        | none =>
          have : E.txs[k]? = none := by
            rw [List.getElem?_eq_none_iff] at hu ⊢
            rw [← hT.len]
            exact hu
          rw [this]
        | some u =>
          obtain ⟨x, A, B, hx, rfl, _, _⟩ := hT.oth k u e hu
          rw [hx]
          rfl
    unfold cntR
    rw [e]
    exact sum_set _ _ _ _ (by rw [List.getElem?_map, ht]; rfl)
  refine ⟨?_, fun k u hu => ?_, fun k u hu => ?_, fun k m u v a hk hm hne hu hv hN => ?_, fun k u hk hu hs2 => ?_, fun k u hu hlv => ?_, fun k m u v c hu hv hwo hc => ?_, fun k u hu p hp => ?_, fun k u hu hs3 a ha => ?_⟩
  · have h1 := h.cnt
    have h2 := ho.rl
    have h3 := hT.len
    omega
  · by_cases e : k = i
    · subst e; rw [ht'] at hu; cases hu; rw [ho.lv]; exact h.lev _ _ ht
    · obtain ⟨x, A, B, hx, rfl, _, _⟩ := hT.oth k u e hu; exact h.lev k x hx
  · by_cases e : k = i
    · subst e; rw [ht'] at hu; cases hu; exact ho.sl
    · obtain ⟨x, A, B, hx, rfl, _, _⟩ := hT.oth k u e hu; exact h.sl k x hx
  · obtain ⟨x, A, B, hx, rfl, hA, hB⟩ := hT.oth k u hk hu
    obtain ⟨y, A2, B2, hy, rfl, hA2, hB2⟩ := hT.oth m v hm hv
    obtain ⟨n1, n2, n3, n4, n5, n6, n7⟩ := hN
    have := h.full k m x y a hk hm hne hx hy ⟨n1, n2, n3, n4, n5, fun c hc' => n6 c ((hT.wr c m hm).2 hc'), n7⟩ x y hx hy
    intro x' y' hx' hy'
    rw [hu] at hx'
    rw [hv] at hy'
    cases hx'
    cases hy'
    have hk' : k ≠ i := hk
    have hm' : m ≠ i := hm
    exact ⟨(hB _ (by omega)).trans this.1, (hA2 _ (by omega)).trans this.2⟩
  · obtain ⟨x, A, B, hx, rfl, hA, hB⟩ := hT.oth k u hk hu
    rintro ⟨⟨a, ha, ha2⟩, b, hb, hb2⟩
    exact h.btw k x hk hx hs2 ⟨⟨a, (hA a (ha2 i rfl)).symm.trans ha, ha2⟩, b, (hB b (hb2 i rfl)).symm.trans hb, hb2⟩
  · by_cases e : k = i
    · subst e; rw [ht'] at hu; cases hu; exact ho.ba hlv
    · obtain ⟨x, A, B, hx, rfl, _, _⟩ := hT.oth k u e hu; exact h.bae k x hx hlv
  · by_cases e : k = i
    · subst e
      rw [ht'] at hu
      cases hu
      rw [ho.wo m (by rw [← hT.len]; exact (List.getElem?_eq_some_iff.1 hv).1)] at hwo
      cases hwo
    · obtain ⟨x, A, B, hx, rfl, _, _⟩ := hT.oth k u e hu
      have hc' := (hT.wr c k e).1 hc
      by_cases e2 : m = i
      · subst e2
        rw [ht'] at hv
        cases hv
        rw [ho.st]
        exact h.ovr k m x t c hx ht hwo hc'
      · obtain ⟨y, A2, B2, hy, rfl, _, _⟩ := hT.oth m v e2 hv
        exact h.ovr k m x y c hx hy hwo hc'
  · by_cases e : k = i
    · subst e; rw [ht'] at hu; cases hu; exact ho.rd p hp
    · obtain ⟨x, A, B, hx, rfl, _, _⟩ := hT.oth k u e hu
      obtain ⟨h1, h2, h3⟩ := h.rds k x hx p hp
      exact ⟨h1, by rw [from_later hL hC hC' (hst k x hx)]; exact h2, h3⟩
  · by_cases e : k = i
    · subst e; rw [ht'] at hu; cases hu; exact ho.tl hs3 a ha
    · obtain ⟨x, A, B, hx, rfl, _, _⟩ := hT.oth k u e hu
      rw [hR k e] at ha
      exact h.tal k x hx hs3 a ha
theorem StrB.whole (h : StrB (· = i) R N E) (h1 : ∀ (m : Nat) (t u : Tx) (a : Int), m ≠ i → E.txs[i]? = some t → E.txs[m]? = some u → Needs E m t u a → Marked E i m) (h2 : ∀ (k : Nat) (t u : Tx) (a : Int), k ≠ i → E.txs[k]? = some t → E.txs[i]? = some u → Needs E i t u a → Marked E k i) (hb : BT E) : StrB noQ R N E :=
  ⟨h.cnt, h.lev, h.sl, fun k m t u a _ _ hne ht hu hN => by
    by_cases e : k = i
    · subst e; exact h1 m t u a (fun e => hne e.symm) ht hu hN
    · by_cases e2 : m = i
      · subst e2; exact h2 k t u a e ht hu hN
      · exact h.full k m t u a e e2 hne ht hu hN, fun k t _ ht hs hx => by
    obtain ⟨⟨a, ha, _⟩, b, hb', _⟩ := hx
    exact hb k t ht hs ⟨⟨a, ha⟩, b, hb'⟩, h.bae, h.ovr, h.rds, h.tal⟩
theorem StrB.step (h : StrB noQ R N E) (hT : Turn i E E') (hm : Mono E E') (hL : Later E.ce E'.ce) (hC : Com 0 (fun _ => none) E.ce) (hC' : Com 0 (fun _ => none) E'.ce) (ht : E.txs[i]? = some t) (hl : liveB t.state = true) (hw : ∀ c, E.wr c ≠ some ((i : Int) + 1)) (ht' : E'.txs[i]? = some t') (ho : Own1 R' d i E E' t t') (hR : ∀ k, k ≠ i → R' k = R k) (hB : BT E')
    (hn1 : ∀ (m : Nat) (u : Tx) (a : Int), m ≠ i → E'.txs[m]? = some u → Needs E' m t' u a → t.seen[a.toNat]?.getD false = false → Marked E' i m) (hn2 : ∀ (k : Nat) (u : Tx) (a : Int), k ≠ i → E'.txs[k]? = some u → Needs E' i u t' a → t.vals a = none → Marked E' k i) : StrB noQ R' (N + d) E' := by
  have h3 : t.state ≠ 3 := by rcases live_iff.1 hl with e | e <;> omega
  refine ((h.weak i).turn hT hL hC hC' ht ht' ho hR).whole (fun m x u a hmi hx hu hN => ?_) (fun k u x a hki hu hx hN => ?_) hB
  · rw [ht'] at hx
    cases hx
    cases hs : t.seen[a.toNat]?.getD false with
    | false => exact hn1 m u a hmi hu hN hs
    | true =>
      obtain ⟨y, A, B, hy, rfl, _, _⟩ := hT.oth m u hmi hu
      obtain ⟨n1, n2, n3, n4, n5, n6, n7⟩ := hN
      refine (h.full i m t y a (fun h => h) (fun h => h) (fun e => hmi e.symm) ht hy ⟨h3, n2, hs, n4, n5, fun c hc => ?_, ?_⟩).mono hm
      · rw [← ho.st]; exact n6 c ((hT.wr c m hmi).2 hc)
      · unfold wasOverB; rw [hl]; rfl
  · rw [ht'] at hx
    cases hx
    by_cases hv : t.vals a = none
    · exact hn2 k u a hki hu hN hv
    · obtain ⟨y, A, B, hy, rfl, _, _⟩ := hT.oth k u hki hu
      obtain ⟨n1, n2, n3, n4, n5, n6, n7⟩ := hN
      exact (h.full k i y t a (fun h => h) (fun h => h) hki hy ht ⟨n1, h3, n3, n4, hv, fun c hc => (hw c hc).elim, n7⟩).mono hm
end

structure Grow (i : Nat) (E E' : Eng) : Prop where
  ce : E'.ce = E.ce
  len : E'.txs.length = E.txs.length
  all : ∀ (k : Nat) (t : Tx), E.txs[k]? = some t → ∃ A B : Int → Bool, E'.txs[k]? = some { t with ahead := A, behind := B } ∧ (∀ a, t.ahead a = true → A a = true) ∧ (∀ a, t.behind a = true → B a = true) ∧ (k ≠ i → (∀ a, a ≠ (i : Int) + 1 → A a = t.ahead a) ∧ ∀ a, a ≠ (i : Int) + 1 → B a = t.behind a)
theorem Grow.refl (i : Nat) (E : Eng) : Grow i E E := ⟨rfl, rfl, fun _ t ht => ⟨t.ahead, t.behind, ht, fun _ h => h, fun _ h => h, fun _ => ⟨fun _ _ => rfl, fun _ _ => rfl⟩⟩⟩
theorem Grow.trans {i : Nat} {A B C : Eng} (h : Grow i A B) (g : Grow i B C) : Grow i A C :=
  ⟨g.ce.trans h.ce, g.len.trans h.len, fun k t ht => by
    obtain ⟨A1, B1, h1, a1, b1, o1⟩ := h.all k t ht
    obtain ⟨A2, B2, h2, a2, b2, o2⟩ := g.all k _ h1
    exact ⟨A2, B2, h2, fun a ha => a2 a (a1 a ha), fun a ha => b2 a (b1 a ha), fun hk => ⟨fun a ha => ((o2 hk).1 a ha).trans ((o1 hk).1 a ha), fun a ha => ((o2 hk).2 a ha).trans ((o1 hk).2 a ha)⟩⟩⟩
theorem Grow.inv {i : Nat} {E E' : Eng} (h : Grow i E E') {k : Nat} {t' : Tx} (ht' : E'.txs[k]? = some t') : ∃ (t : Tx) (A B : Int → Bool), E.txs[k]? = some t ∧ t' = { t with ahead := A, behind := B } ∧ (∀ a, t.ahead a = true → A a = true) ∧ (∀ a, t.behind a = true → B a = true) ∧ (k ≠ i → (∀ a, a ≠ (i : Int) + 1 → A a = t.ahead a) ∧ ∀ a, a ≠ (i : Int) + 1 → B a = t.behind a) := by
  have hk : k < E.txs.length := by rw [← h.len]; exact (List.getElem?_eq_some_iff.1 ht').1
  obtain ⟨A, B, h1, h2⟩ := h.all k _ (List.getElem?_eq_getElem hk)
  rw [ht'] at h1
  cases h1
  exact ⟨_, A, B, List.getElem?_eq_getElem hk, rfl, h2⟩
theorem Grow.wr {i : Nat} {E E' : Eng} (h : Grow i E E') : E'.wr = E.wr := congrArg CE.wr h.ce
theorem Grow.turn {i : Nat} {E E' : Eng} (h : Grow i E E') : Turn i E E' :=
  ⟨h.len, fun k t' hk ht' => by
    obtain ⟨t, A, B, h1, h2, _, _, h3⟩ := h.inv ht'
    exact ⟨t, A, B, h1, h2, (h3 hk).1, (h3 hk).2⟩, fun c k _ => by rw [h.wr]⟩
theorem Grow.mono {i : Nat} {E E' : Eng} (h : Grow i E E') : Mono E E' := fun k t' ht' => by
  obtain ⟨t, A, B, h1, rfl, h2, h3, _⟩ := h.inv ht'
  exact ⟨t, h1, h2, h3⟩
theorem put_str {E E' : Eng} {i j : Nat} {b : Bool} (h : putAheadP E i j = (b, E')) (hij : i ≠ j) : Grow i E E' ∧ Grow j E E' ∧ Marked E' i j ∧ (b = true → BT E → BT E') ∧ ((∀ t, E.txs[i]? = some t → t.state ≠ 2) → (∀ t, E.txs[j]? = some t → t.state ≠ 2) → BT E → BT E') := by
  have hce : E'.ce = E.ce := by have := ce_putAhead E i j; rw [h] at this; exact this
  unfold putAheadP at h
  cases hi : E.txs[i]? with
  | none =>
    rw [hi] at h
    cases h
    exact ⟨Grow.refl _ _, Grow.refl _ _, fun t u ht _ => (by rw [hi] at ht; cases ht), fun _ h => h, fun _ _ h => h⟩
  | some t =>
    cases hj : E.txs[j]? with
    | none =>
      rw [hi, hj] at h
      cases h
      exact ⟨Grow.refl _ _, Grow.refl _ _, fun t u _ hu => (by rw [hj] at hu; cases hu), fun _ h => h, fun _ _ h => h⟩
    | some u =>
      rw [hi, hj] at h
      simp only [Prod.mk.injEq] at h
      obtain ⟨hb, hE⟩ := h
      have gi : E'.txs[i]? = some { t with behind := fun a => t.behind a || a == (j : Int) + 1 } := by
        rw [← hE, setTx_get_ne (fun e => hij e.symm)]; exact setTx_get hi
      have gj : E'.txs[j]? = some { u with ahead := fun a => u.ahead a || a == (i : Int) + 1 } := by
        rw [← hE]; exact setTx_get (u := u) (by rw [setTx_get_ne hij]; exact hj)
      have go : ∀ k, k ≠ i → k ≠ j → E'.txs[k]? = E.txs[k]? := fun k h1 h2 => by
        rw [← hE, setTx_get_ne (fun e => h2 e.symm), setTx_get_ne (fun e => h1 e.symm)]
      have hlen : E'.txs.length = E.txs.length := by rw [← hE, setTx_len, setTx_len]
      refine ⟨⟨hce, hlen, fun k v hv => ?_⟩, ⟨hce, hlen, fun k v hv => ?_⟩, fun t' u' ht' hu' => ?_, fun hbt hB k v hv hs => ?_, fun h1 h2 hB k v hv hs => ?_⟩
      · by_cases e : k = i
        · subst e
          rw [hi] at hv
          cases hv
          exact ⟨_, _, gi, fun a ha => ha, fun a ha => by simp [ha], fun h => absurd rfl h⟩
        · by_cases e2 : k = j
          · subst e2
            rw [hj] at hv
            cases hv
            exact ⟨_, _, gj, fun a ha => by simp [ha], fun a ha => ha, fun _ => ⟨fun a ha => by simp [ha], fun _ _ => rfl⟩⟩
          · exact ⟨_, _, (go k e e2).trans hv, fun a ha => ha, fun a ha => ha, fun _ => ⟨fun _ _ => rfl, fun _ _ => rfl⟩⟩
      · by_cases e : k = i
        · subst e
          rw [hi] at hv
          cases hv
          exact ⟨_, _, gi, fun a ha => ha, fun a ha => by simp [ha], fun _ => ⟨fun _ _ => rfl, fun a ha => by simp [ha]⟩⟩
        · by_cases e2 : k = j
          · subst e2
            rw [hj] at hv
            cases hv
            exact ⟨_, _, gj, fun a ha => by simp [ha], fun a ha => ha, fun h => absurd rfl h⟩
          · exact ⟨_, _, (go k e e2).trans hv, fun a ha => ha, fun a ha => ha, fun _ => ⟨fun _ _ => rfl, fun _ _ => rfl⟩⟩
      · rw [gi] at ht'
        rw [gj] at hu'
        cases ht'
        cases hu'
        simp
      · rw [← hb] at hbt
        simp only [Bool.and_eq_true, Bool.not_eq_true'] at hbt
        by_cases e : k = i
        · subst e
          rw [gi] at hv
          cases hv
          intro hbe
          have := hbt.1
          unfold stuckB at this
          rw [betB_true.2 hbe] at this
          simp at this
          exact this hs
        · by_cases e2 : k = j
          · subst e2
            rw [gj] at hv
            cases hv
            intro hbe
            have := hbt.2
            unfold stuckB at this
            rw [betB_true.2 hbe] at this
            simp at this
            exact this hs
          · rw [go k e e2] at hv
            exact hB k v hv hs
      · by_cases e : k = i
        · subst e
          rw [gi] at hv
          cases hv
          exact (h1 t rfl hs).elim
        · by_cases e2 : k = j
          · subst e2
            rw [gj] at hv
            cases hv
            exact (h2 u rfl hs).elim
          · rw [go k e e2] at hv
            exact hB k v hv hs
theorem all_str (i : Nat) : ∀ (l : List Nat) (E E' : Eng) (b : Bool), aheadAll (fun j => (j, i)) l E = (b, E') → (∀ j ∈ l, j ≠ i) → Grow i E E' ∧ (b = true → (BT E → BT E') ∧ ∀ j ∈ l, Marked E' j i)
  | [], E, E', b, h, _ => by
    unfold aheadAll at h
    cases h
    exact ⟨Grow.refl i E, fun _ => ⟨fun h => h, fun j hj => by cases hj⟩⟩
  | j :: r, E, E', b, h, hl => by
    unfold aheadAll at h
    simp only at h
    rcases hp : putAheadP E j i with ⟨b1, E1⟩
    rw [hp] at h
    obtain ⟨_, g, hm, hb1, _⟩ := put_str hp (hl j (List.mem_cons_self ..))
    cases b1 with
    | false =>
      cases h
      exact ⟨g, fun h => by cases h⟩
    | true =>
      obtain ⟨g2, k2⟩ := all_str i r E1 E' b h (fun x hx => hl x (List.mem_cons_of_mem _ hx))
      refine ⟨g.trans g2, fun hb => ⟨fun hB => (k2 hb).1 (hb1 rfl hB), fun x hx => ?_⟩⟩
      rcases List.mem_cons.1 hx with rfl | hx
      · exact hm.mono g2.mono
      · exact (k2 hb).2 x hx
theorem strict_some {E : Eng} {n : Int} {j : Nat} (h : strictOf E n = some j) : n = (j : Int) + 1 := by
  unfold strictOf at h
  split at h
  · rename_i hn
    split at h
    · split at h
      · injection h with h
        omega
      · cases h
    · cases h
  · cases h
theorem strict_of {E : Eng} {m : Nat} {u : Tx} (hu : E.txs[m]? = some u) (hl : u.level = 2) : strictOf E ((m : Int) + 1) = some m := by
  have hm := (List.getElem?_eq_some_iff.1 hu).1
  unfold strictOf
  rw [if_pos (by omega), show ((m : Int) + 1 - 1).toNat = m by omega, hu]
  simp [hl]
theorem times_str (i : Nat) : ∀ (l : List Int) (E E' : Eng) (b : Bool), aheadTimes i l E = (b, E') → (∀ (c : Int) (m : Nat), E.wr c = some ((m : Int) + 1) → m ≠ i) → (∀ (k : Nat) (u : Tx), E.txs[k]? = some u → u.level = 2) → Grow i E E' ∧ (b = true → (BT E → BT E') ∧ ∀ c ∈ l, ∀ m : Nat, E.wr c = some ((m : Int) + 1) → Marked E' i m)
  | [], E, E', b, h, _, _ => by
    unfold aheadTimes at h
    cases h
    exact ⟨Grow.refl i E, fun _ => ⟨fun h => h, fun j hj => by cases hj⟩⟩
  | a :: r, E, E', b, h, hw, hlv => by
    unfold aheadTimes at h
    cases hso : strictOf E ((E.wr a).getD 0) with
    | none =>
      rw [hso] at h
      simp only at h
      obtain ⟨g, k⟩ := times_str i r E E' b h hw hlv
      refine ⟨g, fun hb => ⟨(k hb).1, fun c hc m hm => ?_⟩⟩
      rcases List.mem_cons.1 hc with rfl | hc
      · intro t u ht hu
        obtain ⟨u0, _, _, hu0, _⟩ := g.inv hu
        rw [hm, Option.getD_some, strict_of hu0 (hlv m u0 hu0)] at hso
        cases hso
      · exact (k hb).2 c hc m hm
    | some j =>
      rw [hso] at h
      simp only at h
      have hwa : E.wr a = some ((j : Int) + 1) := by
        have := strict_some hso
        cases hx : E.wr a with
        | none => rw [hx] at this; simp at this; omega
        | some n => rw [hx] at this; simp at this; rw [this]
      rcases hp : putAheadP E i j with ⟨b1, E1⟩
      rw [hp] at h
      obtain ⟨g, _, hm, hb1, _⟩ := put_str hp (fun e => hw a j hwa e.symm)
      cases b1 with
      | false =>
        cases h
        exact ⟨g, fun h => by cases h⟩
      | true =>
        simp only at h
        obtain ⟨g2, k2⟩ := times_str i r E1 E' b h (by rw [g.wr]; exact hw) (fun k u hu => by obtain ⟨t, _, _, h1, rfl, _⟩ := g.inv hu; exact hlv k t h1)
        refine ⟨g.trans g2, fun hb => ⟨fun hB => (k2 hb).1 (hb1 rfl hB), fun c hc m hm2 => ?_⟩⟩
        rcases List.mem_cons.1 hc with rfl | hc
        · rw [hwa] at hm2
          have : m = j := by injection hm2 with h; omega
          subst this
          exact hm.mono g2.mono
        · exact (k2 hb).2 c hc m (by rw [g.wr]; exact hm2)
theorem each_str (i : Nat) : ∀ (l : List Nat) (E : Eng), (∀ j ∈ l, j ≠ i) → Grow i E (aheadEach i l E) ∧ (∀ j ∈ l, Marked (aheadEach i l E) i j) ∧ ((∀ t, E.txs[i]? = some t → t.state ≠ 2) → (∀ j ∈ l, ∀ t, E.txs[j]? = some t → t.state ≠ 2) → BT E → BT (aheadEach i l E))
  | [], E, _ => ⟨Grow.refl i E, fun j hj => (by cases hj), fun _ _ h => h⟩
  | j :: r, E, hl => by
    unfold aheadEach
    rcases hp : putAheadP E i j with ⟨b1, E1⟩
    obtain ⟨g, _, hm, _, hb2⟩ := put_str hp (fun e => hl j (List.mem_cons_self ..) e.symm)
    obtain ⟨g2, k1, k2⟩ := each_str i r E1 (fun x hx => hl x (List.mem_cons_of_mem _ hx))
    refine ⟨g.trans g2, fun x hx => ?_, fun h1 h2 hB => k2 (fun t ht => ?_) (fun x hx t ht => ?_) (hb2 h1 (h2 j (List.mem_cons_self ..)) hB)⟩
    · rcases List.mem_cons.1 hx with rfl | hx
      · exact hm.mono g2.mono
      · exact k1 x hx
    · obtain ⟨t0, _, _, h0, rfl, _⟩ := g.inv ht
      exact h1 t0 h0
    · obtain ⟨t0, _, _, h0, rfl, _⟩ := g.inv ht
      exact h2 x (List.mem_cons_of_mem _ hx) t0 h0

end Go.Proofs.YtjefgmeejhakbaaGreatDoor

/- A cell of one of the tale's lists. -/
namespace Go.Proofs.YtjefgmeejhakbaaGreatDoor
open Go.RowKit

theorem TaleAt.rowAt {G : Gr} {w : World} {L : EnL} {E : Eng} {TL : TalL} {t : Tal} (h : TaleAt G w L E TL t) {j : Nat} (hj : j < 6) {g c n : Nat} (e : TL.row j = .slice (some ⟨g, 0, none⟩) n c) {i : Nat} {v : Value} (hx : (TL.rowX t j)[i]? = some v) : w.cell? ⟨g, i, none⟩ = some v := by
  rcases row_slice (h.tal.rows j hj) with ⟨e1, _⟩ | ⟨g', c', e1, _, hc⟩
  · rw [e] at e1; cases e1
  · rw [e] at e1
    injection e1 with e1
    injection e1 with e1
    injection e1 with e1
    rw [e1]
    exact hc i v hx
theorem TaleAt.rowIs {G : Gr} {w : World} {L : EnL} {E : Eng} {TL : TalL} {t : Tal} (h : TaleAt G w L E TL t) {j : Nat} (hj : j < 6) (hN : 0 < E.txs.length) : ∃ g c, TL.row j = .slice (some ⟨g, 0, none⟩) E.txs.length c := by
  rcases row_slice (h.tal.rows j hj) with ⟨e1, e2⟩ | ⟨g', c', e1, _, hc⟩
  · omega
  · exact ⟨g', c', e1⟩

end Go.Proofs.YtjefgmeejhakbaaGreatDoor
