/- KtActs ActsRow KtTalOk KtAll KtRanP KtRan KtLastP KtMapL: put together for a claim. -/
import Derived.Test.YtjefgmeejhakbaaGreatDoorMgAOQ
import Derived.Test.YtjefgmeejhakbaaGreatDoorMgADQ
import Derived.Test.YtjefgmeejhakbaaGreatDoorKtDoesSQ
import Derived.Test.YtjefgmeejhakbaaGreatDoorMgARQ
import Derived.Test.YtjefgmeejhakbaaGreatDoorKtDoesBQ
import Derived.Test.YtjefgmeejhakbaaGreatDoorEnHistQ
import Derived.Test.YtjefgmeejhakbaaGreatDoorMgAJQ
/- Acts, and numbers, that came in. -/
namespace Go.Proofs.YtjefgmeejhakbaaGreatDoor
open Go.RowKit
def ActsAt (W : World) (ad : Option Addr) (n : Nat) : Prop := ∀ i, i < n → ∃ (b off : Nat) (a0 a1 a2 a3 : Int), ad = some ⟨b, off, none⟩ ∧ W.cell? ⟨b, off + i * 4, none⟩ = some (.int .i64 a0) ∧ W.cell? ⟨b, off + i * 4 + 1, none⟩ = some (.int .i64 a1) ∧ W.cell? ⟨b, off + i * 4 + 2, none⟩ = some (.int .i64 a2) ∧ W.cell? ⟨b, off + i * 4 + 3, none⟩ = some (.int .i64 a3)
def IntsAt (W : World) (ad : Option Addr) (n : Nat) : Prop := ∀ i, i < n → ∃ (b off : Nat) (x : Int), ad = some ⟨b, off, none⟩ ∧ W.cell? ⟨b, off + i, none⟩ = some (.int .i64 x)
end Go.Proofs.YtjefgmeejhakbaaGreatDoor

/- Lists of acts and of numbers that came in. -/
namespace Go.Proofs.YtjefgmeejhakbaaGreatDoor
open Go.ChangeShapes Go.WideShapes Go.ChangeAt Go.RowKit
theorem tryd_cells_act : Tryz.prog.cellsOf 62 = 4 := by kernel_rfl
section
variable {H : Type} {enc : TypeId × Value → H}
set_option maxRecDepth 100000 in
theorem open_acts {W : World} {base : Nat} {v : Value} {d : DataW H} {p : List MemPlace} (hv : Value.okWide Tryz.prog W .any base 56 v) (h : DataW.Trod enc Tryz.prog W 0 (fun _ => true) true 56 v d p) : ∃ ad n cap, v = .slice ad n cap ∧ ActsAt W ad n := by
  obtain ⟨ad, n, cap, rfl⟩ := okWide_slice Tryz.underlying56 hv
  refine ⟨ad, n, cap, rfl, ?_⟩
  obtain ⟨fuel, hf⟩ := h
  rcases Go.Deep.open_slice Tryz.underlying56 hf with ⟨e, _⟩ | ⟨a, len, cp, m, n', D, Pl, e, _, hl, _, hm, _, hx⟩
  · simp [Value.cells] at e
    obtain ⟨rfl, rfl, rfl⟩ := e
    intro i hi
    omega
  · simp [Value.cells] at e
    obtain ⟨rfl, rfl, rfl⟩ := e
    have hm' : m = cap := by simpa using hm
    have each : ∀ i, i < m → ∃ (v0 v1 v2 v3 : Value), W.cell? (a.add (i * 4)) = some v0 ∧ W.cell? (a.add (i * 4 + 1)) = some v1 ∧ W.cell? (a.add (i * 4 + 2)) = some v2 ∧ W.cell? (a.add (i * 4 + 3)) = some v3 ∧
        (∃ y, DataW.trod enc Tryz.prog W 0 (fun _ => true) true (n' - 1) 3 [v0] = some y) ∧ (∃ y, DataW.trod enc Tryz.prog W 0 (fun _ => true) true (n' - 1) 3 [v1] = some y) ∧ (∃ y, DataW.trod enc Tryz.prog W 0 (fun _ => true) true (n' - 1) 3 [v2] = some y) ∧ (∃ y, DataW.trod enc Tryz.prog W 0 (fun _ => true) true (n' - 1) 3 [v3] = some y) := by
      intro i hi
      obtain ⟨cs', h1, h2⟩ := hx i hi
      rw [tryd_cells_act] at h1
      obtain ⟨_, hlen, hcell⟩ := World.cells?_some h1
      obtain ⟨xs, k, hk, hxy, _, hxl, hf'⟩ := DataW.trod_struct Tryz.underlying62 h2
      have hk' : k = n' - 1 := by omega
      subst hk'
      match xs, hxl, cs', hlen with
      | [y0, y1, y2, y3], _, [v0, v1, v2, v3], _ =>
        have g0 := hf' 0 _ rfl
        have g1 := hf' 1 _ rfl
        have g2 := hf' 2 _ rfl
        have g3 := hf' 3 _ rfl
        simp [tryd_cells3] at g0 g1 g2 g3
        have e0 := hcell 0 (by omega)
        have e1 := hcell 1 (by omega)
        have e2 := hcell 2 (by omega)
        have e3 := hcell 3 (by omega)
        rw [Go.Deep.add_add] at e0 e1 e2 e3
        exact ⟨v0, v1, v2, v3, by simpa using e0, by simpa using e1, by simpa using e2, by simpa using e3, ⟨y0, g0⟩, ⟨y1, g1⟩, ⟨y2, g2⟩, ⟨y3, g3⟩⟩
    intro i hi
    obtain ⟨_, _, _, _, h00, _⟩ := each 0 (by omega)
    obtain ⟨b, off, rfl⟩ := addr_plain (by simpa using h00)
    obtain ⟨v0, v1, v2, v3, h0, h1, h2, h3, ⟨_, t0⟩, ⟨_, t1⟩, ⟨_, t2⟩, ⟨_, t3⟩⟩ := each i (by omega)
    rw [Addr.add_mid] at h0 h1 h2 h3
    obtain ⟨q0, e0, _⟩ := DataW.trod_int Tryz.underlying3 t0
    obtain ⟨q1, e1, _⟩ := DataW.trod_int Tryz.underlying3 t1
    obtain ⟨q2, e2, _⟩ := DataW.trod_int Tryz.underlying3 t2
    obtain ⟨q3, e3, _⟩ := DataW.trod_int Tryz.underlying3 t3
    rw [(List.cons.inj e0).1] at h0
    rw [(List.cons.inj e1).1] at h1
    rw [(List.cons.inj e2).1] at h2
    rw [(List.cons.inj e3).1] at h3
    exact ⟨b, off, q0, q1, q2, q3, rfl, h0, h1, h2, h3⟩
set_option maxRecDepth 100000 in
theorem open_nums {W : World} {base : Nat} {v : Value} {d : DataW H} {p : List MemPlace} (hv : Value.okWide Tryz.prog W .any base 29 v) (h : DataW.Trod enc Tryz.prog W 0 (fun _ => true) true 29 v d p) : ∃ ad n cap, v = .slice ad n cap ∧ IntsAt W ad n := by
  obtain ⟨ad, n, cap, rfl⟩ := okWide_slice Tryz.underlying29 hv
  refine ⟨ad, n, cap, rfl, ?_⟩
  obtain ⟨fuel, hf⟩ := h
  rcases Go.Deep.open_slice Tryz.underlying29 hf with ⟨e, _⟩ | ⟨a, len, cp, m, n', D, Pl, e, _, hl, _, hm, _, hx⟩
  · simp [Value.cells] at e
    obtain ⟨rfl, rfl, rfl⟩ := e
    intro i hi
    omega
  · simp [Value.cells] at e
    obtain ⟨rfl, rfl, rfl⟩ := e
    have hm' : m = cap := by simpa using hm
    have each : ∀ i, i < m → ∃ (v0 : Value) (k : Nat), W.cell? (a.add i) = some v0 ∧ (∃ y, DataW.trod enc Tryz.prog W 0 (fun _ => true) true k 3 [v0] = some y) := by
      intro i hi
      obtain ⟨cs', h1, h2⟩ := hx i hi
      rw [tryd_cells3] at h1
      obtain ⟨_, hlen, hcell⟩ := World.cells?_some h1
      match cs', hlen with
      | [v0], _ =>
        have e0 := hcell 0 (by omega)
        rw [Go.Deep.add_add] at e0
        exact ⟨v0, _, by simpa using e0, ⟨_, h2⟩⟩
    intro i hi
    obtain ⟨_, _, h00, _⟩ := each 0 (by omega)
    obtain ⟨b, off, rfl⟩ := addr_plain (by simpa using h00)
    obtain ⟨v0, k, h0, ⟨_, t0⟩⟩ := each i (by omega)
    rw [Addr.add_mid] at h0
    obtain ⟨q0, e0, _⟩ := DataW.trod_int Tryz.underlying3 t0
    rw [(List.cons.inj e0).1] at h0
    exact ⟨b, off, q0, rfl, h0⟩
end
end Go.Proofs.YtjefgmeejhakbaaGreatDoor

/- What is asked of a tale's memory. -/
namespace Go.Proofs.YtjefgmeejhakbaaGreatDoor
open Go.RowKit
theorem POk.talOk {w0 : Gr} {E : Eng} {t : Tal} {n : Nat} (h : POk E t n) (hg : Handle w0.w ∧ w0.P 0) : TalOk w0 E t n := ⟨h.mid, h.steps, h.num, h.rd, h.tr, h.ts, hg⟩
end Go.Proofs.YtjefgmeejhakbaaGreatDoor

/- keep's does, whatever the act, of any level. -/
namespace Go.Proofs.YtjefgmeejhakbaaGreatDoor
open Go.RowKit
theorem does_any {w0 : Gr} {w : World} {L : EnL} {E : Eng} {TL : TalL} {t : Tal} {n : Nat} (h : TaleAt w0 w L E TL t) (ho : POk E t n) (hg : Handle w0.w ∧ w0.P 0) (hn : n ≤ 1000) (what lev tx key : Int) :
    Calls Tryz.prog 24 #[.pointer (some ⟨TL.b, 0, none⟩), .agg #[.int .i64 what, .int .i64 lev, .int .i64 tx, .int .i64 key], .int .i64 (-1)] w fun e w' => e = .returned (.tuple #[]) ∧
      ∃ L' E' TL' t', TaleAt w0 w' L' E' TL' t' ∧ Does (-1) E t E' t' ∧ TL'.b = TL.b := by
  have hs : 0 ≤ t.steps ∧ t.steps ≤ 1000 := by have := ho.steps; omega
  by_cases hw : what = 0
  · subst hw
    by_cases hb : 200 ≤ E.txs.length ∨ 6 ≤ (liveOnes E).length
    · refine (does_full h ho.mid.fits hs (-1) lev tx key (by omega) hb).mono ?_
      rintro e w' ⟨rfl, L', E', TL', t', h1, h2, _, h4⟩
      exact ⟨rfl, L', E', TL', t', h2, h1, h4⟩
    · refine (does_begin h ho.mid.fits hs (-1) lev tx key (by omega) (by omega) (by omega)).mono ?_
      rintro e w' ⟨rfl, L', E', TL', t', h1, h2, _, h4⟩
      exact ⟨rfl, L', E', TL', t', h2, h1, h4⟩
  · refine (does_rest h (ho.talOk hg) hn (-1) what lev tx key hw).mono ?_
    rintro e w' ⟨rfl, L', E', TL', t', h1, h2, _, h4⟩
    exact ⟨rfl, L', E', TL', t', h2, h1, h4⟩
end Go.Proofs.YtjefgmeejhakbaaGreatDoor

/- Plain: keep's fact: two that write what the other one read. -/
namespace Go.Proofs.YtjefgmeejhakbaaGreatDoor
noncomputable def rA : Eng := { eng0 with txs := [] ++ [newTx 2 0] }
noncomputable def rB : Eng := { rA with txs := rA.txs ++ [newTx 2 0] }
noncomputable def rC : Eng := ((readE 7 rB 0 1).map (·.2)).getD eng0
noncomputable def rD : Eng := ((readE 7 rC 1 2).map (·.2)).getD eng0
noncomputable def rF : Eng := ((writeE 7 (fun _ => 0) rD 0 2 5).map (·.2)).getD eng0
noncomputable def rG : Eng := ((writeE 7 (fun _ => 0) rF 1 1 6).map (·.2)).getD eng0
set_option maxRecDepth 100000
theorem rC_eq : readE 7 rB 0 1 = some ((0, 8), rC) := rfl
theorem rD_eq : readE 7 rC 1 2 = some ((0, 8), rD) := rfl
theorem rF_eq : writeE 7 (fun _ => 0) rD 0 2 5 = some ((true, 0), rF) := rfl
theorem rG_eq : writeE 7 (fun _ => 0) rF 1 1 6 = some ((true, 0), rG) := rfl
noncomputable def rH : Eng := (endF 7 (loseE rG 0 13) 0 3).getD eng0
noncomputable def rI : Eng := (endF 7 { (installE rH 1) with com := rH.com ++ [1] } 1 2).getD eng0
theorem rH_eq : commitE 7 rG 0 = some (13, rH) := by
  obtain ⟨t, ht, ha, hb⟩ : ∃ t, rG.txs[0]? = some t ∧ t.ahead 2 = true ∧ t.behind 2 = true := ⟨_, rfl, rfl, rfl⟩
  have h1 : endF 7 (loseE rG 0 13) 0 3 = some rH := rfl
  unfold commitE
  rw [ht]
  simp only
  rw [if_pos (betB_true.2 ⟨⟨2, ha⟩, ⟨2, hb⟩⟩), h1]
  rfl
theorem rI_eq : commitE 7 rH 1 = some (0, rI) := by
  obtain ⟨t, ht, ha⟩ : ∃ t, rH.txs[1]? = some t ∧ ∀ x, t.ahead x = ((false || x == 1) && x != 1) := ⟨_, rfl, fun _ => rfl⟩
  have h1 : endF 7 { (installE rH 1) with com := rH.com ++ [1] } 1 2 = some rI := rfl
  unfold commitE
  rw [ht]
  simp only
  rw [if_neg (by
    rw [betB_false]
    · simp
    · rintro ⟨⟨x, hx⟩, _⟩
      rw [ha] at hx
      simp at hx), h1]
  rfl
theorem rA_mid : Mid0 rA := mid0_eng0.begin (level := 2) (.inr (.inr rfl)) (by decide) (by decide)
theorem rB_mid : Mid0 rB := rA_mid.begin (level := 2) (.inr (.inr rfl)) (by decide) (by decide)
theorem rB_rd : ∀ u ∈ rB.txs, u.reads.length ≤ 0 := fun u hu => by
  have : u = newTx 2 0 := by
    rcases List.mem_cons.1 (show u ∈ [newTx 2 0, newTx 2 0] from hu) with h | h
    · exact h
    · exact List.mem_singleton.1 h
  rw [this]
  exact Nat.le_refl _
theorem rC_went : Went rB rC 1 := went_read rB_mid rB_rd (i := 0) (u := newTx 2 0) rfl rfl (by decide) rC_eq
theorem rD_went : Went rC rD 2 := by
  obtain ⟨u, hu, hs⟩ : ∃ u, rC.txs[1]? = some u ∧ u.state = 0 := ⟨_, rfl, rfl⟩
  exact went_read rC_went.mid rC_went.rd hu hs (by decide) rD_eq
theorem rD_rank : Ranked rD.T (fun _ => 0) := fun k x h => (by cases h)
theorem rF_went : Went rD rF 2 := by
  obtain ⟨u, hu, hs⟩ : ∃ u, rD.txs[0]? = some u ∧ u.state = 0 := ⟨_, rfl, rfl⟩
  exact went_write rD_went.mid rD_went.rd hu hs (by decide) (by decide) rD_rank rF_eq
theorem rF_rank : Ranked rF.T (fun _ => 0) := fun k x h => by
  have e : rF.T = updT (fun _ => []) 2 [1] := rfl
  rw [e] at h
  unfold updT at h
  split at h <;> cases h
theorem rG_went : Went rF rG 2 := by
  obtain ⟨u, hu, hs⟩ : ∃ u, rF.txs[1]? = some u ∧ u.state = 0 := ⟨_, rfl, rfl⟩
  exact went_write rF_went.mid rF_went.rd hu hs (by decide) (by decide) rF_rank rG_eq
theorem rH_went : Went rG rH 2 := by
  obtain ⟨u, hu, hs⟩ : ∃ u, rG.txs[0]? = some u ∧ u.state = 0 := ⟨_, rfl, rfl⟩
  exact (went_commit rG_went.mid rG_went.rd hu hs rH_eq).1
end Go.Proofs.YtjefgmeejhakbaaGreatDoor

/- keep's ran. -/
namespace Go.Proofs.YtjefgmeejhakbaaGreatDoor
open Go.RowKit
theorem EnPost.go {w0 w w' : World} {L : EnL} {E' : Eng} (hB : Below w0.heap.size w0 w) (hn : ∀ g, L.own g → w0.heap.size ≤ g) (hp : EnPost L E' w w') : ∃ L', EnAt w' L' E' ∧ Below w0.heap.size w0 w' ∧ (∀ g, L'.own g → w0.heap.size ≤ g) ∧ L'.s = L.s := by
  obtain ⟨L', hE, hK, hs, _⟩ := hp
  exact ⟨L', hE, hB.trans (hK.below hB.size hn), fun g hg => (hK.sub g hg).elim (hn g) (fun e => Nat.le_trans hB.size e), hs⟩
set_option maxRecDepth 100000 in
set_option maxHeartbeats 4000000 in
theorem ran_any (w : World) (hg : Handle w) : Calls Tryz.prog 22 #[] w fun e w' => e = .returned (.bool true) ∧ Below w.heap.size w w' := by
  have hh : ∀ W, Below w.heap.size w W → Handle W := fun W hB => hg.below hB hg.pos
  have HH := hid hh
  have HN := hid (new_any w)
  clear hh hg
  go_enter Tryz.func22, Tryz.ntmps22
  go_wp2_with fail
  refine HN.out.mono ?_
  rintro e w1 ⟨L1, rfl, hE1, hB1, hn1⟩
  have hs1 : L1.s = L1.s := rfl
  have HB1 : Hid (Calls Tryz.prog 51 #[.pointer (some ⟨L1.s, 0, none⟩), .int .i64 2] w1 fun e w' => e = .returned (.tuple #[.int .i64 1, .nilIface]) ∧ ∃ L' b, EnAt w' L' rA ∧ KeptO L1.own L'.own w1 w' ∧ L'.s = L1.s ∧ L'.bs = L1.bs ++ [b]) := by
    have := begin_ok (E := eng0) hE1 (level := 2) (.inr (.inr rfl)) (by decide) (by decide)
    exact this
  have HX1 := hid (And.intro hB1 (And.intro hn1 hs1))
  clear hE1 hB1 hn1 hs1
  go_wp2_with fail
  refine HB1.out.mono ?_
  rintro e w2 ⟨rfl, L2, b2, hE2, hK, hs, _⟩
  have hB2 : Below w.heap.size w w2 := HX1.out.1.trans (hK.below HX1.out.1.size HX1.out.2.1)
  have hn2 : ∀ g, L2.own g → w.heap.size ≤ g := fun g hg => (hK.sub g hg).elim (HX1.out.2.1 g) (fun e => Nat.le_trans HX1.out.1.size e)
  have hs2 : L2.s = L1.s := hs
  clear hK hs HB1 HX1
  have HB2 : Hid (Calls Tryz.prog 51 #[.pointer (some ⟨L1.s, 0, none⟩), .int .i64 2] w2 fun e w' => e = .returned (.tuple #[.int .i64 2, .nilIface]) ∧ ∃ L' b, EnAt w' L' rB ∧ KeptO L2.own L'.own w2 w' ∧ L'.s = L2.s ∧ L'.bs = L2.bs ++ [b]) := by
    have := begin_ok (E := rA) hE2 (level := 2) (.inr (.inr rfl)) (by decide) (by decide)
    rw [hs2] at this ⊢
    exact this
  have HX2 := hid (And.intro hB2 (And.intro hn2 hs2))
  clear hE2 hB2 hn2 hs2
  go_wp2_with fail
  refine HB2.out.mono ?_
  rintro e w3 ⟨rfl, L3, b3, hE3, hK, hs, _⟩
  have hB3 : Below w.heap.size w w3 := HX2.out.1.trans (hK.below HX2.out.1.size HX2.out.2.1)
  have hn3 : ∀ g, L3.own g → w.heap.size ≤ g := fun g hg => (hK.sub g hg).elim (HX2.out.2.1 g) (fun e => Nat.le_trans HX2.out.1.size e)
  have hs3 : L3.s = L1.s := hs.trans HX2.out.2.2
  clear hK hs HB2 HX2
  have HC3 : Hid (Calls Tryz.prog 52 #[.pointer (some ⟨L1.s, 0, none⟩), .int .i64 1, .int .i64 1] w3 fun e w' => e = .returned (.tuple #[.int .i64 0, errV 8]) ∧ EnPost L3 rC w3 w') := by
    have := read_any hE3 (HH.out w3 hB3) rB_mid (fun u hu => by have := rB_rd u hu; omega) (i := 0) (u := newTx 2 0) rfl rfl (by decide) rC_eq
    rw [hs3] at this
    exact this
  have HX3 := hid (And.intro hB3 (And.intro hn3 hs3))
  clear hE3 hB3 hn3 hs3
  go_wp2_with fail
  refine HC3.out.mono ?_
  rintro e w4 ⟨rfl, hP⟩
  obtain ⟨L4, hE4, hB4, hn4, hs⟩ := EnPost.go HX3.out.1 HX3.out.2.1 hP
  have hs4 : L4.s = L1.s := hs.trans HX3.out.2.2
  clear hP hs HC3 HX3
  have HC4 : Hid (Calls Tryz.prog 52 #[.pointer (some ⟨L1.s, 0, none⟩), .int .i64 2, .int .i64 2] w4 fun e w' => e = .returned (.tuple #[.int .i64 0, errV 8]) ∧ EnPost L4 rD w4 w') := by
    have := read_any hE4 (HH.out w4 hB4) rC_went.mid (fun u hu => by have := rC_went.rd u hu; omega) (i := 1) (Classical.choose_spec (show ∃ u, rC.txs[1]? = some u ∧ u.state = 0 from ⟨_, rfl, rfl⟩)).1 (Classical.choose_spec (show ∃ u, rC.txs[1]? = some u ∧ u.state = 0 from ⟨_, rfl, rfl⟩)).2 (by decide) rD_eq
    rw [hs4] at this
    exact this
  have HX4 := hid (And.intro hB4 (And.intro hn4 hs4))
  clear hE4 hB4 hn4 hs4
  go_wp2_with fail
  refine HC4.out.mono ?_
  rintro e w5 ⟨rfl, hP⟩
  obtain ⟨L5, hE5, hB5, hn5, hs⟩ := EnPost.go HX4.out.1 HX4.out.2.1 hP
  have hs5 : L5.s = L1.s := hs.trans HX4.out.2.2
  clear hP hs HC4 HX4
  have HC5 : Hid (Calls Tryz.prog 53 #[.pointer (some ⟨L1.s, 0, none⟩), .int .i64 1, .int .i64 2, .int .i64 5] w5 fun e w' => e = .returned (.tuple #[.bool true, errV 0]) ∧ EnPost L5 rF w5 w') := by
    have := write_main hE5 rD_went.mid.fits rD_rank (i := 0) (Classical.choose_spec (show ∃ u, rD.txs[0]? = some u ∧ u.state = 0 from ⟨_, rfl, rfl⟩)).1 (Classical.choose_spec (show ∃ u, rD.txs[0]? = some u ∧ u.state = 0 from ⟨_, rfl, rfl⟩)).2 (by decide) (by decide) rF_eq
    rw [hs5] at this
    exact this
  have HX5 := hid (And.intro hB5 (And.intro hn5 hs5))
  clear hE5 hB5 hn5 hs5
  go_wp2_with fail
  refine HC5.out.mono ?_
  rintro e w6 ⟨rfl, hP⟩
  obtain ⟨L6, hE6, hB6, hn6, hs⟩ := EnPost.go HX5.out.1 HX5.out.2.1 hP
  have hs6 : L6.s = L1.s := hs.trans HX5.out.2.2
  clear hP hs HC5 HX5
  have HC6 : Hid (Calls Tryz.prog 53 #[.pointer (some ⟨L1.s, 0, none⟩), .int .i64 2, .int .i64 1, .int .i64 6] w6 fun e w' => e = .returned (.tuple #[.bool true, errV 0]) ∧ EnPost L6 rG w6 w') := by
    have := write_main hE6 rF_went.mid.fits rF_rank (i := 1) (Classical.choose_spec (show ∃ u, rF.txs[1]? = some u ∧ u.state = 0 from ⟨_, rfl, rfl⟩)).1 (Classical.choose_spec (show ∃ u, rF.txs[1]? = some u ∧ u.state = 0 from ⟨_, rfl, rfl⟩)).2 (by decide) (by decide) rG_eq
    rw [hs6] at this
    exact this
  have HX6 := hid (And.intro hB6 (And.intro hn6 hs6))
  clear hE6 hB6 hn6 hs6
  go_wp2_with fail
  refine HC6.out.mono ?_
  rintro e w7 ⟨rfl, hP⟩
  obtain ⟨L7, hE7, hB7, hn7, hs⟩ := EnPost.go HX6.out.1 HX6.out.2.1 hP
  have hs7 : L7.s = L1.s := hs.trans HX6.out.2.2
  clear hP hs HC6 HX6
  have HT8 := hid (fun W (hB : Below w7.heap.size w7 W) => tellV 8 W (HH.out W (hB7.trans (hB.mono hB7.size))))
  have HCc : Hid (∀ W, Below w7.heap.size w7 W → Calls Tryz.prog 37 #[.pointer (some ⟨L1.s, 0, none⟩), .int .i64 1] W fun e w' => e = .returned (errV 13) ∧ EnPost L7 rH W w') := fun W hB => by
    have CH := (Classical.choose_spec (show ∃ u, rG.txs[0]? = some u ∧ u.state = 0 from ⟨_, rfl, rfl⟩))
    have := commit_main (hE7.below hB) rG_went.mid.fits (i := 0) CH.1 CH.2 (rG_went.mid.fine CH.1) (by have := rG_went.mid.last_le; have e : rG.ce.last = rG.last := rfl; omega) (by have := rG_went.mid.com.nwc; have := rG_went.mid.cw_len; have e : rG.ce.nw = rG.nw := rfl; omega) (by have := rG_went.mid.com_len; have e : rG.ce.com = rG.com := rfl; rw [e] at this; omega) (rG_went.mid.inst_ks _) rH_eq
    rw [hs7] at this
    exact this
  have HX7 := hid (And.intro hB7 (And.intro hn7 hs7))
  rw [show errV 8 = Value.iface 24 (.int .i64 8) from rfl, show errV 0 = Value.nilIface from rfl]
  rw [show errV 8 = Value.iface 24 (.int .i64 8) from rfl] at HT8
  clear hE7 hB7 hn7 hs7
  go_wp2_with fail
  refine (HT8.out _ (Below.refl _ _)).mono ?_
  rintro e w8 ⟨rfl, hB8⟩
  go_wp2_with fail
  refine (HT8.out _ hB8).mono ?_
  rintro e w9 ⟨rfl, hB9'⟩
  have hB9 : Below w7.heap.size w7 w9 := hB8.trans (hB9'.mono hB8.size)
  have HB9 := hid hB9
  clear hB8 hB9' hB9
  go_wp2_with fail
  refine (HCc.out _ HB9.out).mono ?_
  rintro e w10 ⟨rfl, hP⟩
  obtain ⟨L10, hE10, hB10, hn10, hs⟩ := EnPost.go (HX7.out.1.trans (HB9.out.mono HX7.out.1.size)) HX7.out.2.1 hP
  have hs10 : L10.s = L1.s := hs.trans HX7.out.2.2
  clear hP hs HCc HT8 HX7 HB9
  have HCd : Hid (Calls Tryz.prog 37 #[.pointer (some ⟨L1.s, 0, none⟩), .int .i64 2] w10 fun e w' => e = .returned (errV 0) ∧ EnPost L10 rI w10 w') := by
    have CH := (Classical.choose_spec (show ∃ u, rH.txs[1]? = some u ∧ u.state = 0 from ⟨_, rfl, rfl⟩))
    have := commit_main hE10 rH_went.mid.fits (i := 1) CH.1 CH.2 (rH_went.mid.fine CH.1) (by have := rH_went.mid.last_le; have e : rH.ce.last = rH.last := rfl; omega) (by have := rH_went.mid.com.nwc; have := rH_went.mid.cw_len; have e : rH.ce.nw = rH.nw := rfl; omega) (by have := rH_went.mid.com_len; have e : rH.ce.com = rH.com := rfl; rw [e] at this; omega) (rH_went.mid.inst_ks _) rI_eq
    rw [hs10] at this
    exact this
  have HX10 := hid (And.intro hB10 (And.intro hn10 hs10))
  clear hE10 hB10 hn10 hs10
  go_wp2_with fail
  refine HCd.out.mono ?_
  rintro e w11 ⟨rfl, hP⟩
  obtain ⟨L11, hE11, hB11, hn11, hs⟩ := EnPost.go HX10.out.1 HX10.out.2.1 hP
  have hs11 : L11.s = L1.s := hs.trans HX10.out.2.2
  have HT := hid (tellV 13 w11 (HH.out w11 hB11))
  have HL : Hid (∀ W, Below w11.heap.size w11 W → Calls Tryz.prog 86 #[.pointer (some ⟨L1.s, 0, none⟩)] W fun e w' => e = .returned (.int .i64 1) ∧ w' = W) := fun W hB => by
    have := lastE_any (hE11.below hB)
    rw [hs11] at this
    exact this
  have HB11 := hid hB11
  rw [show errV 0 = Value.nilIface from rfl]
  clear hP hs HCd HX10 hE11 hB11 hn11 hs11
  go_wp2_with fail
  refine HT.out.mono ?_
  rintro e w12 ⟨rfl, hB12⟩
  have HB12 := hid hB12
  clear hB12
  go_wp2_with fail
  refine (HL.out _ HB12.out).mono ?_
  rintro e w13 ⟨rfl, hw13⟩
  rw [hw13]
  go_wp2
  go_ret
  exact ⟨rfl, HB11.out.trans (HB12.out.mono HB11.out.size)⟩
end Go.Proofs.YtjefgmeejhakbaaGreatDoor

/- Plain: the last one of each key, by the history. -/
namespace Go.Proofs.YtjefgmeejhakbaaGreatDoor
def lastH (l : List (Int × Int × Bool × Int)) : Int → Option Int := l.foldl (fun f o => if o.2.2.1 = true then updT f o.2.1 (some o.1) else f) (fun _ => none)
theorem lastH_snoc (l : List (Int × Int × Bool × Int)) (o : Int × Int × Bool × Int) : lastH (l ++ [o]) = if o.2.2.1 = true then updT (lastH l) o.2.1 (some o.1) else lastH l := by
  unfold lastH
  rw [List.foldl_append]
  rfl
theorem lastH_reads (l : List (Int × Int × Bool × Int)) (n : Int) (r : List (Int × Int)) : lastH (l ++ readOps n r) = lastH l := by
  unfold lastH
  rw [List.foldl_append]
  generalize List.foldl (fun f o => if o.2.2.1 = true then updT f o.2.1 (some o.1) else f) (fun _ => none) l = f
  induction r generalizing f with
  | nil => rfl
  | cons p r ih => exact ih f
theorem lastH_keys (l : List (Int × Int × Bool × Int)) (n : Int) (V : Int → Option Int) : ∀ (ks : List Int) (k : Int), lastH (l ++ (ks.map (fun k => (k, (V k).getD 0))).map (fun p => (n, p.1, true, (0 : Int)))) k = if k ∈ ks then some n else lastH l k := by
  intro ks
  unfold lastH
  rw [List.foldl_append]
  generalize List.foldl (fun f o => if o.2.2.1 = true then updT f o.2.1 (some o.1) else f) (fun _ => none) l = f
  induction ks generalizing f with
  | nil => intro k; simp
  | cons a r ih =>
    intro k
    have := ih (updT f a (some n)) k
    simp only [List.map_cons, List.foldl_cons, if_true] at this ⊢
    rw [this]
    by_cases e : k = a
    · subst e
      by_cases hk : k ∈ r
      · simp [hk]
      · simp [hk, updT_same]
    · by_cases hk : k ∈ r
      · simp [hk]
      · simp [hk, e, updT_other _ _ e]
theorem lastH_hist {a0 : Int} {K0 : Int → Option Int} {E : Eng} {Q : Nat → Prop} (h : Mid a0 K0 E.ce Q) : ∀ (j : Nat) (k : Int), j ≤ E.com.length → lastH (histTo E j) k = (lastW E.ce.v (E.com.take j) k).map (fun (i : Nat) => (i : Int) + 1)
  | 0, k, _ => by simp [histTo, lastH, lastW]
  | j + 1, k, hj => by
    have hi : E.com[j]? = some E.com[j] := List.getElem?_eq_getElem (by omega)
    obtain ⟨c, hc, _⟩ := (h.com.coms E.com[j]).1 (show E.com[j] ∈ E.com from List.getElem_mem _)
    obtain ⟨t, ht, rfl⟩ := cs_of hc
    have hvk := (h.reg.fair _ _ hc).vk
    rw [histTo_step hi ht, List.take_add_one, hi]
    simp only [Option.toList_some]
    rw [lastW_snoc, histOf, ← List.append_assoc]
    unfold writesP
    rw [lastH_keys, lastH_reads, lastH_hist h j k (by omega), CE.v_some hc]
    have hm := mem_keysOf (f := t.vals) hvk k
    by_cases hs : (t.vals k).isSome = true
    · rw [if_pos (hm.2 hs)]
      show _ = Option.map _ (if ((cor t).vals k).isSome = true then _ else _)
      rw [if_pos (show ((cor t).vals k).isSome = true from hs)]
      rfl
    · rw [if_neg (fun hc => hs (hm.1 hc))]
      show _ = Option.map _ (if ((cor t).vals k).isSome = true then _ else _)
      rw [if_neg (show ¬ ((cor t).vals k).isSome = true from hs)]
theorem allK_fst (f : Nat → Option (Int × Int)) : ∀ m : Nat, (allK f m).length = ((List.range m).filter (fun k => (f k).isSome)).length
  | 0 => rfl
  | m + 1 => by
    rw [allK, List.length_append, allK_fst f m, List.range_succ, List.filter_append, List.length_append]
    congr 1
    cases h : f m <;> simp [h]
theorem keysOf_range {α : Type} (f : Int → Option α) : (keysOf f).length = ((List.range 10).filter (fun (k : Nat) => (f (k : Int)).isSome)).length := by
  unfold keysOf
  have : keysP = (List.range 10).map (fun (k : Nat) => (k : Int)) := rfl
  rw [this, List.filter_map, List.length_map]
  rfl
theorem allK_mem (f : Nat → Option (Int × Int)) : ∀ (m : Nat) (k x : Int), (k, x) ∈ allK f m → ∃ j : Nat, j < m ∧ k = j ∧ (f j).map (·.2) = some x
  | 0, k, x, h => by cases h
  | m + 1, k, x, h => by
    rw [allK] at h
    rcases List.mem_append.1 h with h | h
    · obtain ⟨j, h1, h2, h3⟩ := allK_mem f m k x h
      exact ⟨j, by omega, h2, h3⟩
    · cases hf : f m with
      | none => rw [hf] at h; cases h
      | some p =>
        rw [hf] at h
        simp only [List.mem_singleton, Prod.mk.injEq] at h
        exact ⟨m, by omega, h.1, by rw [hf, h.2]; rfl⟩
section
variable {E : Eng} {Q : Nat → Prop}
theorem all_count (h : Mid 0 (fun _ => none) E.ce Q) : (allE E).length = (keysOf (lastH (histP E))).length := by
  unfold allE
  rw [allK_fst, keysOf_range]
  congr 1
  refine List.filter_congr (fun k hk => ?_)
  have hk := List.mem_range.1 hk
  have h1 := h.now hk
  unfold histP
  rw [lastH_hist h _ _ (Nat.le_refl _), List.take_length]
  cases hl : lastW E.ce.v E.com k with
  | none =>
    rw [hl] at h1
    cases hr : rdP E.last (E.ks[k]?.getD []) with
    | none => rfl
    | some p => rw [hr] at h1; cases h1
  | some i =>
    rw [hl] at h1
    have h2 := (lastW_some hl).2
    cases hr : rdP E.last (E.ks[k]?.getD []) with
    | none =>
      rw [hr] at h1
      simp only [Option.map_none, Option.bind_some] at h1
      rw [← h1] at h2
      cases h2
    | some p => rfl
theorem lastH_keys_in (h : Mid 0 (fun _ => none) E.ce Q) (k : Int) (hk : lastH (histP E) k ≠ none) : 0 ≤ k ∧ k < 10 := by
  unfold histP at hk
  rw [lastH_hist h _ _ (Nat.le_refl _), List.take_length] at hk
  cases hl : lastW E.ce.v E.com k with
  | none => rw [hl] at hk; exact (hk rfl).elim
  | some i =>
    obtain ⟨h1, h2⟩ := lastW_some hl
    obtain ⟨c, hc, _⟩ := (h.com.coms i).1 h1
    rw [CE.v_some hc] at h2
    exact (h.reg.fair i c hc).vk k (fun e => by rw [e] at h2; cases h2)
theorem all_each (h : Mid 0 (fun _ => none) E.ce Q) {k x : Int} (hx : (k, x) ∈ allE E) : ∃ (i : Nat) (t : Tx), lastH (histP E) k = some ((i : Int) + 1) ∧ E.txs[i]? = some t ∧ t.state = 2 ∧ t.vals k = some x ∧ 0 ≤ k ∧ k < 10 := by
  obtain ⟨j, hj, rfl, hv⟩ := allK_mem _ _ _ _ hx
  have h1 := h.now hj
  rw [hv] at h1
  unfold histP
  rw [lastH_hist h _ _ (Nat.le_refl _), List.take_length]
  cases hl : lastW E.ce.v E.com j with
  | none => rw [hl] at h1; cases h1
  | some i =>
    rw [hl] at h1
    obtain ⟨h2, _⟩ := lastW_some hl
    obtain ⟨c, hc, hs⟩ := (h.com.coms i).1 h2
    obtain ⟨t, ht, rfl⟩ := cs_of hc
    simp only [Option.bind_some] at h1
    rw [CE.v_some hc] at h1
    exact ⟨i, t, rfl, ht, hs, h1.symm, by omega, by omega⟩
end
end Go.Proofs.YtjefgmeejhakbaaGreatDoor

/- len(m), and the keys of a history. -/
namespace Go.Proofs.YtjefgmeejhakbaaGreatDoor
open Go.RowKit Go.Maps Go.Sort Go.Shelf
theorem IMap.lenEq {w : World} {b n : Nat} {f : Int → Option Value} (h : IMap w b n f) (hs : ∀ a, f a ≠ none → 0 ≤ a ∧ a < 10) {t e : TypeId} (ht : Tryz.prog.underlying t = some (.map 3 e)) (ty : TypeId) :
    (Builtin.len_ #[t] ty #[.map (some b)]).run Tryz.prog w = .ok (.int .i64 ((keysOf f).length : Nat)) w := by
  have h10 := h.upTo 10 hs
  obtain ⟨D0, hown, h2⟩ := h10
  have hc : CollectedI D0 (fun _ => false) (keysOf f) := ⟨keysOf_nodup f, fun x => by rw [mem_keysOf hs, (h2 x).1]; simp⟩
  have hperm0 := hc.perm hown lawI Tryz.underlying3 (fun _ => rfl)
  rw [hown.len ht ty, hperm0.length_eq]
  obtain ⟨es, clock, hb, F, hs, rfl⟩ := hown
  simp [intKeys, Maps.size_eq]
theorem opsV_get : ∀ (l : List (Int × Int × Bool × Int)) (j : Nat) (o : Int × Int × Bool × Int), l[j]? = some o → (opsV l)[j * 4]? = some (.int .i64 o.1) ∧ (opsV l)[j * 4 + 1]? = some (.int .i64 o.2.1) ∧ (opsV l)[j * 4 + 2]? = some (.bool o.2.2.1) ∧ (opsV l)[j * 4 + 3]? = some (.int .i64 o.2.2.2)
  | [], j, o, h => by simp at h
  | p :: r, 0, o, h => by simp at h; subst h; simp [opsV]
  | p :: r, j + 1, o, h => by
    have := opsV_get r j o (by simpa using h)
    simp only [opsV, show (j + 1) * 4 = j * 4 + 4 by omega, show j * 4 + 4 + 1 = j * 4 + 1 + 4 by omega, show j * 4 + 4 + 2 = j * 4 + 2 + 4 by omega, show j * 4 + 4 + 3 = j * 4 + 3 + 4 by omega, List.getElem?_cons_succ]
    exact this
theorem hist_keys {E : Eng} {o : Int × Int × Bool × Int} (h : o ∈ histP E) (hw : o.2.2.1 = true) : 0 ≤ o.2.1 ∧ o.2.1 < 10 := by
  unfold histP histTo at h
  obtain ⟨i, _, h⟩ := List.mem_flatMap.1 h
  cases ht : E.txs[i]? with
  | none => rw [ht] at h; cases h
  | some t =>
    rw [ht] at h
    rcases List.mem_append.1 h with h | h
    · unfold readOps at h
      obtain ⟨p, _, rfl⟩ := List.mem_map.1 h
      cases hw
    · obtain ⟨p, hp, rfl⟩ := List.mem_map.1 h
      unfold writesP at hp
      obtain ⟨k, hk, rfl⟩ := List.mem_map.1 hp
      exact mem_keysP.1 (List.mem_filter.1 hk).1
theorem lastH_take {l : List (Int × Int × Bool × Int)} {i : Nat} {o : Int × Int × Bool × Int} (h : l[i]? = some o) : lastH (l.take (i + 1)) = if o.2.2.1 = true then updT (lastH (l.take i)) o.2.1 (some o.1) else lastH (l.take i) := by
  rw [List.take_add_one, h]
  exact lastH_snoc _ _
theorem keysOf_mapI (f : Int → Option Int) : keysOf (fun k => (f k).map (Value.int .i64)) = keysOf f := keysOf_map f
end Go.Proofs.YtjefgmeejhakbaaGreatDoor
