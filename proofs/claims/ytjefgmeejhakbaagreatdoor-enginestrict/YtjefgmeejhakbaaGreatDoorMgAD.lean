/- RowBase KtPost KtRanP KtLastP KtMapL OrWritten OrCompact: put together for a claim. -/
import Derived.Test.YtjefgmeejhakbaaGreatDoorCards
import Derived.Test.YtjefgmeejhakbaaGreatDoorTie
import Derived.Test.YtjefgmeejhakbaaGreatDoorMgAA
import Derived.Test.YtjefgmeejhakbaaGreatDoorMgAC
import Derived.ProofKit
import Derived.OpenShut
import Derived.Carry
import Derived.Deep.Slices
import Derived.Deep.SlicePairs
import Derived.Deep.DeepHandedRow
import Derived.LaidLaws
import Derived.LaidHandle
import Derived.Test.YtjefgmeejhakbaaGreatDoorMgAV
import Derived.Test.YtjefgmeejhakbaaGreatDoorMgAW
import Derived.Test.YtjefgmeejhakbaaGreatDoorMgAS
import Derived.Test.YtjefgmeejhakbaaGreatDoorEnHist
import Derived.Test.YtjefgmeejhakbaaGreatDoorMgAO
import Derived.Deep.MidRow
import Derived.Lib.SliceRun
import Derived.Laws.StructEq
/- What the rows share: the listed variable. -/
namespace Go.Proofs.YtjefgmeejhakbaaGreatDoor
open Go.ChangeShapes Go.WideShapes Go.ChangeAt Go.RowKit

theorem tryd_own : ownKnob Tryz.prog.godebug = none := by kernel_rfl
theorem tryd_laidOut : laidOutB Tryz.prog = true := by kernel_rfl
theorem tryd_et : Tryz.prog.globalNamed "errors.errorType" = some 0 := by kernel_rfl
theorem tryd_rt : (Tryz.prog.cutTypes.find? (·.1 == "internal/reflectlite.rtype")).map (·.2) = some 263 := by kernel_rfl
theorem tryd_oneRow : ((List.range 364).filter fun t => Tryz.prog.rowNamed t [101, 114, 114, 111, 114]) = [33] := by kernel_rfl
theorem tryd_size : Tryz.prog.types.size = 364 := by kernel_rfl

theorem handle_of_laid {W : World} (h : laidMetH Tryz.prog [("errors.errorType", Rows.laid_errors_errorType)] W) : Handle W := by
  have h' : laidMet Tryz.prog [] W ∧ handlesMet Tryz.prog [("errors.errorType", Rows.laid_errors_errorType)] W := h
  obtain ⟨name, u, ty, e1, e2, e3, e4, e5⟩ := h'.2 _ (List.mem_singleton.2 rfl)
  have en : name = [101, 114, 114, 111, 114] := (Option.some.inj e1).symm
  subst en
  obtain rfl := Option.some.inj (tryd_rt.symm.trans e2)
  have hm : ty ∈ (List.range 364).filter fun t => Tryz.prog.rowNamed t [101, 114, 114, 111, 114] := List.mem_filter.2 ⟨List.mem_range.2 (by rw [← tryd_size]; exact e3), e4⟩
  rw [tryd_oneRow] at hm
  obtain rfl := List.mem_singleton.1 hm
  have hh : typeHandle Tryz.prog 33 = .pointer (some ⟨1, 33, none⟩) := by kernel_rfl
  rw [hh] at e5
  simpa [Handle] using World.var?_cell tryd_et e5 0

theorem tryd_cells3 : Tryz.prog.cellsOf 3 = 1 := by kernel_rfl

theorem addr_plain {w : World} {a : Addr} {v : Value} (h : w.cell? (a.add 0) = some v) : ∃ b off, a = ⟨b, off, none⟩ := by
  obtain ⟨b, off, sp⟩ := a
  cases sp with
  | none => exact ⟨b, off, rfl⟩
  | some s =>
    exfalso
    simp only [Addr.add, if_true, World.cell?, Option.isSome_some] at h
    split at h <;> simp at h
theorem i64_of_wf {a : Int} (h : (Lit.int .i64 a).wf = true) : I64 a := by
  simp [Lit.wf, IntKind.min, IntKind.max, IntKind.signed, IntKind.bits] at h
  unfold I64
  omega

end Go.Proofs.YtjefgmeejhakbaaGreatDoor

/- An engine that was turned, beside its tale; that there is an end to each call. -/
namespace Go.Proofs.YtjefgmeejhakbaaGreatDoor
open Go.RowKit

theorem TaleAt.post {w0 : Gr} {w w' : World} {L : EnL} {E E' : Eng} {TL : TalL} {t : Tal} (h : TaleAt w0 w L E TL t) (hp : EnPost L E' w w') : ∃ L', TaleAt w0 w' L' E' TL t ∧ L'.s = L.s ∧ E'.txs.length = E.txs.length := by
  obtain ⟨L', hE, hK, hs, hb⟩ := hp
  have hl : E'.txs.length = E.txs.length := by
    rw [← hE.len, ← h.en.len]
    have := congrArg List.length hb
    simpa [EnL.bs] using this
  exact ⟨L', h.engine hE hK hs hl, hs, hl⟩
theorem row_post {w w' : World} {L : EnL} {E' : Eng} {base sz n : Nat} {T : TypeId} {v : Value} {xs : List Value} (hp : EnPost L E' w w') (h : w.ownsRow base T sz v n xs) (hn : ∀ g, v.ownBlock = some g → ¬ L.own g) : w'.ownsRow base T sz v n xs := by
  obtain ⟨L', _, hK, _, _⟩ := hp
  exact owns_same h (fun g hg => hK.block g (owns_lt h hg) (hn g hg))
theorem TaleAt.handle {w0 : Gr} {w : World} {L : EnL} {E : Eng} {TL : TalL} {t : Tal} (h : TaleAt w0 w L E TL t) (hg : Handle w0.w ∧ w0.P 0) : Handle w := h.cell hg.2 hg.1
section
variable {E : Eng} {i : Nat} {u : Tx}
theorem commit_ends (hM : Mid0 E) (hu : E.txs[i]? = some u) (hs : u.state = 0) : ∃ R, commitE 7 E i = some R := by
  have hl : liveB u.state = true := live_iff.2 (.inl hs)
  by_cases hb : Between u.ahead u.behind
  · obtain ⟨E', h, _⟩ := commit_bad (goes_true 0 (fun _ => none)) hM hu hl hb trivial
    exact ⟨_, h⟩
  · obtain ⟨E', h, _⟩ := commit_ok (goes_true 0 (fun _ => none)) hM hu hl hb trivial
    exact ⟨_, h⟩
theorem abort_ends (hM : Mid0 E) (hu : E.txs[i]? = some u) (hl : liveB u.state = true) : ∃ E', endF 7 (loseE E i 0) i 3 = some E' := by
  obtain ⟨E', h, _⟩ := lose_ok (goes_true 0 (fun _ => none)) hM hu hl trivial
  exact ⟨_, h⟩
theorem read_ends (hM : Mid0 E) (hu : E.txs[i]? = some u) (hs : u.state = 0) {key : Int} (hk : 0 ≤ key ∧ key < 10) : ∃ R, readE 7 E i key = some R ∧ (R.1.2 = 0 ∨ R.1.2 = 8 ∨ R.1.2 = 13) := by
  cases hv : u.vals key with
  | some v =>
    refine ⟨((v, 0), E), ?_, .inl rfl⟩
    unfold readE
    rw [hu]
    simp only
    rw [hv]
  | none =>
    obtain ⟨R, h, _, _, h3, _⟩ := read_ok (goes_true 0 (fun _ => none)) hM hu hs hk hv (fun _ => trivial) (fun _ _ _ => trivial) (fun _ _ _ => trivial)
    refine ⟨R, h, ?_⟩
    rcases h3 with ⟨h3, _⟩ | h3
    · rw [h3]
      unfold verP
      split
      · exact .inl rfl
      · exact .inr (.inl rfl)
    · rw [h3]
      exact .inr (.inr rfl)
theorem write_ends (hM : Mid0 E) (hu : E.txs[i]? = some u) (hs : u.state = 0) {key val : Int} (hk : 0 ≤ key ∧ key < 10) (hv : -1099511627776 ≤ val ∧ val ≤ 1099511627776) {q : Int → Nat} (hq : Ranked E.T q) : ∃ R, writeE 7 q E i key val = some R := by
  obtain ⟨R, h, _⟩ := write_ok (goes_true 0 (fun _ => none)) hM hu hs hk hv hq trivial trivial (fun _ _ _ _ => trivial) (fun _ _ _ _ _ _ => trivial)
  exact ⟨R, h⟩
end
theorem read_any {w : World} {L : EnL} {E : Eng} (h : EnAt w L E) (hg : Handle w) (hM : Mid0 E) (hrd : ∀ u ∈ E.txs, u.reads.length ≤ 100000) {i : Nat} {u : Tx} (hu : E.txs[i]? = some u) (hs : u.state = 0) {key : Int} (hk : 0 ≤ key ∧ key < 10) {R : (Int × Int) × Eng} (hR : readE 7 E i key = some R) :
    Calls Tryz.prog 52 #[.pointer (some ⟨L.s, 0, none⟩), .int .i64 ((i : Int) + 1), .int .i64 key] w fun e w' => e = .returned (.tuple #[.int .i64 R.1.1, errV R.1.2]) ∧ EnPost L R.2 w w' := by
  obtain ⟨l, hl, _⟩ := h.get hu
  cases hv : u.vals key with
  | some v =>
    have e : R = ((v, 0), E) := by
      unfold readE at hR
      rw [hu] at hR
      simp only at hR
      rw [hv] at hR
      injection hR with hR
      exact hR.symm
    subst e
    refine (read_own h hl hu hs (by unfold I64; omega) hv).mono ?_
    rintro e w' ⟨rfl, hw⟩
    rw [hw]
    exact ⟨rfl, L, h, KeptO.refl _ _, rfl, rfl⟩
  | none =>
    obtain ⟨k, rfl⟩ : ∃ k : Nat, key = k := ⟨key.toNat, by omega⟩
    exact read_main h hg hM.fits hl hu hs (by have := hrd u (List.mem_of_getElem? hu); omega) (hM.open_wr hu (live_iff.2 (.inl hs))) (by omega) hv hR

end Go.Proofs.YtjefgmeejhakbaaGreatDoor

/- Plain: keep's fact: two that write what the other one read. -/
namespace Go.Proofs.YtjefgmeejhakbaaGreatDoor

noncomputable def rA : Eng := { eng0 with txs := [] ++ [newTx 2 0] }
noncomputable def rB : Eng := { rA with txs := rA.txs ++ [newTx 2 0] }
noncomputable def rC : Eng := ((readE 7 rB 0 1).map (·.2)).getD eng0
noncomputable def rD : Eng := ((readE 7 rC 1 2).map (·.2)).getD eng0
noncomputable def rF : Eng := ((writeE 7 (fun _ => 0) rD 0 2 5).map (·.2)).getD eng0
noncomputable def rG : Eng := ((writeE 7 (fun _ => 0) rF 1 1 6).map (·.2)).getD eng0
set_option maxRecDepth 100000
theorem rC_eq : readE 7 rB 0 1 = some ((0, 8), rC) := rfl
theorem rD_eq : readE 7 rC 1 2 = some ((0, 8), rD) := rfl
theorem rF_eq : writeE 7 (fun _ => 0) rD 0 2 5 = some ((true, 0), rF) := rfl
theorem rG_eq : writeE 7 (fun _ => 0) rF 1 1 6 = some ((true, 0), rG) := rfl
noncomputable def rH : Eng := (endF 7 (loseE rG 0 13) 0 3).getD eng0
noncomputable def rI : Eng := (endF 7 { (installE rH 1) with com := rH.com ++ [1] } 1 2).getD eng0
theorem rH_eq : commitE 7 rG 0 = some (13, rH) := by
  obtain ⟨t, ht, ha, hb⟩ : ∃ t, rG.txs[0]? = some t ∧ t.ahead 2 = true ∧ t.behind 2 = true := ⟨_, rfl, rfl, rfl⟩
  have h1 : endF 7 (loseE rG 0 13) 0 3 = some rH := rfl
  unfold commitE
  rw [ht]
  simp only
  rw [if_pos (betB_true.2 ⟨⟨2, ha⟩, ⟨2, hb⟩⟩), h1]
  rfl
theorem rI_eq : commitE 7 rH 1 = some (0, rI) := by
  obtain ⟨t, ht, ha⟩ : ∃ t, rH.txs[1]? = some t ∧ ∀ x, t.ahead x = ((false || x == 1) && x != 1) := ⟨_, rfl, fun _ => rfl⟩
  have h1 : endF 7 { (installE rH 1) with com := rH.com ++ [1] } 1 2 = some rI := rfl
  unfold commitE
  rw [ht]
  simp only
  rw [if_neg (by
    rw [betB_false]
    · simp
    · rintro ⟨⟨x, hx⟩, _⟩
      rw [ha] at hx
      simp at hx), h1]
  rfl
theorem rI_last : rI.last = 1 := rfl
theorem rA_mid : Mid0 rA := mid0_eng0.begin (level := 2) (.inr (.inr rfl)) (by decide) (by decide)
theorem rB_mid : Mid0 rB := rA_mid.begin (level := 2) (.inr (.inr rfl)) (by decide) (by decide)
theorem rB_rd : ∀ u ∈ rB.txs, u.reads.length ≤ 0 := fun u hu => by
  have : u = newTx 2 0 := by
    rcases List.mem_cons.1 (show u ∈ [newTx 2 0, newTx 2 0] from hu) with h | h
    · exact h
    · exact List.mem_singleton.1 h
  rw [this]
  exact Nat.le_refl _
theorem rC_went : Went rB rC 1 := went_read rB_mid rB_rd (i := 0) (u := newTx 2 0) rfl rfl (by decide) rC_eq
theorem rD_went : Went rC rD 2 := by
  obtain ⟨u, hu, hs⟩ : ∃ u, rC.txs[1]? = some u ∧ u.state = 0 := ⟨_, rfl, rfl⟩
  exact went_read rC_went.mid rC_went.rd hu hs (by decide) rD_eq
theorem rD_rank : Ranked rD.T (fun _ => 0) := fun k x h => (by cases h)
theorem rF_went : Went rD rF 2 := by
  obtain ⟨u, hu, hs⟩ : ∃ u, rD.txs[0]? = some u ∧ u.state = 0 := ⟨_, rfl, rfl⟩
  exact went_write rD_went.mid rD_went.rd hu hs (by decide) (by decide) rD_rank rF_eq
theorem rF_rank : Ranked rF.T (fun _ => 0) := fun k x h => by
  have e : rF.T = updT (fun _ => []) 2 [1] := rfl
  rw [e] at h
  unfold updT at h
  split at h <;> cases h
theorem rG_went : Went rF rG 2 := by
  obtain ⟨u, hu, hs⟩ : ∃ u, rF.txs[1]? = some u ∧ u.state = 0 := ⟨_, rfl, rfl⟩
  exact went_write rF_went.mid rF_went.rd hu hs (by decide) (by decide) rF_rank rG_eq
theorem rH_went : Went rG rH 2 := by
  obtain ⟨u, hu, hs⟩ : ∃ u, rG.txs[0]? = some u ∧ u.state = 0 := ⟨_, rfl, rfl⟩
  exact (went_commit rG_went.mid rG_went.rd hu hs rH_eq).1

end Go.Proofs.YtjefgmeejhakbaaGreatDoor

/- Plain: the last one of each key, by the history. -/
namespace Go.Proofs.YtjefgmeejhakbaaGreatDoor
def lastH (l : List (Int × Int × Bool × Int)) : Int → Option Int := l.foldl (fun f o => if o.2.2.1 = true then updT f o.2.1 (some o.1) else f) (fun _ => none)
theorem lastH_snoc (l : List (Int × Int × Bool × Int)) (o : Int × Int × Bool × Int) : lastH (l ++ [o]) = if o.2.2.1 = true then updT (lastH l) o.2.1 (some o.1) else lastH l := by
  unfold lastH
  rw [List.foldl_append]
  rfl
theorem lastH_reads (l : List (Int × Int × Bool × Int)) (n : Int) (r : List (Int × Int)) : lastH (l ++ readOps n r) = lastH l := by
  unfold lastH
  rw [List.foldl_append]
  generalize List.foldl (fun f o => if o.2.2.1 = true then updT f o.2.1 (some o.1) else f) (fun _ => none) l = f
  induction r generalizing f with
  | nil => rfl
  | cons p r ih => exact ih f
theorem lastH_keys (l : List (Int × Int × Bool × Int)) (n : Int) (V : Int → Option Int) : ∀ (ks : List Int) (k : Int), lastH (l ++ (ks.map (fun k => (k, (V k).getD 0))).map (fun p => (n, p.1, true, (0 : Int)))) k = if k ∈ ks then some n else lastH l k := by
  intro ks
  unfold lastH
  rw [List.foldl_append]
  generalize List.foldl (fun f o => if o.2.2.1 = true then updT f o.2.1 (some o.1) else f) (fun _ => none) l = f
  induction ks generalizing f with
  | nil => intro k; simp
  | cons a r ih =>
    intro k
    have := ih (updT f a (some n)) k
    simp only [List.map_cons, List.foldl_cons, if_true] at this ⊢
    rw [this]
    by_cases e : k = a
    · subst e
      by_cases hk : k ∈ r
      · simp [hk]
      · simp [hk, updT_same]
    · by_cases hk : k ∈ r
      · simp [hk]
      · simp [hk, e, updT_other _ _ e]
theorem lastH_hist {a0 : Int} {K0 : Int → Option Int} {E : Eng} {Q : Nat → Prop} (h : Mid a0 K0 E.ce Q) : ∀ (j : Nat) (k : Int), j ≤ E.com.length → lastH (histTo E j) k = (lastW E.ce.v (E.com.take j) k).map (fun (i : Nat) => (i : Int) + 1)
  | 0, k, _ => by simp [histTo, lastH, lastW]
  | j + 1, k, hj => by
    have hi : E.com[j]? = some E.com[j] := List.getElem?_eq_getElem (by omega)
    obtain ⟨c, hc, _⟩ := (h.com.coms E.com[j]).1 (show E.com[j] ∈ E.com from List.getElem_mem _)
    obtain ⟨t, ht, rfl⟩ := cs_of hc
    have hvk := (h.reg.fair _ _ hc).vk
    rw [histTo_step hi ht, List.take_add_one, hi]
    simp only [Option.toList_some]
    rw [lastW_snoc, histOf, ← List.append_assoc]
    unfold writesP
    rw [lastH_keys, lastH_reads, lastH_hist h j k (by omega), CE.v_some hc]
    have hm := mem_keysOf (f := t.vals) hvk k
    by_cases hs : (t.vals k).isSome = true
    · rw [if_pos (hm.2 hs)]
      show _ = Option.map _ (if ((cor t).vals k).isSome = true then _ else _)
      rw [if_pos (show ((cor t).vals k).isSome = true from hs)]
      rfl
    · rw [if_neg (fun hc => hs (hm.1 hc))]
      show _ = Option.map _ (if ((cor t).vals k).isSome = true then _ else _)
      rw [if_neg (show ¬ ((cor t).vals k).isSome = true from hs)]
theorem allK_fst (f : Nat → Option (Int × Int)) : ∀ m : Nat, (allK f m).length = ((List.range m).filter (fun k => (f k).isSome)).length
  | 0 => rfl
  | m + 1 => by
    rw [allK, List.length_append, allK_fst f m, List.range_succ, List.filter_append, List.length_append]
    congr 1
    cases h : f m <;> simp [h]
theorem keysOf_range {α : Type} (f : Int → Option α) : (keysOf f).length = ((List.range 10).filter (fun (k : Nat) => (f (k : Int)).isSome)).length := by
  unfold keysOf
  have : keysP = (List.range 10).map (fun (k : Nat) => (k : Int)) := rfl
  rw [this, List.filter_map, List.length_map]
  rfl
theorem allK_mem (f : Nat → Option (Int × Int)) : ∀ (m : Nat) (k x : Int), (k, x) ∈ allK f m → ∃ j : Nat, j < m ∧ k = j ∧ (f j).map (·.2) = some x
  | 0, k, x, h => by cases h
  | m + 1, k, x, h => by
    rw [allK] at h
    rcases List.mem_append.1 h with h | h
    · obtain ⟨j, h1, h2, h3⟩ := allK_mem f m k x h
      exact ⟨j, by omega, h2, h3⟩
    · cases hf : f m with
      | none => rw [hf] at h; cases h
      | some p =>
        rw [hf] at h
        simp only [List.mem_singleton, Prod.mk.injEq] at h
        exact ⟨m, by omega, h.1, by rw [hf, h.2]; rfl⟩
section
variable {E : Eng} {Q : Nat → Prop}
theorem all_count (h : Mid 0 (fun _ => none) E.ce Q) : (allE E).length = (keysOf (lastH (histP E))).length := by
  unfold allE
  rw [allK_fst, keysOf_range]
  congr 1
  refine List.filter_congr (fun k hk => ?_)
  have hk := List.mem_range.1 hk
  have h1 := h.now hk
  unfold histP
  rw [lastH_hist h _ _ (Nat.le_refl _), List.take_length]
  cases hl : lastW E.ce.v E.com k with
  | none =>
    rw [hl] at h1
    cases hr : rdP E.last (E.ks[k]?.getD []) with
    | none => rfl
    | some p => rw [hr] at h1; cases h1
  | some i =>
    rw [hl] at h1
    have h2 := (lastW_some hl).2
    cases hr : rdP E.last (E.ks[k]?.getD []) with
    | none =>
      rw [hr] at h1
      simp only [Option.map_none, Option.bind_some] at h1
      rw [← h1] at h2
      cases h2
    | some p => rfl
theorem lastH_keys_in (h : Mid 0 (fun _ => none) E.ce Q) (k : Int) (hk : lastH (histP E) k ≠ none) : 0 ≤ k ∧ k < 10 := by
  unfold histP at hk
  rw [lastH_hist h _ _ (Nat.le_refl _), List.take_length] at hk
  cases hl : lastW E.ce.v E.com k with
  | none => rw [hl] at hk; exact (hk rfl).elim
  | some i =>
    obtain ⟨h1, h2⟩ := lastW_some hl
    obtain ⟨c, hc, _⟩ := (h.com.coms i).1 h1
    rw [CE.v_some hc] at h2
    exact (h.reg.fair i c hc).vk k (fun e => by rw [e] at h2; cases h2)
theorem all_each (h : Mid 0 (fun _ => none) E.ce Q) {k x : Int} (hx : (k, x) ∈ allE E) : ∃ (i : Nat) (t : Tx), lastH (histP E) k = some ((i : Int) + 1) ∧ E.txs[i]? = some t ∧ t.state = 2 ∧ t.vals k = some x ∧ 0 ≤ k ∧ k < 10 := by
  obtain ⟨j, hj, rfl, hv⟩ := allK_mem _ _ _ _ hx
  have h1 := h.now hj
  rw [hv] at h1
  unfold histP
  rw [lastH_hist h _ _ (Nat.le_refl _), List.take_length]
  cases hl : lastW E.ce.v E.com j with
  | none => rw [hl] at h1; cases h1
  | some i =>
    rw [hl] at h1
    obtain ⟨h2, _⟩ := lastW_some hl
    obtain ⟨c, hc, hs⟩ := (h.com.coms i).1 h2
    obtain ⟨t, ht, rfl⟩ := cs_of hc
    simp only [Option.bind_some] at h1
    rw [CE.v_some hc] at h1
    exact ⟨i, t, rfl, ht, hs, h1.symm, by omega, by omega⟩
end
end Go.Proofs.YtjefgmeejhakbaaGreatDoor

/- len(m), and the keys of a history. -/
namespace Go.Proofs.YtjefgmeejhakbaaGreatDoor
open Go.RowKit Go.Maps Go.Sort Go.Shelf

theorem IMap.lenEq {w : World} {b n : Nat} {f : Int → Option Value} (h : IMap w b n f) (hs : ∀ a, f a ≠ none → 0 ≤ a ∧ a < 10) {t e : TypeId} (ht : Tryz.prog.underlying t = some (.map 3 e)) (ty : TypeId) :
    (Builtin.len_ #[t] ty #[.map (some b)]).run Tryz.prog w = .ok (.int .i64 ((keysOf f).length : Nat)) w := by
  have h10 := h.upTo 10 hs
  obtain ⟨D0, hown, h2⟩ := h10
  have hc : CollectedI D0 (fun _ => false) (keysOf f) := ⟨keysOf_nodup f, fun x => by rw [mem_keysOf hs, (h2 x).1]; simp⟩
  have hperm0 := hc.perm hown lawI Tryz.underlying3 (fun _ => rfl)
  rw [hown.len ht ty, hperm0.length_eq]
  obtain ⟨es, clock, hb, F, hs, rfl⟩ := hown
  simp [intKeys, Maps.size_eq]

theorem opsV_get : ∀ (l : List (Int × Int × Bool × Int)) (j : Nat) (o : Int × Int × Bool × Int), l[j]? = some o → (opsV l)[j * 4]? = some (.int .i64 o.1) ∧ (opsV l)[j * 4 + 1]? = some (.int .i64 o.2.1) ∧ (opsV l)[j * 4 + 2]? = some (.bool o.2.2.1) ∧ (opsV l)[j * 4 + 3]? = some (.int .i64 o.2.2.2)
  | [], j, o, h => by simp at h
  | p :: r, 0, o, h => by simp at h; subst h; simp [opsV]
  | p :: r, j + 1, o, h => by
    have := opsV_get r j o (by simpa using h)
    simp only [opsV, show (j + 1) * 4 = j * 4 + 4 by omega, show j * 4 + 4 + 1 = j * 4 + 1 + 4 by omega, show j * 4 + 4 + 2 = j * 4 + 2 + 4 by omega, show j * 4 + 4 + 3 = j * 4 + 3 + 4 by omega, List.getElem?_cons_succ]
    exact this

theorem hist_keys {E : Eng} {o : Int × Int × Bool × Int} (h : o ∈ histP E) (hw : o.2.2.1 = true) : 0 ≤ o.2.1 ∧ o.2.1 < 10 := by
  unfold histP histTo at h
  obtain ⟨i, _, h⟩ := List.mem_flatMap.1 h
  cases ht : E.txs[i]? with
  | none => rw [ht] at h; cases h
  | some t =>
    rw [ht] at h
    rcases List.mem_append.1 h with h | h
    · unfold readOps at h
      obtain ⟨p, _, rfl⟩ := List.mem_map.1 h
      cases hw
    · obtain ⟨p, hp, rfl⟩ := List.mem_map.1 h
      unfold writesP at hp
      obtain ⟨k, hk, rfl⟩ := List.mem_map.1 hp
      exact mem_keysP.1 (List.mem_filter.1 hk).1

theorem lastH_take {l : List (Int × Int × Bool × Int)} {i : Nat} {o : Int × Int × Bool × Int} (h : l[i]? = some o) : lastH (l.take (i + 1)) = if o.2.2.1 = true then updT (lastH (l.take i)) o.2.1 (some o.1) else lastH (l.take i) := by
  rw [List.take_add_one, h]
  exact lastH_snoc _ _

theorem keysOf_mapI (f : Int → Option Int) : keysOf (fun k => (f k).map (Value.int .i64)) = keysOf f := keysOf_map f

end Go.Proofs.YtjefgmeejhakbaaGreatDoor

/- order.written. -/
namespace Go.Proofs.YtjefgmeejhakbaaGreatDoor
open Go.RowKit

theorem below_drew {B : Nat} {a w : World} (h : Below B a w) : Below B a w.drew := below_drewN h 1

def wrTo (l : List Opp) (j : Nat) : Nat → List Int := fun k => writersP (l.take j) (k : Nat)
theorem wrTo_zero (l : List Opp) : wrTo l 0 = fun _ => [] := rfl
theorem wrTo_step {l : List Opp} {j : Nat} {o : Opp} (h : l[j]? = some o) (k : Nat) : wrTo l (j + 1) k = wStep (k : Nat) (wrTo l j k) o := by
  unfold wrTo writersP
  rw [List.take_add_one, h]
  simp [List.foldl_append]
theorem wrTo_read {l : List Opp} {j : Nat} {o : Opp} (h : l[j]? = some o) (hr : o.2.2.1 = false) : wrTo l (j + 1) = wrTo l j := by
  funext k
  rw [wrTo_step h, wStep, if_neg (by simp [hr])]
theorem wrTo_write {l : List Opp} {j : Nat} {o : Opp} (h : l[j]? = some o) (hr : o.2.2.1 = true) {kk : Nat} (hk : o.2.1 = (kk : Nat)) : wrTo l (j + 1) = updN (wrTo l j) kk (wAdd (wrTo l j kk) o.1) := by
  funext k
  rw [wrTo_step h, wStep]
  by_cases e : k = kk
  · subst e
    rw [updN_same, wAdd]
    by_cases hl : (wrTo l j k).getLast? = some o.1
    · rw [if_neg (by simp [hl]), if_pos hl]
    · rw [if_pos ⟨hr, hk, hl⟩, if_neg hl]
  · rw [updN_other _ _ e, if_neg]
    rintro ⟨_, h2, _⟩
    omega
theorem wrTo_all (l : List Opp) : wrTo l l.length = fun k => writersP l (k : Nat) := by unfold wrTo; rw [List.take_length]
theorem wrTo_len (l : List Opp) (j k : Nat) : (wrTo l j k).length ≤ l.length := Nat.le_trans (writers_len _ _) (by simp; omega)

theorem keyCells_zero : keyCells (fun _ => .slice none 0 0) (fun _ => none) = #[.slice none 0 0, .map none, .slice none 0 0, .map none, .slice none 0 0, .map none, .slice none 0 0, .map none, .slice none 0 0, .map none, .slice none 0 0, .map none, .slice none 0 0, .map none, .slice none 0 0, .map none, .slice none 0 0, .map none, .slice none 0 0, .map none] := by rfl
theorem KeysAt.zero {w : World} {K : Nat} (h : w.heap[K]? = some (.cells (keyCells (fun _ => .slice none 0 0) (fun _ => none)) 133 (0, 0))) : KeysAt w K (fun _ => .slice none 0 0) (fun _ => none) (fun _ => []) :=
  ⟨h, fun _ _ => World.ownsRow_nil _ _ _ _, fun _ _ => .inl ⟨rfl, fun _ => rfl⟩, fun _ _ => ⟨fun _ => rfl, fun _ => rfl⟩, (fun _ _ _ _ _ h => by cases h), (fun _ _ _ _ _ h => by cases h)⟩

theorem heap_setCell_self {w : World} {b i : Nat} {cs : Array Value} {t : TypeId} {v : Value} (hb : w.heap[b]? = some (.cells cs t (0, 0))) (hv : cs[i]? = some v) : (w.setCell ⟨b, i, none⟩ v).heap[b]? = some (.cells cs t (0, 0)) := by
  rw [heap_setCell_same w b i cs t v hb]
  congr 2
  apply Array.ext_getElem?
  intro k
  rw [Array.getElem?_setIfInBounds]
  by_cases e : i = k
  · subst e
    obtain ⟨hi, _⟩ := Array.getElem?_eq_some_iff.1 hv
    rw [if_pos rfl, if_pos hi, hv]
  · rw [if_neg e]
theorem heap_setCells_self {b : Nat} {cs : Array Value} {t : TypeId} : ∀ (vs : List Value) (o : Nat) (w : World), w.heap[b]? = some (.cells cs t (0, 0)) → (∀ j v, vs[j]? = some v → cs[o + j]? = some v) → (w.setCells b o vs).heap[b]? = some (.cells cs t (0, 0))
  | [], _, _, h, _ => h
  | v :: r, o, w, h, hv => by
    rw [World.setCells]
    exact heap_setCells_self r (o + 1) _ (heap_setCell_self h (hv 0 v rfl)) (fun j u hu => by have := hv (j + 1) u (by simpa using hu); rwa [show o + 1 + j = o + (j + 1) by omega])
theorem below_setCells {B b : Nat} {a : World} (hb : B ≤ b) : ∀ (vs : List Value) (o : Nat) (w : World), Below B a w → Below B a (w.setCells b o vs)
  | [], _, _, h => h
  | v :: r, o, w, h => by
    rw [World.setCells]
    exact below_setCells hb r (o + 1) _ (h.setCell (p := ⟨b, o, none⟩) hb _)
theorem heap_setCells_ne {b c : Nat} (hc : c ≠ b) : ∀ (vs : List Value) (o : Nat) (w : World), (w.setCells b o vs).heap[c]? = w.heap[c]?
  | [], _, _ => rfl
  | v :: r, o, w => by
    rw [World.setCells, heap_setCells_ne hc r]
    exact heap_setCell_other w ⟨b, o, none⟩ c v hc
theorem one_of_get {C : Array Value} {f : Nat → Value} (h : ∀ i, C[i]? = if i < 20 then some (f i) else none) (hf : ∀ i, i < 20 → (f i).oneCell' = true) : ∀ v ∈ C.toList, v.oneCell' = true := by
  intro v hv
  obtain ⟨i, hi, e⟩ := List.getElem_of_mem hv
  have h1 : C[i]? = some v := by rw [← Array.getElem?_toList, List.getElem?_eq_getElem hi, e]
  rw [h i] at h1
  by_cases hl : i < 20
  · rw [if_pos hl] at h1; cases h1; exact hf i hl
  · rw [if_neg hl] at h1; cases h1
theorem keyCells_one {w : World} {K : Nat} {av : Nat → Value} {mv : Nat → Option Nat} {S : Nat → List Int} (h : KeysAt w K av mv S) : ∀ v ∈ (keyCells av mv).toList, v.oneCell' = true :=
  one_of_get (keyCells_get av mv) (fun i hi => by
    by_cases e2 : i % 2 = 0
    · rw [if_pos e2]
      obtain ⟨ad, c, e3⟩ := row_form (h.row (i / 2) (by omega))
      rw [e3]; rfl
    · rw [if_neg e2]; rfl)

set_option maxRecDepth 100000 in
set_option maxHeartbeats 600000 in
theorem written_any (ad : Option Addr) (cap : Nat) (l : List Opp) (w : World) (hn : l.length ≤ 10000) (hO : OpsAt w ad l) (hf : ∀ o ∈ l, opBad o = false) :
    Calls Tryz.prog 60 #[.slice ad l.length cap] w fun e w' => ∃ K av mv, e = .returned (.agg (keyCells av mv)) ∧ KeysAt w' K av mv (fun k => writersP l (k : Nat)) ∧ (∀ b, keysOwn K av mv b → w.heap.size ≤ b) ∧ Below w.heap.size w w' := by
  have HO := hid hO
  have HF := hid hf
  clear hO hf
  go_enter Tryz.func60, Tryz.ntmps60
  go_wp2
  go_loopw [7] (fun i wr => ∃ (j : Nat) (av : Nat → Value) (mv : Nat → Option Nat), j ≤ l.length ∧ i = .int .i64 j ∧ KeysAt wr w.heap.size av mv (wrTo l j) ∧ (∀ b, keysOwn w.heap.size av mv b → w.heap.size ≤ b) ∧ Below w.heap.size w wr) (fun i _ => l.length - (intOf i).toNat)
  case atStart =>
    refine ⟨0, fun _ => .slice none 0 0, fun _ => none, Nat.zero_le _, rfl, KeysAt.zero ?_, ?_, ?_⟩
    · exact heap_alloc_new w _
    · rintro b (rfl | ⟨k, _, e | e⟩)
      · exact Nat.le_refl _
      · cases e
      · cases e
    · exact (Below.refl _ _).alloc (Nat.le_refl _) _
  case round =>
    obtain ⟨j, av, mv, hj, rfl, hK, hown, hB⟩ := hrel
    have hBs := hB.size
    by_cases hlt : j < l.length
    · obtain ⟨o, ho⟩ : ∃ o, l[j]? = some o := ⟨l[j], List.getElem?_eq_getElem hlt⟩
      obtain ⟨g, off, rfl, hg, ⟨c0, c1, c2, c3⟩, i0, i1, i2⟩ := HO.out.below hB j o ho
      obtain ⟨b1, b2, b3, b4⟩ := opBad_false (HF.out o (List.mem_of_getElem? ho))
      have hj0 : (0 : Int) ≤ (j : Int) := by omega
      have hj1 : (j : Int) < (l.length : Int) := by omega
      have hA := hB.alloc hBs (.cells #[.int .i64 o.1, .int .i64 o.2.1, .bool o.2.2.1, .int .i64 o.2.2.2] 90)
      have hA1 : Below wr.heap.size wr (wr.alloc (.cells #[.int .i64 o.1, .int .i64 o.2.1, .bool o.2.2.1, .int .i64 o.2.2.2] 90)) := (Below.refl _ _).alloc (Nat.le_refl _) _
      have HA := hid (And.intro hA (And.intro (hK.below hA1) hown))
      have HJ := hid ho
      cases hw : o.2.2.1 with
      | false =>
        have hst := hid (wrTo_read ho hw)
        rw [hw] at c2 HA
        clear hB hK hown ho hA hA1
        go_wp2
        go_roundw
        case rel => exact ⟨j + 1, av, mv, by omega, by go_num, by rw [hst.out]; exact HA.out.2.1, HA.out.2.2, HA.out.1⟩
        case measure => simp [intOf]; omega
      | true =>
        obtain ⟨kk, hkk⟩ : ∃ kk : Nat, o.2.1 = (kk : Nat) := ⟨o.2.1.toNat, by omega⟩
        have hst := hid (wrTo_write ho hw hkk)
        have hk10 : kk < 10 := by omega
        have hkk0 : (0 : Int) ≤ (kk : Int) := by omega
        have hkk1 : (kk : Int) < 10 := by omega
        rw [hw] at c2 HA
        rw [hkk] at c1 HA
        obtain ⟨tx, htx⟩ : ∃ tx, o.1 = tx := ⟨_, rfl⟩
        rw [htx] at c0 HA i0
        have HT := hid htx
        have hX0 := heap_alloc_new wr (.cells #[.int .i64 tx, .int .i64 (kk : Nat), .bool true, .int .i64 o.2.2.2] 90)
        have x0 : (wr.alloc (.cells #[.int .i64 tx, .int .i64 (kk : Nat), .bool true, .int .i64 o.2.2.2] 90)).cell? ⟨wr.heap.size, 0, none⟩ = some (.int .i64 tx) := (cell_of_row _ _ 0 _ _ (0, 0) hX0).trans rfl
        have x1 : (wr.alloc (.cells #[.int .i64 tx, .int .i64 (kk : Nat), .bool true, .int .i64 o.2.2.2] 90)).cell? ⟨wr.heap.size, 1, none⟩ = some (.int .i64 (kk : Nat)) := (cell_of_row _ _ 1 _ _ (0, 0) hX0).trans rfl
        have hlen := wrTo_len l j kk
        have hC := fun q => add_any w.heap.size kk av mv (wrTo l j) tx ((wr.alloc (.cells #[.int .i64 tx, .int .i64 (kk : Nat), .bool true, .int .i64 o.2.2.2] 90)).drewN q) (HA.out.2.1.below (below_drewN (Below.refl _ _) q)) hk10 (by omega) i0
        have HC := hid hC
        have HNX := hid (show ¬ keysOwn w.heap.size av mv wr.heap.size from fun hh => by have := hK.own_lt hh; omega)
        have HXd := hid (show ((wr.alloc (.cells #[.int .i64 tx, .int .i64 (kk : Nat), .bool true, .int .i64 o.2.2.2] 90)).drewN 1).heap[wr.heap.size]? = _ from hX0)
        clear hB hK hown ho hA hA1 hX0 hkk htx hw hC
        go_wp2
        go_region_held3 (fun W => W.cell? ⟨wr.heap.size, 0, none⟩ = some (.int .i64 tx) ∧ W.cell? ⟨wr.heap.size, 1, none⟩ = some (.int .i64 (kk : Nat)))
          (first
            | go_keep
            | exact ⟨y0, y1⟩)
          (first
            | (go_at_call 122
               refine (HC.out 1).mono ?_
               rintro e w2 ⟨rfl, av2, mv2, hK2, hKp2⟩
               have hX2 := (hKp2.block wr.heap.size (by simp) HNX.out).trans HXd.out
               have y0 : w2.cell? ⟨wr.heap.size, 0, none⟩ = some (.int .i64 tx) := (cell_of_row _ _ 0 _ _ (0, 0) hX2).trans rfl
               have y1 : w2.cell? ⟨wr.heap.size, 1, none⟩ = some (.int .i64 (kk : Nat)) := (cell_of_row _ _ 1 _ _ (0, 0) hX2).trans rfl
               have HK2 := hid (And.intro hK2 hKp2)
               clear hK2 hKp2 hX2))
        go_wp2
        go_roundw
        case rel =>
          obtain ⟨hK2, hKp2⟩ := HK2.out
          refine ⟨j + 1, av2, mv2, by omega, by go_num, by rw [hst.out, HT.out]; exact hK2, fun b hb => ?_, ?_⟩
          · rcases hKp2.sub b hb with h | h
            · exact HA.out.2.2 b h
            · simp at h; omega
          · exact HA.out.1.trans (((below_drewN (Below.refl _ _) 1).trans (hKp2.below (by simp; omega) HA.out.2.2)).mono (Nat.le_refl _))
        case measure => simp [intOf]; omega
    · obtain rfl : j = l.length := by omega
      obtain ⟨vs, hvs⟩ : ∃ vs, (keyCells av mv).toList = vs := ⟨_, rfl⟩
      have hvl : vs.length = 20 := by rw [← hvs, Array.length_toList, keyCells_size]
      have hat : ∀ i v, vs[i]? = some v → (keyCells av mv)[i]? = some v := fun i v hv => by rw [← hvs, Array.getElem?_toList] at hv; exact hv
      have hra : wr.rangeAt w.heap.size 0 vs := fun i v hv => by
        rw [Nat.zero_add]
        exact (cell_of_row wr w.heap.size i _ _ (0, 0) hK.blk).trans (hat i v hv)
      have hth : wr.there w.heap.size 0 vs.toArray.size := fun i hi => by
        rw [Nat.zero_add, cell_of_row wr w.heap.size i _ _ (0, 0) hK.blk]
        have hi' : i < vs.length := by simpa using hi
        exact ⟨by rw [hat i _ (List.getElem?_eq_getElem hi')]; rfl, hK.free i⟩
      have hin0 : (Tryz.prog.info? 133).map (·.size) = some 20 := by kernel_rfl
      have hin : (Tryz.prog.info? 133).map (·.size) = some vs.length := by rw [hvl]; exact hin0
      have hin2 : (Tryz.prog.info? 133).map (·.size) = some vs.toArray.size := by rw [List.size_toArray]; exact hin
      have h1 : vs.toArray.all (·.oneCell') = true := all_oneCell_toArray (by rw [← hvs]; exact keyCells_one hK)
      have hb2 := heap_setCells_self vs 0 wr hK.blk (fun i v hv => by rw [Nat.zero_add]; exact hat i v hv)
      have hB2 := below_setCells (Nat.le_refl _) vs 0 wr hB
      have hK2 : KeysAt (wr.setCells w.heap.size 0 vs) w.heap.size av mv (wrTo l l.length) := hK.same (fun b _ => by
        by_cases e : b = w.heap.size
        · rw [e, hb2, hK.blk]
        · exact heap_setCells_ne e vs 0 wr)
      have HK := hid (And.intro hK2 (And.intro hown (And.intro hB2 hb2)))
      have HV := hid hvs
      have HI := hid hin0
      clear hK hown hB hvs hvl hat hin0 hb2 hB2 hK2
      go_wp2_with (first
        | (refine wpList_load_mid (by rfl) 133 _ (by rfl) w.heap.size 0 (by rfl) vs (.array 10 132) hra Tryz.underlying133 rfl hin ?_)
        | (refine wpList_store_mid (by rfl) 133 _ _ (by rfl) w.heap.size 0 vs.toArray (by rfl) (by rfl) hth hin2 h1 ?_))
      refine bodyPost_ret (results_cell_row rfl _ _ w.heap.size 133 (keyCells av mv) (0, 0) (.array 10 132) rfl HK.out.2.2.2 Tryz.underlying133 rfl (by rw [keyCells_size]; exact HI.out)) rfl ?_
      have hfin := HK.out.1
      rw [wrTo_all] at hfin
      exact ⟨w.heap.size, av, mv, rfl, hfin, HK.out.2.1, HK.out.2.2.1⟩

end Go.Proofs.YtjefgmeejhakbaaGreatDoor

/- slices.Compact over twos. -/
namespace Go.Proofs.YtjefgmeejhakbaaGreatDoor
open Go.RowKit

theorem comp_snoc : ∀ (l : List (Int × Int)) (a b : Int × Int), compP (l ++ [a, b]) = if a = b then compP (l ++ [a]) else compP (l ++ [a]) ++ [b]
  | [], a, b => by by_cases e : a = b <;> simp [compP, e]
  | [x], a, b => by
    simp only [List.cons_append, List.nil_append, compP]
    by_cases e : x = a <;> by_cases e2 : a = b <;> simp [e, e2]
  | x :: y :: r, a, b => by
    have ih := comp_snoc (y :: r) a b
    simp only [List.cons_append, compP] at ih ⊢
    rw [ih]
    by_cases e : x = y <;> by_cases e2 : a = b <;> simp [e, e2]
theorem compTo_step {d : List (Int × Int)} {i : Nat} {a b : Int × Int} (h1 : d[i]? = some a) (h2 : d[i + 1]? = some b) : compP (d.take (i + 1 + 1)) = if a = b then compP (d.take (i + 1)) else compP (d.take (i + 1)) ++ [b] := by
  have e1 : d.take (i + 1) = d.take i ++ [a] := by rw [List.take_add_one, h1]; rfl
  have e2 : d.take (i + 1 + 1) = d.take i ++ [a, b] := by rw [List.take_add_one, h2, e1]; simp
  rw [e1, e2, comp_snoc]
theorem comp_one {d : List (Int × Int)} : compP (d.take (0 + 1)) = d.take (0 + 1) := by
  cases d with
  | nil => rfl
  | cons a r => rfl
theorem comp_len : ∀ d : List (Int × Int), (compP d).length ≤ d.length
  | [] => Nat.le_refl _
  | [_] => Nat.le_refl _
  | a :: b :: r => by
    have := comp_len (b :: r)
    rw [compP]
    split <;> simp at * <;> omega

theorem eqW (a b c d : Int) (w : World) : (binOp .eql 78 (.agg #[.int .i64 a, .int .i64 b]) (.agg #[.int .i64 c, .int .i64 d])).run Tryz.prog w = .ok (.bool (a == c && b == d)) w := by
  have hS : Tryz.prog.underlying 78 = some (.struct (Tryz.prog.fieldsOf 78)) := by kernel_rfl
  have hp : Tryz.prog.stoodInHeld 78 = false := by kernel_rfl
  have u3 := Tryz.underlying3
  have a3 := Tryz.isAgg3
  have z3 := Tryz.sizeOf3
  rw [run_eql_struct, show (10000 : Nat) = 9999 + 1 from rfl, run_equalIn_agg w 9999 78 _ _ hS hp]
  simp only [Program.fieldsOf, Tryz.underlying78]
  go_simp
  by_cases h1 : a = c <;> by_cases h2 : b = d <;> simp [h1, h2]

theorem neW (a b c d : Int) (w : World) : (binOp .neq 78 (.agg #[.int .i64 a, .int .i64 b]) (.agg #[.int .i64 c, .int .i64 d])).run Tryz.prog w = .ok (.bool (!(a == c && b == d))) w := by
  have hS : Tryz.prog.underlying 78 = some (.struct (Tryz.prog.fieldsOf 78)) := by kernel_rfl
  have hp : Tryz.prog.stoodInHeld 78 = false := by kernel_rfl
  have u3 := Tryz.underlying3
  have a3 := Tryz.isAgg3
  have z3 := Tryz.sizeOf3
  rw [run_neq_struct, show (10000 : Nat) = 9999 + 1 from rfl, run_equalIn_agg w 9999 78 _ _ hS hp]
  simp only [Program.fieldsOf, Tryz.underlying78]
  go_simp
  by_cases h1 : a = c <;> by_cases h2 : b = d <;> simp [h1, h2]
theorem grown_drewN (w : World) (q : Nat) (r : Option Nat) : w.grownBy (w.drewN q) r :=
  let b := below_drewN (Below.refl w.heap.size w) q
  ⟨b.os, b.tape, b.output, b.size, fun k hk _ => b.block k hk⟩
theorem grown_trans {a b c : World} {r : Option Nat} (h : a.grownBy b r) (k : b.grownBy c r) : a.grownBy c r :=
  ⟨k.os.trans h.os, k.tape.trans h.tape, k.output.trans h.output, Nat.le_trans h.size k.size, fun i hi hne => (k.block i (Nat.lt_of_lt_of_le hi h.size) hne).trans (h.block i hi hne)⟩
theorem grown_setTwo (w : World) (g i j : Nat) (u v : Value) : w.grownBy ((w.setCell ⟨g, i, none⟩ u).setCell ⟨g, j, none⟩ v) (some g) :=
  ⟨rfl, rfl, rfl, by simp, fun k _ hne => (heap_setCell_other _ ⟨g, j, none⟩ k v (fun e => hne (by rw [e]))).trans (heap_setCell_other w ⟨g, i, none⟩ k u (fun e => hne (by rw [e])))⟩
theorem heap_setCells_keep {g : Nat} {e : TypeId} : ∀ (vs : List Value) (o : Nat) (w : World) (cur : Array Value), w.heap[g]? = some (.cells cur e (0, 0)) → ∃ cur', (w.setCells g o vs).heap[g]? = some (.cells cur' e (0, 0)) ∧ cur'.size = cur.size ∧ ∀ i, i < o → cur'[i]? = cur[i]?
  | [], _, _, cur, h => ⟨cur, h, rfl, fun _ _ => rfl⟩
  | v :: r, o, w, cur, h => by
    rw [World.setCells]
    obtain ⟨cur', h1, h2, h3⟩ := heap_setCells_keep r (o + 1) _ _ (heap_setCell_same w g o cur e v h)
    refine ⟨cur', h1, by rw [h2]; simp, fun i hi => ?_⟩
    rw [h3 i (by omega), Array.getElem?_setIfInBounds, if_neg (by omega)]
theorem size_setCells' (b : Nat) : ∀ (vs : List Value) (o : Nat) (w : World), (w.setCells b o vs).heap.size = w.heap.size
  | [], _, _ => rfl
  | v :: r, o, w => by rw [World.setCells, size_setCells' b r]; simp
theorem grown_setCells {g : Nat} : ∀ (vs : List Value) (o : Nat) (w : World), w.grownBy (w.setCells g o vs) (some g)
  | [], _, w => ⟨rfl, rfl, rfl, Nat.le_refl _, fun _ _ _ => rfl⟩
  | v :: r, o, w => by
    have h := grown_setCells (g := g) r (o + 1) (w.setCell ⟨g, o, none⟩ v)
    rw [World.setCells]
    exact ⟨h.os, h.tape, h.output, by simp, fun k hk hne => (h.block k (by simpa using hk) hne).trans (heap_setCell_other w ⟨g, o, none⟩ k v (fun e => hne (by rw [e])))⟩
theorem owns_setTwo {w : World} {N g n cap : Nat} {m : List (Int × Int)} {e : TypeId} (h : w.ownsRow N e 2 (.slice (some ⟨g, 0, none⟩) n cap) n (vrow m)) (k : Nat) (a b : Int) (hm : m.length = n) (hk : k < n) :
    ((w.setCell ⟨g, k * 2, none⟩ (.int .i64 a)).setCell ⟨g, k * 2 + 1, none⟩ (.int .i64 b)).ownsRow N e 2 (.slice (some ⟨g, 0, none⟩) n cap) n (vrow (m.set k (a, b))) := by
  refine ⟨by rw [vrow_length, List.length_set, hm], ?_⟩
  rcases h.2 with ⟨e1, _⟩ | ⟨g', cap', cur, e1, hb, hg, h1, h2, h3, h4⟩
  · cases e1
  · cases e1
    refine .inr ⟨g, cap, _, rfl, hb, heap_setCell_same _ g (k * 2 + 1) _ e _ (heap_setCell_same w g (k * 2) cur e _ hg), h1, h2, by simpa using h3, ?_⟩
    have hv : vrow (m.set k (a, b)) = ((vrow m).set (k * 2) (.int .i64 a)).set (k * 2 + 1) (.int .i64 b) := by
      clear h h1 h2 h3 h4 hg hb
      induction m generalizing k n with
      | nil => simp at hm; omega
      | cons x r ih =>
        obtain ⟨x1, x2⟩ := x
        cases k with
        | zero => simp [vrow]
        | succ k =>
          have := ih (n := r.length) k rfl (by simp at hm; omega)
          simp only [List.set_cons_succ, vrow]
          rw [this, show (k + 1) * 2 = k * 2 + 1 + 1 by omega]
          simp
    rw [hv, ← h4]
    simp [List.take_set]
theorem clear_keeps2 {w : World} {N g n cap k : Nat} {m : List (Int × Int)} (h : w.ownsRow N 78 2 (.slice (some ⟨g, 0, none⟩) n cap) n (vrow m)) (hk : k ≤ n) (ty : TypeId) (c : Nat) :
    ∃ w', (Builtin.clear_ #[23] ty #[.slice (some ⟨g, k * 2, none⟩) (n - k) c]).run Tryz.prog w = .ok (.tuple #[]) w' ∧ w'.ownsRow N 78 2 (.slice (some ⟨g, 0, none⟩) k cap) k (vrow (m.take k)) ∧ w.grownBy w' (some g) := by
  have hml : m.length = n := by have := h.1; rw [vrow_length] at this; omega
  have hvt : (vrow m).take (k * 2) = vrow (m.take k) := by
    clear h
    induction m generalizing k n with
    | nil => simp [vrow]
    | cons x r ih =>
      obtain ⟨x1, x2⟩ := x
      cases k with
      | zero => simp [vrow]
      | succ k =>
        rw [show (k + 1) * 2 = k * 2 + 1 + 1 by omega]
        simp only [vrow, List.take_succ_cons]
        rw [ih (n := r.length) (by simp at hml; omega) rfl]
  rcases h.2 with ⟨e1, _⟩ | ⟨g', cap', cur, e1, hb, hg, h1, h2, h3, h4⟩
  · cases e1
  · cases e1
    have fin : ∀ (w' : World) (cur' : Array Value), w'.heap[g]? = some (.cells cur' 78 (0, 0)) → cur'.size = cur.size → (∀ i, i < k * 2 → cur'[i]? = cur[i]?) → w'.ownsRow N 78 2 (.slice (some ⟨g, 0, none⟩) k cap) k (vrow (m.take k)) := by
      intro w' cur' hg' hs' hi'
      refine ⟨by rw [vrow_length, List.length_take]; omega, .inr ⟨g, cap, cur', rfl, hb, hg', by omega, h2, by rw [hs', h3], ?_⟩⟩
      rw [← hvt, ← h4, List.take_take, Nat.min_eq_left (by omega)]
      apply List.ext_getElem?
      intro i
      rw [List.getElem?_take, List.getElem?_take]
      by_cases hi : i < k * 2
      · rw [if_pos hi, if_pos hi, Array.getElem?_toList, Array.getElem?_toList]; exact hi' i hi
      · rw [if_neg hi, if_neg hi]
    by_cases e0 : n - k = 0
    · rw [e0]
      refine ⟨w, ?_, fin w cur hg rfl (fun _ _ => rfl), ⟨rfl, rfl, rfl, Nat.le_refl _, fun _ _ _ => rfl⟩⟩
      simp [Builtin.clear_, run_underlying Tryz.underlying23]
    · obtain ⟨vs, hvs⟩ : ∃ vs, (Builtin.zeroCells (Value.agg #[.int .i64 0, .int .i64 0]).cells (n - k)).toList = vs := ⟨_, rfl⟩
      have hvl : vs.length = (n - k) * 2 := by rw [← hvs]; simp [Builtin.zeroCells, Value.cells]
      have hv1 : ∀ v ∈ vs, v.oneCell' = true := by
        intro v hv
        rw [← hvs] at hv
        simp only [Builtin.zeroCells, Value.cells, Array.toList_map, List.mem_map] at hv
        obtain ⟨i, _, rfl⟩ := hv
        have : ∀ j, ((#[Value.int .i64 0, Value.int .i64 0] : Array Value)[j % 2]!).oneCell' = true := fun j => by
          rcases Nat.mod_two_eq_zero_or_one j with e | e <;> rw [e] <;> rfl
        exact this i
      have hcs : ∀ j, j < vs.length → (w.cell? ⟨g, k * 2 + j, none⟩).isSome = true := fun j hj => by
        rw [cell_of_row w g (k * 2 + j) cur _ (0, 0) hg, Array.getElem?_eq_getElem (by rw [h3]; omega)]; rfl
      have hst := run_storeCells_cells (P := Tryz.prog) g (k * 2) vs 0 w (by simpa using hcs) (fun j _ => by simp [World.frozen?, hg]) hv1
      simp only [Nat.add_zero] at hst
      obtain ⟨q, hq⟩ : ∃ q, n - k = q + 1 := ⟨n - k - 1, by omega⟩
      obtain ⟨cur', g1, g2, g3⟩ := heap_setCells_keep vs (k * 2) w cur hg
      refine ⟨w.setCells g (k * 2) vs, ?_, fin _ cur' g1 g2 g3, grown_setCells vs (k * 2) w⟩
      have hzv : ∀ w, (zeroValue 78).run Tryz.prog w = .ok (.agg #[.int .i64 0, .int .i64 0]) w := fun w => by kernel_rfl
      rw [hq] at hvs ⊢
      simp [Builtin.clear_, run_underlying Tryz.underlying23, hzv, hvs, hst]

end Go.Proofs.YtjefgmeejhakbaaGreatDoor
