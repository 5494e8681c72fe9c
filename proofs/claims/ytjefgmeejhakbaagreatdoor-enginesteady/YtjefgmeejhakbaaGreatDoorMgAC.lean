/- RowBase KtTurn KtPost KtRanP KtRan: put together for a claim. -/
import Derived.Test.YtjefgmeejhakbaaGreatDoorCards
import Derived.Test.YtjefgmeejhakbaaGreatDoorTie
import Derived.Test.YtjefgmeejhakbaaGreatDoorMgAA
import Derived.Test.YtjefgmeejhakbaaGreatDoorMgAB
import Derived.ProofKit
import Derived.OpenShut
import Derived.Carry
import Derived.Deep.Slices
import Derived.Deep.SlicePairs
import Derived.Deep.DeepHandedRow
import Derived.LaidLaws
import Derived.LaidHandle
import Derived.Test.YtjefgmeejhakbaaGreatDoorMgAT
import Derived.Test.YtjefgmeejhakbaaGreatDoorKtSmall
import Derived.Test.YtjefgmeejhakbaaGreatDoorMgAV
/- What the rows share: the listed variable. -/
namespace Go.Proofs.YtjefgmeejhakbaaGreatDoor
open Go.ChangeShapes Go.WideShapes Go.ChangeAt Go.RowKit

theorem tryd_own : ownKnob Tryz.prog.godebug = none := by kernel_rfl
theorem tryd_laidOut : laidOutB Tryz.prog = true := by kernel_rfl
theorem tryd_et : Tryz.prog.globalNamed "errors.errorType" = some 0 := by kernel_rfl
theorem tryd_rt : (Tryz.prog.cutTypes.find? (·.1 == "internal/reflectlite.rtype")).map (·.2) = some 263 := by kernel_rfl
theorem tryd_oneRow : ((List.range 364).filter fun t => Tryz.prog.rowNamed t [101, 114, 114, 111, 114]) = [33] := by kernel_rfl
theorem tryd_size : Tryz.prog.types.size = 364 := by kernel_rfl

/-- What the listed variable gives the walk: its one cell. -/
theorem handle_of_laid {W : World} (h : laidMetH Tryz.prog [("errors.errorType", Rows.laid_errors_errorType)] W) : Handle W := by
  have h' : laidMet Tryz.prog [] W ∧ handlesMet Tryz.prog [("errors.errorType", Rows.laid_errors_errorType)] W := h
  obtain ⟨name, u, ty, e1, e2, e3, e4, e5⟩ := h'.2 _ (List.mem_singleton.2 rfl)
  have en : name = [101, 114, 114, 111, 114] := (Option.some.inj e1).symm
  subst en
  obtain rfl := Option.some.inj (tryd_rt.symm.trans e2)
  have hm : ty ∈ (List.range 364).filter fun t => Tryz.prog.rowNamed t [101, 114, 114, 111, 114] := List.mem_filter.2 ⟨List.mem_range.2 (by rw [← tryd_size]; exact e3), e4⟩
  rw [tryd_oneRow] at hm
  obtain rfl := List.mem_singleton.1 hm
  have hh : typeHandle Tryz.prog 33 = .pointer (some ⟨1, 33, none⟩) := by kernel_rfl
  rw [hh] at e5
  simpa [Handle] using World.var?_cell tryd_et e5 0

theorem tryd_cells3 : Tryz.prog.cellsOf 3 = 1 := by kernel_rfl

/-- An address at which a cell lies has no spot. -/
theorem addr_plain {w : World} {a : Addr} {v : Value} (h : w.cell? (a.add 0) = some v) : ∃ b off, a = ⟨b, off, none⟩ := by
  obtain ⟨b, off, sp⟩ := a
  cases sp with
  | none => exact ⟨b, off, rfl⟩
  | some s =>
    exfalso
    simp only [Addr.add, if_true, World.cell?, Option.isSome_some] at h
    split at h <;> simp at h
theorem i64_of_wf {a : Int} (h : (Lit.int .i64 a).wf = true) : I64 a := by
  simp [Lit.wf, IntKind.min, IntKind.max, IntKind.signed, IntKind.bits] at h
  unfold I64
  omega

end Go.Proofs.YtjefgmeejhakbaaGreatDoor

/- The tale when it notes a read, a write, who is over. -/
namespace Go.Proofs.YtjefgmeejhakbaaGreatDoor
open Go.RowKit

theorem owns_set {w : World} {base g n cap i : Nat} {e : TypeId} {xs : List Value} {u : Value} (h : w.ownsRow base e 1 (.slice (some ⟨g, 0, none⟩) n cap) n xs) : (w.setCell ⟨g, i, none⟩ u).ownsRow base e 1 (.slice (some ⟨g, 0, none⟩) n cap) n (xs.set i u) := by
  refine ⟨by rw [List.length_set]; exact h.1, ?_⟩
  rcases h.2 with ⟨e1, _⟩ | ⟨g', cap', cur, e1, hb, hc, h1, h2, h3, h4⟩
  · cases e1
  · injection e1 with e1 e2 e3
    injection e1 with e1
    injection e1 with e1
    subst e1
    subst e3
    refine .inr ⟨g, cap, cur.setIfInBounds i u, rfl, hb, setCell_at hc, h1, h2, by simpa using h3, ?_⟩
    rw [← h4, Array.toList_setIfInBounds, List.take_set]

section
variable {w w1 : World} {s N : Nat} {L : TalL} {t : Tal}
theorem rowX_over (L : TalL) (t : Tal) (l : List Int) (j : Nat) (hj : j < 6) : L.rowX { t with over := l } j = if j = 5 then intsV l else L.rowX t j := by
  obtain rfl | rfl | rfl | rfl | rfl | rfl : j = 0 ∨ j = 1 ∨ j = 2 ∨ j = 3 ∨ j = 4 ∨ j = 5 := by omega
  all_goals rfl
/-- One is over. -/
theorem TalAt.setOver (h : TalAt w s L t N) {g cap i : Nat} (hr : L.row 5 = .slice (some ⟨g, 0, none⟩) N cap) (x : Int) :
    TalAt (w.setCell ⟨g, i, none⟩ (.int .i64 x)) s L { t with over := t.over.set i x } N ∧ KeptO L.own L.own w (w.setCell ⟨g, i, none⟩ (.int .i64 x)) := by
  obtain ⟨ρ, T⟩ := h.tag
  have hg : (L.row 5).ownBlock = some g := by rw [hr]; rfl
  have ho : ∀ b, b ≠ g → (w.setCell ⟨g, i, none⟩ (.int .i64 x)).heap[b]? = w.heap[b]? := fun b hb => heap_setCell_other _ _ _ _ hb
  have hρ := T.row 5 g (by omega) hg
  have hne : ∀ b, ρ b ≠ .row 5 → b ≠ g := fun b hb e => hb (by rw [e]; exact hρ)
  refine ⟨⟨(ho _ (hne _ (by rw [T.b]; exact nofun))).trans h.blk, fun j hj => ?_, fun i v l hv hl => owns_same (h.sn i v l hv hl) (fun b hb => ho b (hne b (by rw [T.sn i v b hv hb]; exact nofun))), fun i b f hb hf => ⟨(h.om i b f hb hf).1.same (ho b (hne b (by rw [T.om i b hb]; exact nofun))), (h.om i b f hb hf).2⟩,
    fun i v l hv hl => owns_same (h.rd i v l hv hl) (fun b hb => ho b (hne b (by rw [T.rd i v b hv hb]; exact nofun))), ⟨h.len.level, h.len.snap, h.len.own, h.len.reads, h.len.begun, by simpa using h.len.over, h.len.sn, h.len.om, h.len.rd⟩, ρ, T⟩,
    ⟨rfl, rfl, rfl, by simp, fun b _ hb => ho b (fun e => hb (.inr (.inl ⟨5, by omega, by rw [e]; exact hg⟩))), fun _ hb => .inl hb⟩⟩
  rw [rowX_over L t _ j hj]
  by_cases e : j = 5
  · subst e
    rw [if_pos rfl, hr]
    have h5 := h.rows 5 (by omega)
    rw [hr] at h5
    have := owns_set (i := i) (u := .int .i64 x) h5
    rw [show L.rowX t 5 = intsV t.over from rfl] at this
    have e2 : intsV (t.over.set i x) = (intsV t.over).set i (.int .i64 x) := by simp [intsV, List.map_set]
    rw [e2]
    exact this
  · rw [if_neg e]
    exact owns_same (h.rows j hj) (fun b hb => ho b (hne b (by rw [T.row j b hj hb]; intro e2; injection e2 with e2; exact e e2)))
/-- What one wrote, or waits to write. -/
theorem TalAt.setOwn (h : TalAt w s L t N) {x b : Nat} {f : Int → Option Int} (hb : L.om[x]? = some b) (hf : t.own[x]? = some f) {key val : Int} (hk : 0 ≤ key ∧ key < 10) :
    ∃ w', (Instr.mapUpdate 69 (.map (some b)) (.int .i64 key) (.int .i64 val)).run Tryz.prog w = .ok () w' ∧ TalAt w' s L { t with own := t.own.set x (updT f key (some val)) } N ∧ KeptO L.own L.own w w' := by
  obtain ⟨ρ, T⟩ := h.tag
  have h0 := h.om x b f hb hf
  obtain ⟨w', hr, hI, hg⟩ := h0.1.store Tryz.underlying69 (by unfold maxLen; omega) (show I64 key by unfold I64; omega) (.int .i64 val)
  rw [show updT (fun k => (f k).map (Value.int .i64)) key (some (.int .i64 val)) = fun k => (updT f key (some val) k).map (Value.int .i64) from (updT_map f key (some val)).symm] at hI
  have hu : ∀ k, updT f key (some val) k ≠ none → 0 ≤ k ∧ k < 10 := fun k hk' => by
    by_cases e : k = key
    · rw [e]; exact hk
    · rw [updT_other _ _ e] at hk'; exact h0.2 k hk'
  have hI10 := hI.upTo 10 (fun a ha => hu a (fun e => ha (by rw [e]; rfl)))
  have ho : ∀ c, c < w.heap.size → c ≠ b → w'.heap[c]? = w.heap[c]? := fun c hc hne => hg.block c hc (fun e => hne (by injection e))
  have hρ := T.om x b hb
  have hne : ∀ c, L.own c → ρ c ≠ .om x → w'.heap[c]? = w.heap[c]? := fun c hc hn => ho c (h.own_lt hc) (fun e => hn (by rw [e]; exact hρ))
  have hx := (List.getElem?_eq_some_iff.1 hf).1
  refine ⟨w', hr, ⟨(hne _ (.inl rfl) (by rw [T.b]; exact nofun)).trans h.blk, fun j hj => ?_, fun i v l hv hl => owns_same (h.sn i v l hv hl) (fun c hc => hne c (.inr (.inr (.inl ⟨i, v, hv, hc⟩))) (by rw [T.sn i v c hv hc]; exact nofun)), fun i c q hc hq => ?_,
    fun i v l hv hl => owns_same (h.rd i v l hv hl) (fun c hc => hne c (.inr (.inr (.inr (.inr ⟨i, v, hv, hc⟩)))) (by rw [T.rd i v c hv hc]; exact nofun)), ⟨h.len.level, h.len.snap, by simpa using h.len.own, h.len.reads, h.len.begun, h.len.over, h.len.sn, h.len.om, h.len.rd⟩, ρ, T⟩,
    ⟨hg.os, hg.tape, hg.output, hg.size, fun c hc hn => ho c hc (fun e => hn (.inr (.inr (.inr (.inl ⟨x, by rw [e]; exact hb⟩))))), fun _ hc => .inl hc⟩⟩
  · have e : L.rowX { t with own := t.own.set x (updT f key (some val)) } j = L.rowX t j := by unfold TalL.rowX; split <;> rfl
    rw [e]
    exact owns_same (h.rows j hj) (fun c hc => hne c (.inr (.inl ⟨j, hj, hc⟩)) (by rw [T.row j c hj hc]; exact nofun))
  · simp only [List.getElem?_set] at hq
    by_cases e : x = i
    · subst e
      rw [if_pos rfl, if_pos hx] at hq
      cases hq
      rw [hb] at hc
      cases hc
      exact ⟨hI10, hu⟩
    · rw [if_neg e] at hq
      have h1 := h.om i c q hc hq
      exact ⟨h1.1.same (hne c (.inr (.inr (.inr (.inl ⟨i, hc⟩)))) (by rw [T.om i c hc]; intro e2; injection e2 with e2; exact e e2.symm)), h1.2⟩
theorem rowX_reads (L : TalL) (t : Tal) (rd : List Value) (l : List (List (Int × Int))) (j : Nat) (hj : j < 6) : ({ L with rd := rd } : TalL).rowX { t with reads := l } j = if j = 3 then rd else L.rowX t j := by
  obtain rfl | rfl | rfl | rfl | rfl | rfl : j = 0 ∨ j = 1 ∨ j = 2 ∨ j = 3 ∨ j = 4 ∨ j = 5 := by omega
  all_goals rfl
/-- What one read. -/
theorem TalAt.setRead (h : TalAt w s L t N) {x g cap : Nat} {v v' : Value} {l l' : List (Int × Int)} (hv : L.rd[x]? = some v) (hl : t.reads[x]? = some l) (hr : L.row 3 = .slice (some ⟨g, 0, none⟩) N cap) (hc : Chg (fun b => v.ownBlock = some b) w w1) (hown : w1.ownsRow 0 75 2 v' l'.length (vrow l')) (hv' : ∀ b, v'.ownBlock = some b → v.ownBlock = some b ∨ w.heap.size ≤ b) :
    TalAt (w1.setCell ⟨g, x, none⟩ v') s { L with rd := L.rd.set x v' } { t with reads := t.reads.set x l' } N ∧ KeptO L.own ({ L with rd := L.rd.set x v' } : TalL).own w (w1.setCell ⟨g, x, none⟩ v') := by
  obtain ⟨ρ, T⟩ := h.tag
  have hg : (L.row 3).ownBlock = some g := by rw [hr]; rfl
  have hglt := owns_lt (h.rows 3 (by omega)) hg
  have hρg := T.row 3 g (by omega) hg
  have hx := (List.getElem?_eq_some_iff.1 hl).1
  have hxr := (List.getElem?_eq_some_iff.1 hv).1
  have ho1 : ∀ b, b ≠ g → (w1.setCell ⟨g, x, none⟩ v').heap[b]? = w1.heap[b]? := fun b hb => heap_setCell_other _ _ _ _ hb
  have ho : ∀ b, L.own b → ρ b ≠ .row 3 → ρ b ≠ .rd x → (w1.setCell ⟨g, x, none⟩ v').heap[b]? = w.heap[b]? := fun b hb h1 h2 => (ho1 b (fun e => h1 (by rw [e]; exact hρg))).trans (hc.block b (h.own_lt hb) (fun e => h2 (T.rd x v b hv e)))
  have hrow3 : w1.ownsRow 0 (rowT 3) 1 (L.row 3) N (L.rowX t 3) := owns_same (h.rows 3 (by omega)) (fun b hb => hc.block b (owns_lt (h.rows 3 (by omega)) hb) (fun e => by
    have h1 := T.row 3 b (by omega) hb
    rw [T.rd x v b hv e] at h1
    cases h1))
  have hne' : ∀ b, v'.ownBlock = some b → b ≠ g := fun b hb e => by
    rcases hv' b hb with h1 | h1
    · have := T.rd x v b hv h1
      rw [e, hρg] at this
      cases this
    · omega
  refine ⟨⟨(ho _ (.inl rfl) (by rw [T.b]; exact nofun) (by rw [T.b]; exact nofun)).trans h.blk, fun j hj => ?_, fun i u m hu hm => owns_same (h.sn i u m hu hm) (fun c hc => ho c (.inr (.inr (.inl ⟨i, u, hu, hc⟩))) (by rw [T.sn i u c hu hc]; exact nofun) (by rw [T.sn i u c hu hc]; exact nofun)),
    fun i c q hc hq => ⟨(h.om i c q hc hq).1.same (ho c (.inr (.inr (.inr (.inl ⟨i, hc⟩)))) (by rw [T.om i c hc]; exact nofun) (by rw [T.om i c hc]; exact nofun)), (h.om i c q hc hq).2⟩, fun i u m hu hm => ?_,
    ⟨h.len.level, h.len.snap, h.len.own, by simpa using h.len.reads, h.len.begun, h.len.over, h.len.sn, h.len.om, by simpa using h.len.rd⟩, fun b => if b < w.heap.size then ρ b else .rd x, ?_⟩, ?_⟩
  · rw [rowX_reads L t _ _ j hj]
    by_cases e : j = 3
    · subst e
      rw [if_pos rfl]
      show World.ownsRow _ 0 _ 1 (L.row 3) N _
      rw [hr] at hrow3 ⊢
      exact owns_set hrow3
    · rw [if_neg e]
      refine owns_same (h.rows j hj) (fun c hc => ho c (.inr (.inl ⟨j, hj, hc⟩)) (by rw [T.row j c hj hc]; intro e2; injection e2 with e2; exact e e2) (by rw [T.row j c hj hc]; exact nofun))
  · simp only [List.getElem?_set] at hu hm
    by_cases e : x = i
    · subst e
      rw [if_pos rfl, if_pos hxr] at hu
      rw [if_pos rfl, if_pos hx] at hm
      cases hu
      cases hm
      exact owns_same hown (fun b hb => ho1 b (hne' b hb))
    · rw [if_neg e] at hu hm
      exact owns_same (h.rd i u m hu hm) (fun c hc => ho c (.inr (.inr (.inr (.inr ⟨i, u, hu, hc⟩)))) (by rw [T.rd i u c hu hc]; exact nofun) (by rw [T.rd i u c hu hc]; intro e2; injection e2 with e2; exact e e2.symm))
  · have hlt : ∀ b, L.own b → (if b < w.heap.size then ρ b else TTag.rd x) = ρ b := fun b hb => if_pos (h.own_lt hb)
    refine ⟨(hlt _ (.inl rfl)).trans T.b, fun j b hj hb => (hlt b (.inr (.inl ⟨j, hj, hb⟩))).trans (T.row j b hj hb), fun i u b hu hb => (hlt b (.inr (.inr (.inl ⟨i, u, hu, hb⟩)))).trans (T.sn i u b hu hb), fun i b hb => (hlt b (.inr (.inr (.inr (.inl ⟨i, hb⟩))))).trans (T.om i b hb), fun i u b hu hb => ?_⟩
    simp only [List.getElem?_set] at hu
    by_cases e : x = i
    · subst e
      rw [if_pos rfl, if_pos hxr] at hu
      cases hu
      rcases hv' b hb with h1 | h1
      · exact (hlt b (.inr (.inr (.inr (.inr ⟨x, v, hv, h1⟩))))).trans (T.rd x v b hv h1)
      · exact if_neg (by omega)
    · rw [if_neg e] at hu
      exact (hlt b (.inr (.inr (.inr (.inr ⟨i, u, hu, hb⟩))))).trans (T.rd i u b hu hb)
  · refine ⟨hc.os, hc.tape, hc.output, by simpa using hc.size, fun b hb hn => (ho1 b (fun e => hn (.inr (.inl ⟨3, by omega, by rw [e]; exact hg⟩)))).trans (hc.block b hb (fun e => hn (.inr (.inr (.inr (.inr ⟨x, v, hv, e⟩)))))), fun b hb => ?_⟩
    rcases hb with hb | hb | hb | hb | ⟨i, u, hu, hb⟩
    · exact .inl (.inl hb)
    · exact .inl (.inr (.inl hb))
    · exact .inl (.inr (.inr (.inl hb)))
    · exact .inl (.inr (.inr (.inr (.inl hb))))
    · simp only [List.getElem?_set] at hu
      by_cases e : x = i
      · subst e
        rw [if_pos rfl, if_pos hxr] at hu
        cases hu
        rcases hv' b hb with h1 | h1
        · exact .inl (.inr (.inr (.inr (.inr ⟨x, v, hv, h1⟩))))
        · exact .inr h1
      · rw [if_neg e] at hu
        exact .inl (.inr (.inr (.inr (.inr ⟨i, u, hu, hb⟩))))
/-- The counts. -/
theorem TalAt.setHead (h : TalAt w s L t N) {o : Nat} {u : Value} {steps n : Int} {broken : Bool} (hc : (talCells s L.row t.steps t.n t.broken).setIfInBounds o u = talCells s L.row steps n broken) :
    TalAt (w.setCell ⟨L.b, o, none⟩ u) s L { t with steps := steps, n := n, broken := broken } N ∧ KeptO L.own L.own w (w.setCell ⟨L.b, o, none⟩ u) := by
  have ho : ∀ g, g ≠ L.b → (w.setCell ⟨L.b, o, none⟩ u).heap[g]? = w.heap[g]? := fun g hg => heap_setCell_other _ _ _ _ hg
  refine ⟨h.head ?_ (fun g _ hg => ho g hg), rfl, rfl, rfl, by simp, fun g _ hn => ho g (fun e => hn (.inl e)), fun _ hg => .inl hg⟩
  rw [setCell_at h.blk, hc]
end

end Go.Proofs.YtjefgmeejhakbaaGreatDoor

/- An engine that was turned, beside its tale; that there is an end to each call. -/
namespace Go.Proofs.YtjefgmeejhakbaaGreatDoor
open Go.RowKit

theorem TaleAt.post {w0 : Gr} {w w' : World} {L : EnL} {E E' : Eng} {TL : TalL} {t : Tal} (h : TaleAt w0 w L E TL t) (hp : EnPost L E' w w') : ∃ L', TaleAt w0 w' L' E' TL t ∧ L'.s = L.s ∧ E'.txs.length = E.txs.length := by
  obtain ⟨L', hE, hK, hs, hb⟩ := hp
  have hl : E'.txs.length = E.txs.length := by
    rw [← hE.len, ← h.en.len]
    have := congrArg List.length hb
    simpa [EnL.bs] using this
  exact ⟨L', h.engine hE hK hs hl, hs, hl⟩
/-- A row that is not the engine's lies as it lay. -/
theorem row_post {w w' : World} {L : EnL} {E' : Eng} {base sz n : Nat} {T : TypeId} {v : Value} {xs : List Value} (hp : EnPost L E' w w') (h : w.ownsRow base T sz v n xs) (hn : ∀ g, v.ownBlock = some g → ¬ L.own g) : w'.ownsRow base T sz v n xs := by
  obtain ⟨L', _, hK, _, _⟩ := hp
  exact owns_same h (fun g hg => hK.block g (owns_lt h hg) (hn g hg))
theorem TaleAt.handle {w0 : Gr} {w : World} {L : EnL} {E : Eng} {TL : TalL} {t : Tal} (h : TaleAt w0 w L E TL t) (hg : Handle w0.w ∧ w0.P 0) : Handle w := h.cell hg.2 hg.1
section
variable {E : Eng} {i : Nat} {u : Tx}
theorem commit_ends (hM : Mid0 E) (hu : E.txs[i]? = some u) (hs : u.state = 0) : ∃ R, commitE 7 E i = some R := by
  have hl : liveB u.state = true := live_iff.2 (.inl hs)
  by_cases hb : Between u.ahead u.behind
  · obtain ⟨E', h, _⟩ := commit_bad (goes_true 0 (fun _ => none)) hM hu hl hb trivial
    exact ⟨_, h⟩
  · obtain ⟨E', h, _⟩ := commit_ok (goes_true 0 (fun _ => none)) hM hu hl hb trivial
    exact ⟨_, h⟩
theorem abort_ends (hM : Mid0 E) (hu : E.txs[i]? = some u) (hl : liveB u.state = true) : ∃ E', endF 7 (loseE E i 0) i 3 = some E' := by
  obtain ⟨E', h, _⟩ := lose_ok (goes_true 0 (fun _ => none)) hM hu hl trivial
  exact ⟨_, h⟩
theorem read_ends (hM : Mid0 E) (hu : E.txs[i]? = some u) (hs : u.state = 0) {key : Int} (hk : 0 ≤ key ∧ key < 10) : ∃ R, readE 7 E i key = some R ∧ (R.1.2 = 0 ∨ R.1.2 = 8 ∨ R.1.2 = 13) := by
  cases hv : u.vals key with
  | some v =>
    refine ⟨((v, 0), E), ?_, .inl rfl⟩
    unfold readE
    rw [hu]
    simp only
    rw [hv]
  | none =>
    obtain ⟨R, h, _, _, h3, _⟩ := read_ok (goes_true 0 (fun _ => none)) hM hu hs hk hv (fun _ => trivial) (fun _ _ _ => trivial) (fun _ _ _ => trivial)
    refine ⟨R, h, ?_⟩
    rcases h3 with ⟨h3, _⟩ | h3
    · rw [h3]
      unfold verP
      split
      · exact .inl rfl
      · exact .inr (.inl rfl)
    · rw [h3]
      exact .inr (.inr rfl)
theorem write_ends (hM : Mid0 E) (hu : E.txs[i]? = some u) (hs : u.state = 0) {key val : Int} (hk : 0 ≤ key ∧ key < 10) (hv : -1099511627776 ≤ val ∧ val ≤ 1099511627776) {q : Int → Nat} (hq : Ranked E.T q) : ∃ R, writeE 7 q E i key val = some R := by
  obtain ⟨R, h, _⟩ := write_ok (goes_true 0 (fun _ => none)) hM hu hs hk hv hq trivial trivial (fun _ _ _ _ => trivial) (fun _ _ _ _ _ _ => trivial)
  exact ⟨R, h⟩
end
/-- What a read tells, whatever it is of. -/
theorem read_any {w : World} {L : EnL} {E : Eng} (h : EnAt w L E) (hg : Handle w) (hM : Mid0 E) (hrd : ∀ u ∈ E.txs, u.reads.length ≤ 100000) {i : Nat} {u : Tx} (hu : E.txs[i]? = some u) (hs : u.state = 0) {key : Int} (hk : 0 ≤ key ∧ key < 10) {R : (Int × Int) × Eng} (hR : readE 7 E i key = some R) :
    Calls Tryz.prog 52 #[.pointer (some ⟨L.s, 0, none⟩), .int .i64 ((i : Int) + 1), .int .i64 key] w fun e w' => e = .returned (.tuple #[.int .i64 R.1.1, errV R.1.2]) ∧ EnPost L R.2 w w' := by
  obtain ⟨l, hl, _⟩ := h.get hu
  cases hv : u.vals key with
  | some v =>
    have e : R = ((v, 0), E) := by
      unfold readE at hR
      rw [hu] at hR
      simp only at hR
      rw [hv] at hR
      injection hR with hR
      exact hR.symm
    subst e
    refine (read_own h hl hu hs (by unfold I64; omega) hv).mono ?_
    rintro e w' ⟨rfl, hw⟩
    rw [hw]
    exact ⟨rfl, L, h, KeptO.refl _ _, rfl, rfl⟩
  | none =>
    obtain ⟨k, rfl⟩ : ∃ k : Nat, key = k := ⟨key.toNat, by omega⟩
    exact read_main h hg hM.fits hl hu hs (by have := hrd u (List.mem_of_getElem? hu); omega) (hM.open_wr hu (live_iff.2 (.inl hs))) (by omega) hv hR

end Go.Proofs.YtjefgmeejhakbaaGreatDoor

/- Plain: keep's fact: two that write what the other one read. -/
namespace Go.Proofs.YtjefgmeejhakbaaGreatDoor

noncomputable def rA : Eng := { eng0 with txs := [] ++ [newTx 2 0] }
noncomputable def rB : Eng := { rA with txs := rA.txs ++ [newTx 2 0] }
noncomputable def rC : Eng := ((readE 7 rB 0 1).map (·.2)).getD eng0
noncomputable def rD : Eng := ((readE 7 rC 1 2).map (·.2)).getD eng0
noncomputable def rF : Eng := ((writeE 7 (fun _ => 0) rD 0 2 5).map (·.2)).getD eng0
noncomputable def rG : Eng := ((writeE 7 (fun _ => 0) rF 1 1 6).map (·.2)).getD eng0
set_option maxRecDepth 100000
theorem rC_eq : readE 7 rB 0 1 = some ((0, 8), rC) := rfl
theorem rD_eq : readE 7 rC 1 2 = some ((0, 8), rD) := rfl
theorem rF_eq : writeE 7 (fun _ => 0) rD 0 2 5 = some ((true, 0), rF) := rfl
theorem rG_eq : writeE 7 (fun _ => 0) rF 1 1 6 = some ((true, 0), rG) := rfl
noncomputable def rH : Eng := (endF 7 (loseE rG 0 13) 0 3).getD eng0
noncomputable def rI : Eng := (endF 7 { (installE rH 1) with com := rH.com ++ [1] } 1 2).getD eng0
theorem rH_eq : commitE 7 rG 0 = some (13, rH) := by
  obtain ⟨t, ht, ha, hb⟩ : ∃ t, rG.txs[0]? = some t ∧ t.ahead 2 = true ∧ t.behind 2 = true := ⟨_, rfl, rfl, rfl⟩
  have h1 : endF 7 (loseE rG 0 13) 0 3 = some rH := rfl
  unfold commitE
  rw [ht]
  simp only
  rw [if_pos (betB_true.2 ⟨⟨2, ha⟩, ⟨2, hb⟩⟩), h1]
  rfl
theorem rI_eq : commitE 7 rH 1 = some (0, rI) := by
  obtain ⟨t, ht, ha⟩ : ∃ t, rH.txs[1]? = some t ∧ ∀ x, t.ahead x = ((false || x == 1) && x != 1) := ⟨_, rfl, fun _ => rfl⟩
  have h1 : endF 7 { (installE rH 1) with com := rH.com ++ [1] } 1 2 = some rI := rfl
  unfold commitE
  rw [ht]
  simp only
  rw [if_neg (by
    rw [betB_false]
    · simp
    · rintro ⟨⟨x, hx⟩, _⟩
      rw [ha] at hx
      simp at hx), h1]
  rfl
theorem rI_last : rI.last = 1 := rfl
theorem rA_mid : Mid0 rA := mid0_eng0.begin (level := 2) (.inr (.inr rfl)) (by decide) (by decide)
theorem rB_mid : Mid0 rB := rA_mid.begin (level := 2) (.inr (.inr rfl)) (by decide) (by decide)
theorem rB_rd : ∀ u ∈ rB.txs, u.reads.length ≤ 0 := fun u hu => by
  have : u = newTx 2 0 := by
    rcases List.mem_cons.1 (show u ∈ [newTx 2 0, newTx 2 0] from hu) with h | h
    · exact h
    · exact List.mem_singleton.1 h
  rw [this]
  exact Nat.le_refl _
theorem rC_went : Went rB rC 1 := went_read rB_mid rB_rd (i := 0) (u := newTx 2 0) rfl rfl (by decide) rC_eq
theorem rD_went : Went rC rD 2 := by
  obtain ⟨u, hu, hs⟩ : ∃ u, rC.txs[1]? = some u ∧ u.state = 0 := ⟨_, rfl, rfl⟩
  exact went_read rC_went.mid rC_went.rd hu hs (by decide) rD_eq
theorem rD_rank : Ranked rD.T (fun _ => 0) := fun k x h => (by cases h)
theorem rF_went : Went rD rF 2 := by
  obtain ⟨u, hu, hs⟩ : ∃ u, rD.txs[0]? = some u ∧ u.state = 0 := ⟨_, rfl, rfl⟩
  exact went_write rD_went.mid rD_went.rd hu hs (by decide) (by decide) rD_rank rF_eq
theorem rF_rank : Ranked rF.T (fun _ => 0) := fun k x h => by
  have e : rF.T = updT (fun _ => []) 2 [1] := rfl
  rw [e] at h
  unfold updT at h
  split at h <;> cases h
theorem rG_went : Went rF rG 2 := by
  obtain ⟨u, hu, hs⟩ : ∃ u, rF.txs[1]? = some u ∧ u.state = 0 := ⟨_, rfl, rfl⟩
  exact went_write rF_went.mid rF_went.rd hu hs (by decide) (by decide) rF_rank rG_eq
theorem rH_went : Went rG rH 2 := by
  obtain ⟨u, hu, hs⟩ : ∃ u, rG.txs[0]? = some u ∧ u.state = 0 := ⟨_, rfl, rfl⟩
  exact (went_commit rG_went.mid rG_went.rd hu hs rH_eq).1

end Go.Proofs.YtjefgmeejhakbaaGreatDoor

/- keep's ran. -/
namespace Go.Proofs.YtjefgmeejhakbaaGreatDoor
open Go.RowKit

theorem EnPost.go {w0 w w' : World} {L : EnL} {E' : Eng} (hB : Below w0.heap.size w0 w) (hn : ∀ g, L.own g → w0.heap.size ≤ g) (hp : EnPost L E' w w') : ∃ L', EnAt w' L' E' ∧ Below w0.heap.size w0 w' ∧ (∀ g, L'.own g → w0.heap.size ≤ g) ∧ L'.s = L.s := by
  obtain ⟨L', hE, hK, hs, _⟩ := hp
  exact ⟨L', hE, hB.trans (hK.below hB.size hn), fun g hg => (hK.sub g hg).elim (hn g) (fun e => Nat.le_trans hB.size e), hs⟩

set_option maxRecDepth 100000 in
set_option maxHeartbeats 4000000 in
theorem ran_any (w : World) (hg : Handle w) : Calls Tryz.prog 22 #[] w fun e w' => e = .returned (.bool true) ∧ Below w.heap.size w w' := by
  have hh : ∀ W, Below w.heap.size w W → Handle W := fun W hB => hg.below hB hg.pos
  have HH := hid hh
  have HN := hid (new_any w)
  clear hh hg
  go_enter Tryz.func22, Tryz.ntmps22
  go_wp2_with fail
  refine HN.out.mono ?_
  rintro e w1 ⟨L1, rfl, hE1, hB1, hn1⟩
  have hs1 : L1.s = L1.s := rfl
  have HB1 : Hid (Calls Tryz.prog 51 #[.pointer (some ⟨L1.s, 0, none⟩), .int .i64 2] w1 fun e w' => e = .returned (.tuple #[.int .i64 1, .nilIface]) ∧ ∃ L' b, EnAt w' L' rA ∧ KeptO L1.own L'.own w1 w' ∧ L'.s = L1.s ∧ L'.bs = L1.bs ++ [b]) := by
    have := begin_ok (E := eng0) hE1 (level := 2) (.inr (.inr rfl)) (by decide) (by decide)
    exact this
  have HX1 := hid (And.intro hB1 (And.intro hn1 hs1))
  clear hE1 hB1 hn1 hs1
  go_wp2_with fail
  refine HB1.out.mono ?_
  rintro e w2 ⟨rfl, L2, b2, hE2, hK, hs, _⟩
  have hB2 : Below w.heap.size w w2 := HX1.out.1.trans (hK.below HX1.out.1.size HX1.out.2.1)
  have hn2 : ∀ g, L2.own g → w.heap.size ≤ g := fun g hg => (hK.sub g hg).elim (HX1.out.2.1 g) (fun e => Nat.le_trans HX1.out.1.size e)
  have hs2 : L2.s = L1.s := hs
  clear hK hs HB1 HX1
  have HB2 : Hid (Calls Tryz.prog 51 #[.pointer (some ⟨L1.s, 0, none⟩), .int .i64 2] w2 fun e w' => e = .returned (.tuple #[.int .i64 2, .nilIface]) ∧ ∃ L' b, EnAt w' L' rB ∧ KeptO L2.own L'.own w2 w' ∧ L'.s = L2.s ∧ L'.bs = L2.bs ++ [b]) := by
    have := begin_ok (E := rA) hE2 (level := 2) (.inr (.inr rfl)) (by decide) (by decide)
    rw [hs2] at this ⊢
    exact this
  have HX2 := hid (And.intro hB2 (And.intro hn2 hs2))
  clear hE2 hB2 hn2 hs2
  go_wp2_with fail
  refine HB2.out.mono ?_
  rintro e w3 ⟨rfl, L3, b3, hE3, hK, hs, _⟩
  have hB3 : Below w.heap.size w w3 := HX2.out.1.trans (hK.below HX2.out.1.size HX2.out.2.1)
  have hn3 : ∀ g, L3.own g → w.heap.size ≤ g := fun g hg => (hK.sub g hg).elim (HX2.out.2.1 g) (fun e => Nat.le_trans HX2.out.1.size e)
  have hs3 : L3.s = L1.s := hs.trans HX2.out.2.2
  clear hK hs HB2 HX2
  have HC3 : Hid (Calls Tryz.prog 52 #[.pointer (some ⟨L1.s, 0, none⟩), .int .i64 1, .int .i64 1] w3 fun e w' => e = .returned (.tuple #[.int .i64 0, errV 8]) ∧ EnPost L3 rC w3 w') := by
    have := read_any hE3 (HH.out w3 hB3) rB_mid (fun u hu => by have := rB_rd u hu; omega) (i := 0) (u := newTx 2 0) rfl rfl (by decide) rC_eq
    rw [hs3] at this
    exact this
  have HX3 := hid (And.intro hB3 (And.intro hn3 hs3))
  clear hE3 hB3 hn3 hs3
  go_wp2_with fail
  refine HC3.out.mono ?_
  rintro e w4 ⟨rfl, hP⟩
  obtain ⟨L4, hE4, hB4, hn4, hs⟩ := EnPost.go HX3.out.1 HX3.out.2.1 hP
  have hs4 : L4.s = L1.s := hs.trans HX3.out.2.2
  clear hP hs HC3 HX3
  have HC4 : Hid (Calls Tryz.prog 52 #[.pointer (some ⟨L1.s, 0, none⟩), .int .i64 2, .int .i64 2] w4 fun e w' => e = .returned (.tuple #[.int .i64 0, errV 8]) ∧ EnPost L4 rD w4 w') := by
    have := read_any hE4 (HH.out w4 hB4) rC_went.mid (fun u hu => by have := rC_went.rd u hu; omega) (i := 1) (Classical.choose_spec (show ∃ u, rC.txs[1]? = some u ∧ u.state = 0 from ⟨_, rfl, rfl⟩)).1 (Classical.choose_spec (show ∃ u, rC.txs[1]? = some u ∧ u.state = 0 from ⟨_, rfl, rfl⟩)).2 (by decide) rD_eq
    rw [hs4] at this
    exact this
  have HX4 := hid (And.intro hB4 (And.intro hn4 hs4))
  clear hE4 hB4 hn4 hs4
  go_wp2_with fail
  refine HC4.out.mono ?_
  rintro e w5 ⟨rfl, hP⟩
  obtain ⟨L5, hE5, hB5, hn5, hs⟩ := EnPost.go HX4.out.1 HX4.out.2.1 hP
  have hs5 : L5.s = L1.s := hs.trans HX4.out.2.2
  clear hP hs HC4 HX4
  have HC5 : Hid (Calls Tryz.prog 53 #[.pointer (some ⟨L1.s, 0, none⟩), .int .i64 1, .int .i64 2, .int .i64 5] w5 fun e w' => e = .returned (.tuple #[.bool true, errV 0]) ∧ EnPost L5 rF w5 w') := by
    have := write_main hE5 rD_went.mid.fits rD_rank (i := 0) (Classical.choose_spec (show ∃ u, rD.txs[0]? = some u ∧ u.state = 0 from ⟨_, rfl, rfl⟩)).1 (Classical.choose_spec (show ∃ u, rD.txs[0]? = some u ∧ u.state = 0 from ⟨_, rfl, rfl⟩)).2 (by decide) (by decide) rF_eq
    rw [hs5] at this
    exact this
  have HX5 := hid (And.intro hB5 (And.intro hn5 hs5))
  clear hE5 hB5 hn5 hs5
  go_wp2_with fail
  refine HC5.out.mono ?_
  rintro e w6 ⟨rfl, hP⟩
  obtain ⟨L6, hE6, hB6, hn6, hs⟩ := EnPost.go HX5.out.1 HX5.out.2.1 hP
  have hs6 : L6.s = L1.s := hs.trans HX5.out.2.2
  clear hP hs HC5 HX5
  have HC6 : Hid (Calls Tryz.prog 53 #[.pointer (some ⟨L1.s, 0, none⟩), .int .i64 2, .int .i64 1, .int .i64 6] w6 fun e w' => e = .returned (.tuple #[.bool true, errV 0]) ∧ EnPost L6 rG w6 w') := by
    have := write_main hE6 rF_went.mid.fits rF_rank (i := 1) (Classical.choose_spec (show ∃ u, rF.txs[1]? = some u ∧ u.state = 0 from ⟨_, rfl, rfl⟩)).1 (Classical.choose_spec (show ∃ u, rF.txs[1]? = some u ∧ u.state = 0 from ⟨_, rfl, rfl⟩)).2 (by decide) (by decide) rG_eq
    rw [hs6] at this
    exact this
  have HX6 := hid (And.intro hB6 (And.intro hn6 hs6))
  clear hE6 hB6 hn6 hs6
  go_wp2_with fail
  refine HC6.out.mono ?_
  rintro e w7 ⟨rfl, hP⟩
  obtain ⟨L7, hE7, hB7, hn7, hs⟩ := EnPost.go HX6.out.1 HX6.out.2.1 hP
  have hs7 : L7.s = L1.s := hs.trans HX6.out.2.2
  clear hP hs HC6 HX6
  have HT8 := hid (fun W (hB : Below w7.heap.size w7 W) => tellV 8 W (HH.out W (hB7.trans (hB.mono hB7.size))))
  have HCc : Hid (∀ W, Below w7.heap.size w7 W → Calls Tryz.prog 37 #[.pointer (some ⟨L1.s, 0, none⟩), .int .i64 1] W fun e w' => e = .returned (errV 13) ∧ EnPost L7 rH W w') := fun W hB => by
    have CH := (Classical.choose_spec (show ∃ u, rG.txs[0]? = some u ∧ u.state = 0 from ⟨_, rfl, rfl⟩))
    have := commit_main (hE7.below hB) rG_went.mid.fits (i := 0) CH.1 CH.2 (rG_went.mid.fine CH.1) (by have := rG_went.mid.last_le; have e : rG.ce.last = rG.last := rfl; omega) (by have := rG_went.mid.com.nwc; have := rG_went.mid.cw_len; have e : rG.ce.nw = rG.nw := rfl; omega) (by have := rG_went.mid.com_len; have e : rG.ce.com = rG.com := rfl; rw [e] at this; omega) (rG_went.mid.inst_ks _) rH_eq
    rw [hs7] at this
    exact this
  have HX7 := hid (And.intro hB7 (And.intro hn7 hs7))
  rw [show errV 8 = Value.iface 24 (.int .i64 8) from rfl, show errV 0 = Value.nilIface from rfl]
  rw [show errV 8 = Value.iface 24 (.int .i64 8) from rfl] at HT8
  clear hE7 hB7 hn7 hs7
  go_wp2_with fail
  refine (HT8.out _ (Below.refl _ _)).mono ?_
  rintro e w8 ⟨rfl, hB8⟩
  go_wp2_with fail
  refine (HT8.out _ hB8).mono ?_
  rintro e w9 ⟨rfl, hB9'⟩
  have hB9 : Below w7.heap.size w7 w9 := hB8.trans (hB9'.mono hB8.size)
  have HB9 := hid hB9
  clear hB8 hB9' hB9
  go_wp2_with fail
  refine (HCc.out _ HB9.out).mono ?_
  rintro e w10 ⟨rfl, hP⟩
  obtain ⟨L10, hE10, hB10, hn10, hs⟩ := EnPost.go (HX7.out.1.trans (HB9.out.mono HX7.out.1.size)) HX7.out.2.1 hP
  have hs10 : L10.s = L1.s := hs.trans HX7.out.2.2
  clear hP hs HCc HT8 HX7 HB9
  have HCd : Hid (Calls Tryz.prog 37 #[.pointer (some ⟨L1.s, 0, none⟩), .int .i64 2] w10 fun e w' => e = .returned (errV 0) ∧ EnPost L10 rI w10 w') := by
    have CH := (Classical.choose_spec (show ∃ u, rH.txs[1]? = some u ∧ u.state = 0 from ⟨_, rfl, rfl⟩))
    have := commit_main hE10 rH_went.mid.fits (i := 1) CH.1 CH.2 (rH_went.mid.fine CH.1) (by have := rH_went.mid.last_le; have e : rH.ce.last = rH.last := rfl; omega) (by have := rH_went.mid.com.nwc; have := rH_went.mid.cw_len; have e : rH.ce.nw = rH.nw := rfl; omega) (by have := rH_went.mid.com_len; have e : rH.ce.com = rH.com := rfl; rw [e] at this; omega) (rH_went.mid.inst_ks _) rI_eq
    rw [hs10] at this
    exact this
  have HX10 := hid (And.intro hB10 (And.intro hn10 hs10))
  clear hE10 hB10 hn10 hs10
  go_wp2_with fail
  refine HCd.out.mono ?_
  rintro e w11 ⟨rfl, hP⟩
  obtain ⟨L11, hE11, hB11, hn11, hs⟩ := EnPost.go HX10.out.1 HX10.out.2.1 hP
  have hs11 : L11.s = L1.s := hs.trans HX10.out.2.2
  have HT := hid (tellV 13 w11 (HH.out w11 hB11))
  have HL : Hid (∀ W, Below w11.heap.size w11 W → Calls Tryz.prog 86 #[.pointer (some ⟨L1.s, 0, none⟩)] W fun e w' => e = .returned (.int .i64 1) ∧ w' = W) := fun W hB => by
    have := lastE_any (hE11.below hB)
    rw [hs11] at this
    exact this
  have HB11 := hid hB11
  rw [show errV 0 = Value.nilIface from rfl]
  clear hP hs HCd HX10 hE11 hB11 hn11 hs11
  go_wp2_with fail
  refine HT.out.mono ?_
  rintro e w12 ⟨rfl, hB12⟩
  have HB12 := hid hB12
  clear hB12
  go_wp2_with fail
  refine (HL.out _ HB12.out).mono ?_
  rintro e w13 ⟨rfl, hw13⟩
  rw [hw13]
  go_wp2
  go_ret
  exact ⟨rfl, HB11.out.trans (HB12.out.mono HB11.out.size)⟩

end Go.Proofs.YtjefgmeejhakbaaGreatDoor
