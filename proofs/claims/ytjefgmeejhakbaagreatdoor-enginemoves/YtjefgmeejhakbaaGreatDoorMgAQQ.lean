/- KtPlain KtBegin KtLater KtTells KtOk: put together for a claim. -/
import Derived.Test.YtjefgmeejhakbaaGreatDoorMgAOQ
/- Plain: what one act makes of an engine and its tale. -/
namespace Go.Proofs.YtjefgmeejhakbaaGreatDoor
def ofP (l : List (Int × Int)) (k : Int) : Int := match l.find? (fun p => p.1 == k) with
  | some p => p.2
  | none => -1
def overB (E : Eng) (i : Nat) : Bool := match E.txs[i]? with
  | some t => decide (2 ≤ t.state)
  | none => false
def overTo (E : Eng) (steps : Int) (j : Nat) (l : List Int) : List Int := l.mapIdx (fun i o => if i < j ∧ o = 0 ∧ overB E i = true then steps else o)
def stepT (t : Tal) : Tal := { t with steps := t.steps + 1 }
def beginT (E : Eng) (t : Tal) (level : Int) : Tal := { t with level := t.level ++ [level], snap := t.snap ++ [allE E], own := t.own ++ [fun _ => none], reads := t.reads ++ [[]], begun := t.begun ++ [t.steps], over := t.over ++ [0] }
def endT (E : Eng) (t : Tal) : Tal := { t with over := overTo E t.steps t.over.length t.over }
def ownT (t : Tal) (x : Nat) : Int → Option Int := t.own[x]?.getD (fun _ => none)
def wantT (E : Eng) (t : Tal) (x : Nat) (key : Int) : Int := if t.level[x]?.getD 0 = 0 then ofP (allE E) key else ofP (t.snap[x]?.getD []) key
def readV (r : Int × Int) : Int := if r.2 = 8 then -1 else r.1
def readT (E : Eng) (t : Tal) (x : Nat) (key : Int) (r : Int × Int) : Tal :=
  if r.2 ≠ 0 ∧ r.2 ≠ 8 then t else match ownT t x key with
  | some v => { t with broken := t.broken || readV r != v }
  | none => { t with broken := t.broken || readV r != wantT E t x key, reads := t.reads.set x ((t.reads[x]?.getD []) ++ [(key, readV r)]) }
def nextT (t : Tal) : Tal := { t with n := t.n + 1 }
def writeT (t : Tal) (x : Nat) (key : Int) (r : Bool × Int) (o : Bool) : Tal :=
  if r.2 ≠ 0 then t else { t with own := t.own.set x (updT (ownT t x) key (some t.n)), broken := t.broken || r.1 != o }
def openB (E : Eng) (i : Nat) : Bool := match E.txs[i]? with
  | some t => decide (t.state = 0)
  | none => false
inductive Does (lv : Int) : Eng → Tal → Eng → Tal → Prop where
  | same (E : Eng) (t : Tal) : Does lv E t E (stepT t)
  | begin (E : Eng) (t : Tal) (level : Int) (h : (level = 0 ∨ level = 1 ∨ level = 2) ∧ (0 ≤ lv → level = lv)) (hl : E.txs.length < 200) (ho : (liveOnes E).length < 6) : Does lv E t { E with txs := E.txs ++ [newTx level E.last] } (beginT E (stepT t) level)
  | sweep (E : Eng) (t : Tal) : Does lv E t (sweepE E) (stepT t)
  | shut (E : Eng) (t : Tal) : Does lv E t E (endT E (stepT t))
  | read (E : Eng) (t : Tal) (x : Nat) (u : Tx) (key : Int) (R : (Int × Int) × Eng) (hu : E.txs[x]? = some u) (hs : u.state = 0) (hk : 0 ≤ key ∧ key < 4) (hR : readE 7 E x key = some R) : Does lv E t R.2 (endT R.2 (readT E (stepT t) x key R.1))
  | wshut (E : Eng) (t : Tal) : Does lv E t E (endT E (nextT (stepT t)))
  | write (E : Eng) (t : Tal) (x : Nat) (u : Tx) (key : Int) (q : Int → Nat) (R : (Bool × Int) × Eng) (hu : E.txs[x]? = some u) (hs : u.state = 0) (hk : 0 ≤ key ∧ key < 4) (hq : Ranked E.T q) (hR : writeE 7 q E x key (t.n + 1) = some R) : Does lv E t R.2 (endT R.2 (writeT (nextT (stepT t)) x key R.1 (openB R.2 x)))
  | commit (E : Eng) (t : Tal) (x : Nat) (u : Tx) (R : Int × Eng) (hu : E.txs[x]? = some u) (hs : u.state = 0) (hR : commitE 7 E x = some R) : Does lv E t R.2 (endT R.2 (stepT t))
  | abort (E : Eng) (t : Tal) (x : Nat) (u : Tx) (E' : Eng) (hu : E.txs[x]? = some u) (hs : liveB u.state = true) (hR : endF 7 (loseE E x 0) x 3 = some E') : Does lv E t E' (endT E' (stepT t))
end Go.Proofs.YtjefgmeejhakbaaGreatDoor

/- The tale when one more transaction is begun. -/
namespace Go.Proofs.YtjefgmeejhakbaaGreatDoor
open Go.RowKit
def newX (level steps : Int) (av : Value) (m : Nat) : Nat → Value
  | 0 => .int .i64 level
  | 1 => av
  | 2 => mapV m
  | 3 => .slice none 0 0
  | 4 => .int .i64 steps
  | _ => .int .i64 0
def moreL (L : TalL) (row' : Nat → Value) (av : Value) (m : Nat) : TalL := ⟨L.b, row', L.sn ++ [av], L.om ++ [m], L.rd ++ [.slice none 0 0]⟩
theorem moreX (L : TalL) (E : Eng) (t : Tal) (row' : Nat → Value) (av : Value) (m : Nat) (level : Int) (j : Nat) (hj : j < 6) : (moreL L row' av m).rowX (beginT E t level) j = L.rowX t j ++ [newX level t.steps av m j] := by
  obtain rfl | rfl | rfl | rfl | rfl | rfl : j = 0 ∨ j = 1 ∨ j = 2 ∨ j = 3 ∨ j = 4 ∨ j = 5 := by omega
  all_goals simp [TalL.rowX, moreL, beginT, newX, intsV, mapV]
theorem getElem?_snoc {α : Type} {l : List α} {x y : α} {i : Nat} (h : (l ++ [x])[i]? = some y) : (i < l.length ∧ l[i]? = some y) ∨ (i = l.length ∧ y = x) := by
  rw [List.getElem?_append] at h
  split at h
  · rename_i hi
    exact .inl ⟨hi, h⟩
  · rename_i hi
    rw [List.getElem?_singleton] at h
    split at h
    · injection h with h
      exact .inr ⟨by omega, h.symm⟩
    · cases h
open Classical in
theorem TalAt.more {w w' : World} {s N : Nat} {L : TalL} {t : Tal} (h : TalAt w s L t N) {E : Eng} {level : Int} {row' : Nat → Value} {av : Value} {m : Nat}
    (hb : w'.heap[L.b]? = some (.cells (talCells s row' t.steps t.n t.broken) 67 (0, 0)))
    (hrow : ∀ j, j < 6 → w'.ownsRow 0 (rowT j) 1 (row' j) (N + 1) (L.rowX t j ++ [newX level t.steps av m j]) ∧ ∀ g, (row' j).ownBlock = some g → (L.row j).ownBlock = some g ∨ w.heap.size ≤ g)
    (hd : ∀ i j g, i < 6 → j < 6 → (row' i).ownBlock = some g → (row' j).ownBlock = some g → i = j)
    (hav : w'.ownsRow 0 78 2 av (allE E).length (vrow (allE E))) (hav2 : ∀ g, av.ownBlock = some g → ¬ L.own g ∧ g < w.heap.size)
    (hm : IMap w' m 10 (fun _ => none)) (hm2 : w.heap.size ≤ m)
    (hs : ∀ g, g < w.heap.size → g ≠ L.b → (∀ j, j < 6 → (L.row j).ownBlock ≠ some g) → w'.heap[g]? = w.heap[g]?) :
    TalAt w' s (moreL L row' av m) (beginT E t level) (N + 1) ∧ (∀ g, (moreL L row' av m).own g → L.own g ∨ w.heap.size ≤ g ∨ av.ownBlock = some g) ∧ ∀ g, g < w.heap.size → ¬ L.own g → w'.heap[g]? = w.heap[g]? := by
  obtain ⟨ρ, T⟩ := h.tag
  have hl := h.len
  have hkeep : ∀ g, L.own g → g ≠ L.b → (∀ j, ρ g ≠ .row j) → w'.heap[g]? = w.heap[g]? := fun g hg hne hn => hs g (h.own_lt hg) hne (fun j hj e => hn j (T.row j g hj e))
  have o_sn : ∀ {i : Nat} {v : Value} {g : Nat}, L.sn[i]? = some v → v.ownBlock = some g → L.own g := fun h1 h2 => .inr (.inr (.inl ⟨_, _, h1, h2⟩))
  have o_om : ∀ {i g : Nat}, L.om[i]? = some g → L.own g := fun h1 => .inr (.inr (.inr (.inl ⟨_, h1⟩)))
  have o_rd : ∀ {i : Nat} {v : Value} {g : Nat}, L.rd[i]? = some v → v.ownBlock = some g → L.own g := fun h1 h2 => .inr (.inr (.inr (.inr ⟨_, _, h1, h2⟩)))
  have o_row : ∀ {j g : Nat}, j < 6 → (L.row j).ownBlock = some g → L.own g := fun h1 h2 => .inr (.inl ⟨_, h1, h2⟩)
  have hrm : ∀ j, j < 6 → (row' j).ownBlock ≠ some m := fun j hj e => by
    obtain ⟨cur, hc⟩ := owns_typ (hrow j hj).1 e
    exact hm.ne hc rfl
  refine ⟨⟨hb, fun j hj => ?_, fun i v l hv hl' => ?_, fun i b f hbm hf => ?_, fun i v l hv hl' => ?_, ?_, ?_⟩, fun g hg => ?_, fun g hg hn => ?_⟩
  · rw [moreX L E t row' av m level j hj]
    exact (hrow j hj).1
  · rcases getElem?_snoc hv with ⟨hi, hv⟩ | ⟨hi, rfl⟩
    · rcases getElem?_snoc hl' with ⟨_, hl'⟩ | ⟨hi', _⟩
      · refine owns_same (h.sn i v l hv hl') (fun g hg => hkeep g (o_sn hv hg) (fun e => ?_) (fun j e => ?_))
        · have := T.sn i v g hv hg; rw [e, T.b] at this; cases this
        · rw [T.sn i v g hv hg] at e; cases e
      · have := hl.sn; have := hl.snap; omega
    · rcases getElem?_snoc hl' with ⟨hi', _⟩ | ⟨_, rfl⟩
      · have := hl.sn; have := hl.snap; omega
      · exact hav
  · rcases getElem?_snoc hbm with ⟨hi, hbm⟩ | ⟨hi, rfl⟩
    · rcases getElem?_snoc hf with ⟨_, hf⟩ | ⟨hi', _⟩
      · have h1 := h.om i b f hbm hf
        refine ⟨h1.1.same (hkeep b (o_om hbm) (fun e => ?_) (fun j e => ?_)), h1.2⟩
        · have := T.om i b hbm; rw [e, T.b] at this; cases this
        · rw [T.om i b hbm] at e; cases e
      · have := hl.om; have := hl.own; omega
    · rcases getElem?_snoc hf with ⟨hi', _⟩ | ⟨_, rfl⟩
      · have := hl.om; have := hl.own; omega
      · exact ⟨hm, fun k hk => (hk rfl).elim⟩
  · rcases getElem?_snoc hv with ⟨hi, hv⟩ | ⟨hi, rfl⟩
    · rcases getElem?_snoc hl' with ⟨_, hl'⟩ | ⟨hi', _⟩
      · refine owns_same (h.rd i v l hv hl') (fun g hg => hkeep g (o_rd hv hg) (fun e => ?_) (fun j e => ?_))
        · have := T.rd i v g hv hg; rw [e, T.b] at this; cases this
        · rw [T.rd i v g hv hg] at e; cases e
      · have := hl.rd; have := hl.reads; omega
    · rcases getElem?_snoc hl' with ⟨hi', _⟩ | ⟨_, rfl⟩
      · have := hl.rd; have := hl.reads; omega
      · exact ⟨rfl, .inl ⟨rfl, rfl⟩⟩
  · exact ⟨by simp [beginT, hl.level], by simp [beginT, hl.snap], by simp [beginT, hl.own], by simp [beginT, hl.reads], by simp [beginT, hl.begun], by simp [beginT, hl.over], by simp [moreL, hl.sn], by simp [moreL, hl.om], by simp [moreL, hl.rd]⟩
  · refine ⟨fun g => if g < w.heap.size then (if av.ownBlock = some g then .sn N else ρ g) else if g = m then .om N else if hx : ∃ j, j < 6 ∧ (row' j).ownBlock = some g then .row hx.choose else .b, ?_⟩
    have hold : ∀ g, L.own g → (if g < w.heap.size then (if av.ownBlock = some g then TTag.sn N else ρ g) else if g = m then TTag.om N else if hx : ∃ j, j < 6 ∧ (row' j).ownBlock = some g then TTag.row hx.choose else TTag.b) = ρ g := fun g hg => by
      rw [if_pos (h.own_lt hg), if_neg (fun e => (hav2 g e).1 hg)]
    refine ⟨(hold L.b (.inl rfl)).trans T.b, fun j g hj hg => ?_, fun i v g hv hg => ?_, fun i g hi => ?_, fun i v g hv hg => ?_⟩
    · rcases (hrow j hj).2 g hg with h1 | h1
      · exact (hold g (o_row hj h1)).trans (T.row j g hj h1)
      · have hx : ∃ j, j < 6 ∧ (row' j).ownBlock = some g := ⟨j, hj, hg⟩
        show (if g < w.heap.size then _ else _) = _
        rw [if_neg (by omega), if_neg (fun e => hrm j hj (by rw [← e]; exact hg)), dif_pos hx]
        have := hx.choose_spec
        rw [hd _ _ g this.1 hj this.2 hg]
    · rcases getElem?_snoc hv with ⟨hi, hv⟩ | ⟨hi, rfl⟩
      · exact (hold g (o_sn hv hg)).trans (T.sn i v g hv hg)
      · show (if g < w.heap.size then _ else _) = _
        rw [if_pos (hav2 g hg).2, if_pos hg, hi, hl.sn]
    · rcases getElem?_snoc hi with ⟨_, hi⟩ | ⟨hi', rfl⟩
      · exact (hold g (o_om hi)).trans (T.om i g hi)
      · show (if g < w.heap.size then _ else _) = _
        rw [if_neg (by omega), if_pos rfl, hi', hl.om]
    · rcases getElem?_snoc hv with ⟨hi, hv⟩ | ⟨hi, rfl⟩
      · exact (hold g (o_rd hv hg)).trans (T.rd i v g hv hg)
      · cases hg
  · rcases hg with hg | ⟨j, hj, hg⟩ | ⟨i, v, hv, hg⟩ | ⟨i, hi⟩ | ⟨i, v, hv, hg⟩
    · exact .inl (.inl hg)
    · rcases (hrow j hj).2 g hg with h1 | h1
      · exact .inl (o_row hj h1)
      · exact .inr (.inl h1)
    · rcases getElem?_snoc hv with ⟨_, hv⟩ | ⟨_, rfl⟩
      · exact .inl (o_sn hv hg)
      · exact .inr (.inr hg)
    · rcases getElem?_snoc hi with ⟨_, hi⟩ | ⟨_, rfl⟩
      · exact .inl (o_om hi)
      · exact .inr (.inl hm2)
    · rcases getElem?_snoc hv with ⟨_, hv⟩ | ⟨_, rfl⟩
      · exact .inl (o_rd hv hg)
      · cases hg
  · exact hs g hg (fun e => hn (.inl e)) (fun j hj e => hn (o_row hj e))
end Go.Proofs.YtjefgmeejhakbaaGreatDoor

/- Plain: what was committed stays so. -/
namespace Go.Proofs.YtjefgmeejhakbaaGreatDoor
structure Later (C C' : CE) : Prop where
  keep : ∀ (i : Nat) (t : Cor), C.cs[i]? = some t → ∃ t', C'.cs[i]? = some t' ∧ t'.level = t.level ∧ t'.start = t.start ∧ (liveB t.state = false → t' = t)
  com : ∃ l, C'.com = C.com ++ l
theorem Later.refl (C : CE) : Later C C := ⟨fun _ t h => ⟨t, h, rfl, rfl, fun _ => rfl⟩, [], by simp⟩
theorem Later.trans {A B C : CE} (h : Later A B) (k : Later B C) : Later A C := by
  obtain ⟨l1, e1⟩ := h.com
  obtain ⟨l2, e2⟩ := k.com
  refine ⟨fun i t ht => ?_, l1 ++ l2, by rw [e2, e1, List.append_assoc]⟩
  obtain ⟨t1, h1, h2, h3, h4⟩ := h.keep i t ht
  obtain ⟨t2, k1, k2, k3, k4⟩ := k.keep i t1 h1
  exact ⟨t2, k1, k2.trans h2, k3.trans h3, fun hl => by
    have e := h4 hl
    rw [e] at k4
    exact k4 hl⟩
theorem Later.set {C C' : CE} {i : Nat} {t t' : Cor} (ht : C.cs[i]? = some t) (hl : liveB t.state = true) (h1 : t'.level = t.level) (h2 : t'.start = t.start) (hc : C'.cs = C.cs.set i t') (hm : C'.com = C.com) : Later C C' := by
  refine ⟨fun j u hu => ?_, [], by simp [hm]⟩
  rw [hc]
  by_cases e : j = i
  · subst e
    rw [ht] at hu
    cases hu
    exact ⟨t', set_same ht, h1, h2, fun h => by rw [hl] at h; cases h⟩
  · exact ⟨u, by rw [set_ne e]; exact hu, rfl, rfl, fun _ => rfl⟩
section
variable {a0 : Int} {K0 : Int → Option Int} {C C' : CE}
end
theorem later_put {E E2 : Eng} {j : Nat} {t : Tx} (ht : E.txs[j]? = some t) (hl : liveB t.state = true) {why : Int} (hp : putE (wakeE E j) j = (why, E2)) : Later E.ce E2.ce ∧ ∃ u, E2.txs[j]? = some u ∧ u.state = 0 := by
  have hw : (wakeE E j).txs[j]? = some { t with state := 0 } := by unfold wakeE; rw [Eng.upd_some ht]; exact setTx_get ht
  have hwc : (wakeE E j).ce = { E.ce with cs := E.ce.cs.set j { cor t with state := 0 } } := by unfold wakeE; rw [ce_upd ht]; rfl
  rcases ce_put hw hp with ⟨rfl, rfl, _, _⟩ | ⟨hy, hn, he⟩
  · exact ⟨Later.set (t' := { cor t with state := 0 }) (cs_get ht) hl rfl rfl (by rw [hwc]) (by rw [hwc]), _, hw, rfl⟩
  · have hcs : E2.ce.cs = E.ce.cs.set j { cor t with state := 0, vals := updT t.vals t.wk (some t.wv) } := by
      rw [he, hwc]
      simp [cor]
    obtain ⟨u, hu, e⟩ := cs_of (E := E2) (i := j) (by rw [hcs]; exact set_same (cs_get ht))
    exact ⟨Later.set (t' := { cor t with state := 0, vals := updT t.vals t.wk (some t.wv) }) (cs_get ht) hl rfl rfl hcs (by rw [he, hwc]), u, hu, by have := congrArg Cor.state e; exact this⟩
theorem later_gone {E : Eng} {i : Nat} {t : Tx} (ht : E.txs[i]? = some t) (hl : liveB t.state = true) (why : Int) : Later E.ce (overE (loseE E i why) i 3).ce := by
  obtain ⟨u, hu, e⟩ := lose_get (why := why) ht
  rw [ce_over hu, e, ce_lose]
  exact Later.set (t' := { cor t with state := 3 }) (cs_get ht) hl rfl rfl rfl rfl
theorem later_commit {E : Eng} {i : Nat} {t : Tx} (ht : E.txs[i]? = some t) (hl : liveB t.state = true) : Later E.ce (overE { (installE E i) with com := E.com ++ [i] } i 2).ce := by
  have h1 : (installE E i).txs = E.txs := by
    unfold installE
    split
    · split <;> rfl
    · rfl
  have ht' : ({ (installE E i) with com := E.com ++ [i] } : Eng).txs[i]? = some t := by show (installE E i).txs[i]? = _; rw [h1]; exact ht
  rw [ce_over ht']
  refine ⟨fun j u hu => ?_, [i], rfl⟩
  show ∃ t', (((installE E i).txs.map cor).set i { cor t with state := 2 })[j]? = some t' ∧ _
  rw [h1]
  by_cases e : j = i
  · subst e
    rw [cs_get ht] at hu
    cases hu
    exact ⟨_, set_same (cs_get ht), rfl, rfl, fun h => by rw [show (cor t).state = t.state from rfl, hl] at h; cases h⟩
  · exact ⟨u, by rw [set_ne e]; exact hu, rfl, rfl, fun _ => rfl⟩
theorem goes_later (a0 : Int) (K0 : Int → Option Int) (C : CE) : Goes a0 K0 (fun E _ => Later C E.ce) := by
  refine ⟨fun E Q j E2 hM hP hq hp => ?_, fun E Q j why E2 hM hP hq hp hy => ?_⟩
  · obtain ⟨u, hu, h1, _⟩ := hM.loc.pend j hq
    obtain ⟨t, ht, rfl⟩ := cs_of hu
    exact hP.trans (later_put ht (live_iff.2 (.inr h1)) hp).1
  · obtain ⟨u, hu, h1, _⟩ := hM.loc.pend j hq
    obtain ⟨t, ht, rfl⟩ := cs_of hu
    obtain ⟨h2, v, hv, h3⟩ := later_put ht (live_iff.2 (.inr h1)) hp
    exact (hP.trans h2).trans (later_gone hv (live_iff.2 (.inl h3)) why)
end Go.Proofs.YtjefgmeejhakbaaGreatDoor

/- Plain: an engine and its tale go on as they should: what each one reads is what it should. -/
namespace Go.Proofs.YtjefgmeejhakbaaGreatDoor
theorem of_writes {V : Int → Option Int} (hV : ∀ k, V k ≠ none → 0 ≤ k ∧ k < 10) (k : Int) : (writesP V).find? (fun p => p.1 == k) = (V k).map (fun x => (k, x)) := by
  unfold writesP
  rw [List.find?_map]
  have key : ∀ l : List Int, l.find? (fun x => x == k) = if k ∈ l then some k else none := by
    intro l
    induction l with
    | nil => rfl
    | cons x r ih =>
      rw [List.find?_cons]
      by_cases e : x = k
      · subst e; simp
      · have : (x == k) = false := by simpa using e
        rw [this, ih]
        have e' : ¬ k = x := fun h => e h.symm
        simp [e']
  show Option.map _ ((keysOf V).find? (fun x => x == k)) = _
  rw [key]
  cases hv : V k with
  | none => rw [if_neg (fun hm => by rw [mem_keysOf hV, hv] at hm; cases hm)]; rfl
  | some x => rw [if_pos ((mem_keysOf hV k).2 (by rw [hv]; rfl))]; simp [hv]
abbrev Mid0 (E : Eng) : Prop := Mid 0 (fun _ => none) E.ce noQ
section
variable {E E' : Eng} {t t' : Tal}
theorem over_get (E : Eng) (s : Int) (j : Nat) (l : List Int) (i : Nat) : (overTo E s j l)[i]? = (l[i]?).map (fun o => if i < j ∧ o = 0 ∧ overB E i = true then s else o) := by
  unfold overTo
  rw [List.getElem?_mapIdx]
end
end Go.Proofs.YtjefgmeejhakbaaGreatDoor

/- Plain: what is asked of a tale stays so. -/
namespace Go.Proofs.YtjefgmeejhakbaaGreatDoor
def RdLe (E E' : Eng) : Prop := ∀ u' ∈ E'.txs, ∃ u ∈ E.txs, u'.reads.length ≤ u.reads.length
theorem RdLe.refl (E : Eng) : RdLe E E := fun u hu => ⟨u, hu, Nat.le_refl _⟩
theorem RdLe.trans {A B C : Eng} (h : RdLe A B) (k : RdLe B C) : RdLe A C := fun u hu => by
  obtain ⟨v, hv, h1⟩ := k u hu
  obtain ⟨w, hw, h2⟩ := h v hv
  exact ⟨w, hw, by omega⟩
theorem RdLe.set {E : Eng} {i : Nat} {t t' : Tx} (ht : E.txs[i]? = some t) (h : t'.reads.length ≤ t.reads.length) : RdLe E (E.setTx i t') := fun u hu => by
  rcases List.mem_or_eq_of_mem_set hu with hu | rfl
  · exact ⟨u, hu, Nat.le_refl _⟩
  · exact ⟨t, List.mem_of_getElem? ht, h⟩
theorem RdLe.of_txs {E E' : Eng} (h : E'.txs = E.txs) : RdLe E E' := fun u hu => ⟨u, by rw [← h]; exact hu, Nat.le_refl _⟩
theorem rd_putAhead (E : Eng) (i j : Nat) : RdLe E (putAheadP E i j).2 := by
  unfold putAheadP
  split
  · rename_i t u ht hu
    intro v hv
    simp only [Eng.setTx] at hv
    rcases List.mem_or_eq_of_mem_set hv with hv | rfl
    · rcases List.mem_or_eq_of_mem_set hv with hv | rfl
      · exact ⟨v, hv, Nat.le_refl _⟩
      · exact ⟨t, List.mem_of_getElem? ht, Nat.le_refl _⟩
    · exact ⟨u, List.mem_of_getElem? hu, Nat.le_refl _⟩
  · exact RdLe.refl E
theorem rd_aheadAll (f : Nat → Nat × Nat) : ∀ (js : List Nat) (E : Eng), RdLe E (aheadAll f js E).2
  | [], E => RdLe.refl E
  | j :: r, E => by
    have h1 := rd_putAhead E (f j).1 (f j).2
    unfold aheadAll
    rcases hp : putAheadP E (f j).1 (f j).2 with ⟨b, E'⟩
    rw [hp] at h1
    cases b with
    | true => exact h1.trans (rd_aheadAll f r E')
    | false => exact h1
theorem rd_aheadEach (i : Nat) : ∀ (js : List Nat) (E : Eng), RdLe E (aheadEach i js E)
  | [], E => RdLe.refl E
  | j :: r, E => by
    unfold aheadEach
    exact (rd_putAhead E i j).trans (rd_aheadEach i r _)
theorem rd_aheadTimes (i : Nat) : ∀ (ts : List Int) (E : Eng), RdLe E (aheadTimes i ts E).2
  | [], E => RdLe.refl E
  | a :: r, E => by
    unfold aheadTimes
    split
    · rename_i j _
      have h1 := rd_putAhead E i j
      rcases hp : putAheadP E i j with ⟨b, E'⟩
      rw [hp] at h1
      cases b with
      | true => exact h1.trans (rd_aheadTimes i r E')
      | false => exact h1
    · exact rd_aheadTimes i r E
theorem rd_aow (E : Eng) (i : Nat) (key : Int) : RdLe E (aowP E i key).2 := by
  unfold aowP
  split
  · rename_i t _
    have h1 := rd_aheadTimes i (newerP E key t.start) E
    rcases hp : aheadTimes i (newerP E key t.start) E with ⟨b, E'⟩
    rw [hp] at h1
    cases b with
    | true => exact h1.trans (rd_aheadEach i _ E')
    | false => exact h1
  · exact RdLe.refl E
theorem rd_put (E : Eng) (j : Nat) : RdLe E (putE E j).2 := by
  unfold putE
  split
  · rename_i t ht
    split
    · exact RdLe.refl E
    · have h1 : RdLe E (E.setTx j { t with vals := updT t.vals t.wk (some t.wv) }) := RdLe.set ht (Nat.le_refl _)
      simp only
      split
      · have h2 := rd_aheadAll (fun m => (m, j)) (thoseP (E.setTx j { t with vals := updT t.vals t.wk (some t.wv) }) (hasReadB t.wk j)) (E.setTx j { t with vals := updT t.vals t.wk (some t.wv) })
        rcases hb : behindP (E.setTx j { t with vals := updT t.vals t.wk (some t.wv) }) j t.wk with ⟨b, E3⟩
        unfold behindP at hb
        rw [hb] at h2
        cases b <;> exact h1.trans h2
      · exact h1
  · exact RdLe.refl E
theorem rd_upd (E : Eng) (i : Nat) (f : Tx → Tx) (hf : ∀ t, (f t).reads.length ≤ t.reads.length) : RdLe E (E.upd i f) := by
  unfold Eng.upd
  split
  · rename_i t ht
    exact RdLe.set ht (hf t)
  · exact RdLe.refl E
theorem rd_over (E : Eng) (i : Nat) (st : Int) : RdLe E (overE E i st) := (rd_upd E i (fun t => { t with state := st, bae := E.txs.length }) (fun _ => Nat.le_refl _)).trans (RdLe.of_txs rfl)
theorem rd_lose (E : Eng) (i : Nat) (why : Int) : RdLe E (loseE E i why) := by
  unfold loseE
  split
  · rename_i t ht
    refine RdLe.trans (B := { E with txs := (E.txs.set i { t with why := why }).map (freeOf ((i : Int) + 1)) }) ?_ (rd_upd _ i _ (fun _ => Nat.zero_le _))
    intro u hu
    obtain ⟨v, hv, rfl⟩ := List.mem_map.1 hu
    rcases List.mem_or_eq_of_mem_set hv with hv | rfl
    · exact ⟨v, hv, Nat.le_refl _⟩
    · exact ⟨t, List.mem_of_getElem? ht, Nat.le_refl _⟩
  · exact RdLe.refl E
theorem rd_wake (E : Eng) (j : Nat) : RdLe E (wakeE E j) := rd_upd E j _ (fun _ => Nat.le_refl _)
theorem goes_rd (a0 : Int) (K0 : Int → Option Int) (E0 : Eng) : Goes a0 K0 (fun E _ => RdLe E0 E) := by
  refine ⟨fun E Q j E2 _ hP _ hp => ?_, fun E Q j why E2 _ hP _ hp _ => ?_⟩
  · have := rd_put (wakeE E j) j
    rw [hp] at this
    exact hP.trans ((rd_wake E j).trans this)
  · have := rd_put (wakeE E j) j
    rw [hp] at this
    exact (hP.trans ((rd_wake E j).trans this)).trans ((rd_lose E2 j why).trans (rd_over _ j 3))
def Kp (E0 : Eng) (E : Eng) (_ : Nat → Prop) : Prop := RdLe E0 E ∧ Later E0.ce E.ce
theorem goes_kp (E0 : Eng) : Goes 0 (fun _ => none) (Kp E0) := goes_and (goes_rd _ _ E0) (goes_later _ _ E0.ce)
theorem inst_txs (E : Eng) (i : Nat) : (installE E i).txs = E.txs := by
  unfold installE
  split
  · split <;> rfl
  · rfl
structure Went (E E' : Eng) (n : Nat) : Prop where
  mid : Mid0 E'
  rd : ∀ u ∈ E'.txs, u.reads.length ≤ n
  later : Later E.ce E'.ce
section
variable {E E' : Eng} {i : Nat} {u : Tx} {n : Nat}
theorem rd_of (h : RdLe E E') (hn : ∀ u ∈ E.txs, u.reads.length ≤ n) : ∀ u ∈ E'.txs, u.reads.length ≤ n := fun v hv => by
  obtain ⟨w, hw, h1⟩ := h v hv
  have := hn w hw
  omega
theorem went_commit (hM : Mid0 E) (hn : ∀ u ∈ E.txs, u.reads.length ≤ n) (hu : E.txs[i]? = some u) (hs : u.state = 0) {R : Int × Eng} (hR : commitE 7 E i = some R) : Went E R.2 n ∧ R.2.ce.live < E.ce.live := by
  have hl : liveB u.state = true := live_iff.2 (.inl hs)
  by_cases hb : Between u.ahead u.behind
  · obtain ⟨E', h1, h2, h3, h4⟩ := commit_bad (goes_kp E) hM hu hl hb ⟨(rd_lose E i 13).trans (rd_over _ i 3), later_gone hu hl 13⟩
    rw [h1] at hR
    injection hR with hR
    subst hR
    exact ⟨⟨h2, rd_of h3.1 hn, h3.2⟩, h4⟩
  · obtain ⟨E', h1, h2, h3, h4⟩ := commit_ok (goes_kp E) hM hu hl hb ⟨(RdLe.of_txs (E' := { (installE E i) with com := E.com ++ [i] }) (inst_txs E i)).trans (rd_over _ i 2), later_commit hu hl⟩
    rw [h1] at hR
    injection hR with hR
    subst hR
    exact ⟨⟨h2, rd_of h3.1 hn, h3.2⟩, h4⟩
theorem went_abort (hM : Mid0 E) (hn : ∀ u ∈ E.txs, u.reads.length ≤ n) (hu : E.txs[i]? = some u) (hl : liveB u.state = true) (hR : endF 7 (loseE E i 0) i 3 = some E') : Went E E' n ∧ E'.ce.live < E.ce.live := by
  obtain ⟨E2, h1, h2, h3, h4⟩ := lose_ok (goes_kp E) hM hu hl (why := 0) ⟨(rd_lose E i 0).trans (rd_over _ i 3), later_gone hu hl 0⟩
  rw [h1] at hR
  injection hR with hR
  subst hR
  exact ⟨⟨h2, rd_of h3.1 hn, h3.2⟩, h4⟩
theorem went_read (hM : Mid0 E) (hn : ∀ u ∈ E.txs, u.reads.length ≤ n) (hu : E.txs[i]? = some u) (hs : u.state = 0) {key : Int} (hk : 0 ≤ key ∧ key < 10) {R : (Int × Int) × Eng} (hR : readE 7 E i key = some R) : Went E R.2 (n + 1) := by
  cases hv : u.vals key with
  | some v =>
    have e : R = ((v, 0), E) := by
      unfold readE at hR
      rw [hu] at hR
      simp only at hR
      rw [hv] at hR
      injection hR with hR
      exact hR.symm
    subst e
    exact ⟨hM, fun u hu => by have := hn u hu; omega, Later.refl _⟩
  | none =>
    have hnote : ∀ v ∈ (noteE E i u key).txs, v.reads.length ≤ n + 1 := fun v hv => by
      rcases List.mem_or_eq_of_mem_set hv with hv | rfl
      · have := hn v hv; omega
      · have := hn u (List.mem_of_getElem? hu)
        show (u.reads ++ [_]).length ≤ n + 1
        simp
        omega
    have hln : Later E.ce (noteE E i u key).ce := by rw [ce_note hu]; exact Later.refl _
    have hN : (noteE E i u key).txs[i]? = some (noteReadP u key ((E.wr (verP E key (seesP E u)).1.1).getD 0)) := setTx_get hu
    obtain ⟨R', h1, h2, h3, _⟩ := read_ok (goes_kp (noteE E i u key)) hM hu hs hk hv (fun _ => ⟨RdLe.refl _, Later.refl _⟩) (fun E2 _ ha => by
        have h5 := rd_aow (noteE E i u key) i key
        have h6 := ce_aow (noteE E i u key) i key
        rw [ha] at h5 h6
        exact ⟨h5, by rw [h6]; exact Later.refl _⟩) (fun E2 _ ha => by
        have h5 := rd_aow (noteE E i u key) i key
        have h6 := ce_aow (noteE E i u key) i key
        rw [ha] at h5 h6
        simp only at h6
        obtain ⟨v, hv2, e⟩ : ∃ v, E2.txs[i]? = some v ∧ cor v = cor u := cs_of (by rw [h6, ce_note hu]; exact cs_get hu)
        have hvs : v.state = 0 := by have := congrArg Cor.state e; exact this.trans hs
        have h7 := later_gone hv2 (live_iff.2 (.inl hvs)) 13
        rw [h6] at h7
        exact ⟨h5.trans ((rd_lose E2 i 13).trans (rd_over _ i 3)), h7⟩)
    rw [h1] at hR
    injection hR with hR
    subst hR
    exact ⟨h2, rd_of h3.1 hnote, hln.trans h3.2⟩
theorem later_want (hu : E.txs[i]? = some u) (hs : u.state = 0) (key val : Int) (T' : Tab) : Later E.ce (wantE E i u key val T').ce := by
  rw [want_ce]
  exact Later.set (t' := { cor u with wk := key, wv := val }) (cs_get hu) (live_iff.2 (.inl hs)) rfl rfl rfl rfl
theorem rd_want (hu : E.txs[i]? = some u) (key val : Int) (T' : Tab) : RdLe E (wantE E i u key val T') := (RdLe.set (t' := { u with wk := key, wv := val }) hu (Nat.le_refl _)).trans (RdLe.of_txs rfl)
theorem later_putOpen {E2 : Eng} {why : Int} (hu : E.txs[i]? = some u) (hs : u.state = 0) (hp : putE E i = (why, E2)) : Later E.ce E2.ce ∧ ∃ v, E2.txs[i]? = some v ∧ v.state = 0 := by
  have hl : liveB u.state = true := live_iff.2 (.inl hs)
  rcases ce_put hu hp with ⟨rfl, rfl, _, _⟩ | ⟨hy, hn, he⟩
  · exact ⟨Later.refl _, u, hu, hs⟩
  · obtain ⟨v, hv, e⟩ := cs_of (E := E2) (i := i) (by rw [he]; exact set_same (cs_get hu))
    exact ⟨Later.set (t' := { cor u with vals := updT u.vals u.wk (some u.wv) }) (cs_get hu) hl rfl rfl (by rw [he]) (by rw [he]), v, hv, by have := congrArg Cor.state e; exact this.trans hs⟩
theorem went_write (hM : Mid0 E) (hn : ∀ u ∈ E.txs, u.reads.length ≤ n) (hu : E.txs[i]? = some u) (hs : u.state = 0) {key val : Int} (hk : 0 ≤ key ∧ key < 10) (hv : -1099511627776 ≤ val ∧ val ≤ 1099511627776) {q : Int → Nat} (hq : Ranked E.T q) {R : (Bool × Int) × Eng} (hR : writeE 7 q E i key val = some R) : Went E R.2 n := by
  have hl : liveB u.state = true := live_iff.2 (.inl hs)
  obtain ⟨R', h1, h2, h3, _⟩ := write_ok (goes_kp E) hM hu hs hk hv hq
    ⟨(rd_want hu key val E.T).trans ((rd_lose _ i 11).trans (rd_over _ i 3)), (later_want hu hs key val E.T).trans (later_gone (want_get (key := key) (val := val) hu E.T) hl 11)⟩
    ⟨(rd_want hu key val _).trans (RdLe.set (want_get (key := key) (val := val) hu _) (Nat.le_refl _)), (later_want hu hs key val _).trans (by
      rw [ce_set]
      exact Later.set (t' := cor { u with wk := key, wv := val, state := 1 }) (cs_get (want_get (key := key) (val := val) hu _)) hl rfl rfl rfl rfl)⟩
    (fun T' E2 _ hp => by
      have h5 := rd_put (wantE E i u key val T') i
      rw [hp] at h5
      exact ⟨(rd_want hu key val T').trans h5, (later_want hu hs key val T').trans (later_putOpen (want_get (key := key) (val := val) hu T') hs hp).1⟩)
    (fun T' why E2 _ _ hp => by
      have h5 := rd_put (wantE E i u key val T') i
      rw [hp] at h5
      obtain ⟨h6, v, hv2, hvs⟩ := later_putOpen (want_get (key := key) (val := val) hu T') hs hp
      exact ⟨((rd_want hu key val T').trans h5).trans ((rd_lose E2 i why).trans (rd_over _ i 3)), ((later_want hu hs key val T').trans h6).trans (later_gone hv2 (live_iff.2 (.inl hvs)) why)⟩)
  rw [h1] at hR
  injection hR with hR
  subst hR
  exact ⟨h2, rd_of h3.1 hn, h3.2⟩
end
end Go.Proofs.YtjefgmeejhakbaaGreatDoor
