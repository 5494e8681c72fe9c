/- BsOver FrRel FeOwn FeWrites FeBetween: put together for a claim. -/
import Derived.Test.YtjefgmeejhakbaaGreatDoorMgAS
import Derived.Test.YtjefgmeejhakbaaGreatDoorMgAU
import Derived.Test.YtjefgmeejhakbaaGreatDoorMgAQ
/- engine.Over: an engine over values that there are. -/
namespace Go.Proofs.YtjefgmeejhakbaaGreatDoor
open Go.RowKit
def lastOf (ws : List (Int × Int)) (a : Int) : Option Int := ((ws.filter (fun p => p.1 == a)).getLast?).map (·.2)
theorem lastOf_snoc (ws : List (Int × Int)) (p : Int × Int) (a : Int) : lastOf (ws ++ [p]) a = if a = p.1 then some p.2 else lastOf ws a := by
  unfold lastOf
  rw [List.filter_append, List.filter_cons]
  by_cases e : a = p.1
  · rw [if_pos e, if_pos (by simp [e]), List.filter_nil, List.getLast?_concat]
    rfl
  · rw [if_neg e, if_neg (by simp; exact fun h => e h.symm), List.filter_nil, List.append_nil]
def engO (t : Int) (ws : List (Int × Int)) : Eng := { eng0 with last := t, ks := instP t ws (List.replicate 10 []) }
end Go.Proofs.YtjefgmeejhakbaaGreatDoor

/- The document's engine and the landed one, plain: how they are alike. -/
namespace Go.Proofs.YtjefgmeejhakbaaGreatDoor
def stE (E : Eng) (j : Nat) : Int := (E.txs[j]?.map (·.state)).getD 3
def stR (R : REng) (j : Nat) : Int := (R.txs[j]?.map (·.state)).getD 3
theorem stE_some {E : Eng} {j : Nat} {t : Tx} (h : E.txs[j]? = some t) : stE E j = t.state := by simp [stE, h]
theorem stE_get {E : Eng} {j : Nat} (h : stE E j ≠ 3) : ∃ t, E.txs[j]? = some t ∧ t.state = stE E j := by
  cases ht : E.txs[j]? with
  | none => exact (h (by simp [stE, ht])).elim
  | some t => exact ⟨t, rfl, (stE_some ht).symm⟩
theorem stE_set {E : Eng} {i : Nat} {t t' : Tx} (h : E.txs[i]? = some t) (j : Nat) : stE (E.setTx i t') j = if j = i then t'.state else stE E j := by
  by_cases e : j = i
  · subst e
    rw [if_pos rfl, stE_some (setTx_get h)]
  · rw [if_neg e]
    unfold stE
    rw [setTx_get_ne (fun e' => e e'.symm)]
structure RelTx (st : Nat → Int) (n i : Nat) (t : Tx) (r : RTx) : Prop where
  level : r.level = t.level
  state : r.state = t.state
  why : r.why = t.why
  start : r.start = t.start
  want : r.want = (t.wk, t.wv)
  own : ∀ k, lastOf r.own k = t.vals k
  reads : t.state ≠ 3 → r.reads = readOps ((i : Int) + 1) t.reads
  seen : t.state ≠ 3 → ∀ k : Nat, k < 10 → t.seen[k]? = some (r.reads.any (fun o => o.2.1 == (k : Int)))
  be : ∀ x, t.behind x = true ↔ ∃ j : Nat, x = (j : Int) + 1 ∧ j ∈ r.behind ∧ st j ≠ 3
  ah : ∀ x, t.ahead x = true ↔ ∃ j : Nat, x = (j : Int) + 1 ∧ j ∈ r.ahead ∧ st j ≠ 3
  bl : ∀ x ∈ r.behind, x < n
  al : ∀ x ∈ r.ahead, x < n
  non : t.level ≠ 2 → r.behind = [] ∧ r.ahead = []
theorem RelTx.st {st st' : Nat → Int} {n i : Nat} {t : Tx} {r : RTx} (h : RelTx st n i t r) (hs : ∀ j, st' j ≠ 3 ↔ st j ≠ 3) : RelTx st' n i t r :=
  ⟨h.level, h.state, h.why, h.start, h.want, h.own, h.reads, h.seen, fun x => by rw [h.be x]; simp only [hs], fun x => by rw [h.ah x]; simp only [hs], h.bl, h.al, h.non⟩
def potT (t : Tx) : Nat := (if liveB t.state = true then 1 else 0) + (if t.state = 1 then 1 else 0)
def potL (l : List Tx) : Nat := (l.map potT).sum
def pot (E : Eng) : Nat := potL E.txs
theorem potL_set : ∀ {l : List Tx} {i : Nat} {t : Tx} (t' : Tx), l[i]? = some t → potL (l.set i t') + potT t = potL l + potT t'
  | [], i, t, t', h => by simp at h
  | a :: r, 0, t, t', h => by
    simp only [List.getElem?_cons_zero, Option.some.injEq] at h
    subst h
    simp [potL]
    omega
  | a :: r, i + 1, t, t', h => by
    have := potL_set (l := r) (i := i) t' (by simpa using h)
    simp only [potL, List.set_cons_succ, List.map_cons, List.sum_cons] at this ⊢
    omega
theorem pot_set {E : Eng} {i : Nat} {t : Tx} (t' : Tx) (h : E.txs[i]? = some t) : pot (E.setTx i t') + potT t = pot E + potT t' := potL_set t' h
def RTx.sz (r : RTx) (N : Nat) : Prop := r.reads.length ≤ N ∧ r.own.length ≤ N ∧ r.behind.length ≤ N ∧ r.ahead.length ≤ N
theorem RTx.sz.mono {r : RTx} {N M : Nat} (h : r.sz N) (hm : N ≤ M) : r.sz M := ⟨Nat.le_trans h.1 hm, Nat.le_trans h.2.1 hm, Nat.le_trans h.2.2.1 hm, Nat.le_trans h.2.2.2 hm⟩
structure Rel (B : Nat) (E : Eng) (R : REng) : Prop where
  len : R.txs.length = E.txs.length
  le : E.txs.length ≤ 200
  tx : ∀ (i : Nat) (t : Tx) (r : RTx), E.txs[i]? = some t → R.txs[i]? = some r → RelTx (stE E) E.txs.length i t r
  last : R.last = E.last
  T : R.T = E.T
  good : Good E.T
  mem : ∀ k x, x ∈ E.T k → 1 ≤ x ∧ x ≤ E.txs.length
  doc : Doc E.last E.ks R.kept
  lb : 0 ≤ E.last ∧ E.last ≤ 1099511627776
  tim : ∀ x ∈ R.kept, 0 ≤ x.2.1
  wr : ∀ c, c ≤ E.last → R.wr c = E.wr c
  wrc : ∀ c x, E.wr c = some x → ∃ j : Nat, x = (j : Int) + 1 ∧ stE E j = 2
  nw : E.nw ≤ R.nb
  coms : ∀ j ∈ E.com, stE E j = 2
  comn : E.com.Nodup
  hist : R.hist = histP E
  bg : ∀ r ∈ R.txs, r.begun ≤ R.step ∧ r.over ≤ R.step
  bae : ∀ t ∈ E.txs, t.bae ≤ E.txs.length
  ord : ∀ (i j : Nat) (ri rj : RTx) (tj : Tx), R.txs[i]? = some ri → R.txs[j]? = some rj → E.txs[j]? = some tj → liveB tj.state = false → (ri.begun < rj.over ↔ (i : Int) + 1 ≤ tj.bae)
  s0 : 0 ≤ R.step
  wy : ∀ t ∈ E.txs, t.state ≠ 3 → t.why = 0
  sz : ∃ N : Nat, (∀ r ∈ R.txs, r.sz N) ∧ R.step ≤ N ∧ R.nb ≤ N ∧ N + 1000 * pot E + 1000 * R.kept.length ≤ B
section
variable {B B' : Nat} {E : Eng} {R : REng} {i j : Nat} {t t' u : Tx} {r r' : RTx}
theorem Rel.mono (h : Rel B E R) (hB : B ≤ B') : Rel B' E R := by
  obtain ⟨N, h1, h2, h3, h4⟩ := h.sz
  exact { h with sz := ⟨N, h1, h2, h3, by omega⟩ }
theorem Rel.getR (h : Rel B E R) (ht : E.txs[i]? = some t) : ∃ r, R.txs[i]? = some r ∧ RelTx (stE E) E.txs.length i t r := by
  have hi : i < R.txs.length := by rw [h.len]; exact (List.getElem?_eq_some_iff.1 ht).1
  exact ⟨R.txs[i], List.getElem?_eq_getElem hi, h.tx i t _ ht (List.getElem?_eq_getElem hi)⟩
theorem Rel.getE (h : Rel B E R) (hr : R.txs[i]? = some r) : ∃ t, E.txs[i]? = some t ∧ RelTx (stE E) E.txs.length i t r := by
  have hi : i < E.txs.length := by rw [← h.len]; exact (List.getElem?_eq_some_iff.1 hr).1
  exact ⟨E.txs[i], List.getElem?_eq_getElem hi, h.tx i _ r (List.getElem?_eq_getElem hi) hr⟩
theorem Rel.stR (h : Rel B E R) (j : Nat) : stR R j = stE E j := by
  cases hr : R.txs[j]? with
  | none =>
    have : E.txs[j]? = none := by
      rw [List.getElem?_eq_none_iff] at hr ⊢
      rw [← h.len]; exact hr
    simp [Go.Proofs.YtjefgmeejhakbaaGreatDoor.stR, stE, hr, this]
  | some r =>
    obtain ⟨t, ht, hx⟩ := h.getE hr
    simp [Go.Proofs.YtjefgmeejhakbaaGreatDoor.stR, stE, hr, ht, hx.state]
theorem Rel.szR (h : Rel B E R) (hr : R.txs[i]? = some r) : r.sz B := by
  obtain ⟨N, h1, h2, h3, h4⟩ := h.sz
  exact (h1 r (List.mem_of_getElem? hr)).mono (by omega)
theorem Rel.stepB (h : Rel B E R) : R.step ≤ B := by
  obtain ⟨N, h1, h2, h3, h4⟩ := h.sz
  omega
theorem Rel.keptB (h : Rel B E R) : 1000 * R.kept.length ≤ B := by
  obtain ⟨N, h1, h2, h3, h4⟩ := h.sz
  omega
theorem hist_congr {E E' : Eng} (hc : E'.com = E.com) (h : ∀ j ∈ E.com, ∀ t, E.txs[j]? = some t → ∃ t', E'.txs[j]? = some t' ∧ t'.reads = t.reads ∧ t'.vals = t.vals) (hex : ∀ j ∈ E.com, ∃ t, E.txs[j]? = some t) : histP E' = histP E := by
  unfold histP histTo
  rw [hc, List.take_length]
  have key : ∀ l : List Nat, (∀ j ∈ l, j ∈ E.com) → l.flatMap (fun (i : Nat) => match E'.txs[i]? with | some t => histOf ((i : Int) + 1) t | none => []) = l.flatMap (fun (i : Nat) => match E.txs[i]? with | some t => histOf ((i : Int) + 1) t | none => []) := by
    intro l
    induction l with
    | nil => intro _; rfl
    | cons a r ih =>
      intro hl
      rw [List.flatMap_cons, List.flatMap_cons, ih (fun j hj => hl j (List.mem_cons_of_mem _ hj))]
      congr 1
      have ha := hl a (List.mem_cons_self ..)
      obtain ⟨t, ht⟩ := hex a ha
      obtain ⟨t', ht', e1, e2⟩ := h a ha t ht
      rw [ht, ht']
      simp only [histOf, e1, e2]
  exact key E.com (fun _ h => h)
theorem Rel.comE (h : Rel B E R) (hj : j ∈ E.com) : ∃ t, E.txs[j]? = some t ∧ t.state = 2 := by
  have h2 := h.coms j hj
  obtain ⟨t, ht, e⟩ := stE_get (E := E) (j := j) (by omega)
  exact ⟨t, ht, e.trans h2⟩
theorem rset_cases {l : List RTx} {i j : Nat} {a b : RTx} (h : (l.set i a)[j]? = some b) : (j = i ∧ b = a) ∨ (j ≠ i ∧ l[j]? = some b) := by
  rw [List.getElem?_set] at h
  split at h
  · rename_i e
    split at h
    · injection h with h
      exact .inl ⟨e.symm, h.symm⟩
    · cases h
  · rename_i e
    exact .inr ⟨fun h => e h.symm, h⟩
theorem eset_cases {l : List Tx} {i j : Nat} {a b : Tx} (h : (l.set i a)[j]? = some b) : (j = i ∧ b = a) ∨ (j ≠ i ∧ l[j]? = some b) := by
  rw [List.getElem?_set] at h
  split at h
  · rename_i e
    split at h
    · injection h with h
      exact .inl ⟨e.symm, h.symm⟩
    · cases h
  · rename_i e
    exact .inr ⟨fun h => e h.symm, h⟩
theorem Rel.setTx (h : Rel B E R) (ht : E.txs[i]? = some t) (hr : R.txs[i]? = some r) (h3 : t.state ≠ 3) (hs : t'.state = t.state ∨ (liveB t.state = true ∧ liveB t'.state = true))
    (hX : RelTx (stE E) E.txs.length i t' r') (hc : t.state = 2 → t'.reads = t.reads ∧ t'.vals = t.vals) (hbg : r'.begun = r.begun ∧ r'.over = r.over) (hba : t'.bae = t.bae) (hwy : t'.why = t.why)
    (hz : r'.reads.length ≤ r.reads.length + 1 ∧ r'.own.length ≤ r.own.length + 1 ∧ r'.behind.length ≤ r.behind.length + 1 ∧ r'.ahead.length ≤ r.ahead.length + 1) (hB : B + 1 + 1000 * potT t' ≤ B' + 1000 * potT t) :
    Rel B' (E.setTx i t') (R.setTx i r') := by
  have hi := (List.getElem?_eq_some_iff.1 ht).1
  have h3' : t'.state ≠ 3 := by
    rcases hs with e | ⟨_, e⟩
    · rw [e]; exact h3
    · rcases live_iff.1 e with e | e <;> omega
  have hlv : liveB t'.state = liveB t.state := by
    rcases hs with e | ⟨e1, e2⟩
    · rw [e]
    · rw [e1, e2]
  have hst : ∀ j, stE (E.setTx i t') j ≠ 3 ↔ stE E j ≠ 3 := fun j => by
    rw [stE_set ht]
    by_cases e : j = i
    · subst e
      rw [if_pos rfl, stE_some ht]
      exact ⟨fun _ => h3, fun _ => h3'⟩
    · rw [if_neg e]
  have hst2 : ∀ j, stE E j = 2 → stE (E.setTx i t') j = 2 := fun j hj => by
    rw [stE_set ht]
    by_cases e : j = i
    · subst e
      rw [stE_some ht] at hj
      rw [if_pos rfl]
      rcases hs with e | ⟨e1, _⟩
      · rw [e]; exact hj
      · rcases live_iff.1 e1 with e | e <;> omega
    · rw [if_neg e]; exact hj
  have hl : (E.setTx i t').txs.length = E.txs.length := setTx_len E i t'
  obtain ⟨N, s1, s2, s3, s4⟩ := h.sz
  have hp := pot_set t' ht
  refine ⟨by rw [hl]; simpa [REng.setTx] using h.len, by rw [hl]; exact h.le, fun j a b ha hb => ?_, h.last, h.T, h.good, by rw [hl]; exact h.mem, h.doc, h.lb, h.tim, h.wr, fun c x hx => ?_, h.nw, fun j hj => hst2 j (h.coms j hj), h.comn, ?_, fun b hb => ?_, fun a ha => ?_, fun a b ra rb tb hra hrb htb hlb => ?_, h.s0, fun a ha h3a => ?_, N + 1, fun b hb => ?_, ?_, ?_, ?_⟩
  · rw [hl]
    rcases eset_cases ha with ⟨rfl, rfl⟩ | ⟨e, ha⟩
    · rcases rset_cases hb with ⟨_, rfl⟩ | ⟨e, _⟩
      · exact hX.st hst
      · exact (e rfl).elim
    · rcases rset_cases hb with ⟨e', _⟩ | ⟨_, hb⟩
      · exact (e e').elim
      · exact (h.tx j a b ha hb).st hst
  · obtain ⟨m, e, hm⟩ := h.wrc c x hx
    exact ⟨m, e, hst2 m hm⟩
  · refine h.hist.trans (hist_congr (E := E) (E' := E.setTx i t') rfl (fun j hj a ha => ?_) (fun j hj => by obtain ⟨u, hu, _⟩ := h.comE hj; exact ⟨u, hu⟩)).symm
    by_cases e : j = i
    · subst e
      rw [ht] at ha
      cases ha
      have h2 : t.state = 2 := by have := h.coms j hj; rw [stE_some ht] at this; exact this
      exact ⟨t', setTx_get ht, hc h2⟩
    · exact ⟨a, by rw [setTx_get_ne (fun e' => e e'.symm)]; exact ha, rfl, rfl⟩
  · rcases List.mem_or_eq_of_mem_set hb with hb | rfl
    · exact h.bg b hb
    · rw [hbg.1, hbg.2]; exact h.bg r (List.mem_of_getElem? hr)
  · rw [hl]
    rcases List.mem_or_eq_of_mem_set ha with ha | rfl
    · exact h.bae a ha
    · rw [hba]; exact h.bae t (List.mem_of_getElem? ht)
  · have k1 : ∃ ra', R.txs[a]? = some ra' ∧ ra.begun = ra'.begun := by
      rcases rset_cases hra with ⟨rfl, rfl⟩ | ⟨_, hra⟩
      · exact ⟨r, hr, hbg.1⟩
      · exact ⟨ra, hra, rfl⟩
    have k2 : ∃ rb' tb', R.txs[b]? = some rb' ∧ E.txs[b]? = some tb' ∧ rb.over = rb'.over ∧ tb.bae = tb'.bae ∧ liveB tb'.state = false := by
      rcases eset_cases htb with ⟨rfl, rfl⟩ | ⟨e, htb⟩
      · rcases rset_cases hrb with ⟨_, rfl⟩ | ⟨e, _⟩
        · exact ⟨r, t, hr, ht, hbg.2, hba, by rw [← hlv]; exact hlb⟩
        · exact (e rfl).elim
      · rcases rset_cases hrb with ⟨e', _⟩ | ⟨_, hrb⟩
        · exact (e e').elim
        · exact ⟨rb, tb, hrb, htb, rfl, rfl, hlb⟩
    obtain ⟨ra', a1, a2⟩ := k1
    obtain ⟨rb', tb', b1, b2, b3, b4, b5⟩ := k2
    rw [a2, b3, b4]
    exact h.ord a b ra' rb' tb' a1 b1 b2 b5
  · rcases List.mem_or_eq_of_mem_set ha with ha | rfl
    · exact h.wy a ha h3a
    · rw [hwy]; exact h.wy t (List.mem_of_getElem? ht) h3
  · rcases List.mem_or_eq_of_mem_set hb with hb | rfl
    · exact (s1 b hb).mono (by omega)
    · have := s1 r (List.mem_of_getElem? hr)
      exact ⟨Nat.le_trans hz.1 (by have := this.1; omega), Nat.le_trans hz.2.1 (by have := this.2.1; omega), Nat.le_trans hz.2.2.1 (by have := this.2.2.1; omega), Nat.le_trans hz.2.2.2 (by have := this.2.2.2; omega)⟩
  · show R.step ≤ _
    omega
  · show R.nb ≤ _
    omega
  · show N + 1 + 1000 * pot (E.setTx i t') + 1000 * R.kept.length ≤ B'
    omega
theorem Rel.setT (h : Rel B E R) {T' : Tab} (hg : Good T') (hm : ∀ k x, x ∈ T' k → 1 ≤ x ∧ x ≤ E.txs.length) : Rel B { E with T := T' } { R with T := T' } :=
  ⟨h.len, h.le, h.tx, h.last, rfl, hg, hm, h.doc, h.lb, h.tim, h.wr, h.wrc, h.nw, h.coms, h.comn, h.hist, h.bg, h.bae, h.ord, h.s0, h.wy, h.sz⟩
theorem Rel.drop (h : Rel B E R) (n : Int) : Rel B { E with T := dropP E.T n } { R with T := dropP R.T n } := by
  rw [h.T]
  exact h.setT (h.good.drop n) (fun k x hx => h.mem k x (List.mem_filter.1 hx).1)
end
end Go.Proofs.YtjefgmeejhakbaaGreatDoor

/- The document's engine: what one wrote of a key. -/
namespace Go.Proofs.YtjefgmeejhakbaaGreatDoor
open Go.RowKit
section
variable {w : World} {ls : List Nat} {l : RTxL} {t : RTx}
theorem lastOf_take {ws : List (Int × Int)} {j : Nat} {p : Int × Int} (h : ws[j]? = some p) (k : Int) : lastOf (ws.take (j + 1)) k = if k = p.1 then some p.2 else lastOf (ws.take j) k := by
  rw [List.take_add_one, h, Option.toList_some, lastOf_snoc]
set_option maxRecDepth 100000 in
set_option maxHeartbeats 1000000 in
theorem rown_any (h : RTxAt w ls l t) (k : Int) (hn : t.own.length ≤ 1000000000) :
    Calls Tryz.prog 134 #[.pointer (some ⟨l.b, 0, none⟩), .int .i64 k] w fun e w' => e = .returned (.tuple #[.int .i64 ((lastOf t.own k).getD 0), .bool (lastOf t.own k).isSome]) ∧ w' = w := by
  have c7 : w.cell? ⟨l.b, 7, none⟩ = some l.ow := (h.cell 7).trans rfl
  have how := h.ow
  obtain ⟨ad, cap, hf⟩ := row_form how
  rw [hf] at c7 how
  have HO := hid how
  obtain ⟨ws, hws⟩ : ∃ ws, t.own = ws := ⟨_, rfl⟩
  rw [hws] at hn HO c7
  rw [hws]
  have gw : IntKind.i64.wrap ((ws.length : Int) - 1) = (ws.length : Int) - 1 := IntWalk.i64_in _ (by omega)
  clear h how hf hws
  go_enter Tryz.func134, Tryz.ntmps134
  go_wp2
  go_loop [6] (fun iv => ∃ j : Nat, iv = .int .i64 ((j : Int) - 1) ∧ j ≤ ws.length ∧ Hid (lastOf ws k = lastOf (ws.take j) k)) (fun iv => (intOf iv + 1).toNat)
  case atStart => exact ⟨ws.length, rfl, Nat.le_refl _, by show _ = _; rw [List.take_length]⟩
  case round =>
    clear gw
    obtain ⟨j, rfl, hj, HE⟩ := hrel
    cases j with
    | zero =>
      have e1 : lastOf ws k = none := HE.out
      have g0 : ¬ (0 : Int) ≤ ((0 : Nat) : Int) - 1 := by omega
      have H1 := hid e1
      clear HE e1
      go_wp2
      go_ret2
      exact ⟨by rw [H1.out]; rfl, rfl⟩
    | succ j =>
      obtain ⟨⟨a, v⟩, hav⟩ : ∃ p, ws[j]? = some p := ⟨_, List.getElem?_eq_getElem (by omega)⟩
      have hst := lastOf_take hav k
      rw [show ((j + 1 : Nat) : Int) - 1 = (j : Int) by omega]
      rcases row_slice HO.out with ⟨_, e0⟩ | ⟨g, c, e, hg, hc⟩
      · omega
      · injection e with e1 e2 e3
        subst e1 e3
        have hget := vrow_get ws j _ _ hav
        have d0 := hc _ _ hget.1
        have d1 := hc _ _ hget.2
        have g0 : (0 : Int) ≤ (j : Int) := by omega
        have g1 : (j : Int) < (ws.length : Int) := by omega
        have HST := hid hst
        clear hget hc hav hst
        by_cases ek : a = k
        · have q : (a == k) = true := by simpa using ek
          have e2 : lastOf ws k = some v := by rw [HE.out, HST.out, if_pos ek.symm]
          have H2 := hid e2
          clear ek HE HST e2
          go_wp2
          go_ret2
          exact ⟨by rw [H2.out]; rfl, rfl⟩
        · have q : (a == k) = false := by simpa using ek
          have HN := hid (show lastOf ws k = lastOf (ws.take j) k by rw [HE.out, HST.out, if_neg (fun e => ek e.symm)])
          clear ek HE HST
          go_wp2
          go_round
          case rel => exact ⟨j, by go_num, by omega, HN⟩
          case measure => simp [intOf] <;> omega
set_option maxRecDepth 100000 in
set_option maxHeartbeats 1000000 in
theorem rwaitsE_any {L : REnL} {E : REng} (h : REnAt w L E) (hT : Tidy0 E.T) (hlen : ∀ j, (E.T j).length ≤ 1000000) (n : Int) :
    Calls Tryz.prog 92 #[.pointer (some ⟨L.R, 0, none⟩), .int .i64 n] w fun e w' => e = .returned (.int .i64 (holdsP E.T (waitsP E.T n))) ∧ ∃ q, w' = w.drewN q := by
  have HW := hid (fun q => rwaits_any _ _ _ _ n (w.drewN q) (h.tab.below (below_drewN (Below.refl _ w) q)) hT hlen)
  have HH := hid (fun q => rholds_any _ _ _ _ (waitsP E.T n) (w.drewN q) (h.tab.below (below_drewN (Below.refl _ w) q)) hT)
  clear h hT hlen
  go_enter Tryz.func92, Tryz.ntmps92
  go_wp2
  go_quiet (first | (go_at_call 148; refine Calls.quiet_of_same (HW.out _)) | (go_at_call 147; refine Calls.quiet_of_same (HH.out _)))
  go_wp2
  go_ret
  exact ⟨rfl, _, rfl⟩
end
end Go.Proofs.YtjefgmeejhakbaaGreatDoor

/- The document's engine: Writes. -/
namespace Go.Proofs.YtjefgmeejhakbaaGreatDoor
open Go.RowKit
section
variable {w w' : World} {ls : List Nat} {l : RTxL} {t : RTx} {L : REnL} {E : REng}
def rwritesP (ws : List (Int × Int)) : List (Int × Int) := allK (fun k => (lastOf ws (k : Int)).map (fun v => ((0 : Int), v))) 10
theorem rwritesE_miss (h : REnAt w L E) {n : Int} (hn : n < 1 ∨ (E.txs.length : Int) < n) :
    Calls Tryz.prog 91 #[.pointer (some ⟨L.R, 0, none⟩), .int .i64 n] w fun e w' => e = .returned (.tuple #[.slice none 0 0, .int .i64 7]) ∧ w' = w := by
  have HF := hid (rof_miss h false hn)
  clear h
  go_enter Tryz.func91, Tryz.ntmps91
  go_wp2_with fail
  refine HF.out.mono ?_
  rintro e w1 ⟨rfl, rfl⟩
  go_wp2
  go_ret2
  exact ⟨rfl, rfl⟩
set_option maxRecDepth 100000 in
set_option maxHeartbeats 2000000 in
theorem rwritesE_ok (h : REnAt w L E) {i : Nat} (ht : E.txs[i]? = some t) (hle : E.txs.length ≤ 1000) (hn : t.own.length ≤ 1000000000) :
    Calls Tryz.prog 91 #[.pointer (some ⟨L.R, 0, none⟩), .int .i64 ((i : Int) + 1)] w fun e w' => ∃ tv, e = .returned (.tuple #[tv, .int .i64 0]) ∧
      w'.ownsRow w.heap.size 78 2 tv (rwritesP t.own).length (vrow (rwritesP t.own)) ∧ Below w.heap.size w w' := by
  obtain ⟨i0, hi0, hz0, hz1, hz2⟩ := info_parts info78
  have HF := hid (rof_ok h false ht (fun e => by cases e) hle)
  have HG := hid (fun (l : RTxL) (hl : L.txs[i]? = some l) => h.txs i l t hl ht)
  unfold rwritesP
  obtain ⟨ff, hff⟩ : ∃ ff : Nat → Option (Int × Int), (fun (k : Nat) => (lastOf t.own (k : Int)).map (fun v => ((0 : Int), v))) = ff := ⟨_, rfl⟩
  have HFF := hid (show ∀ k : Nat, ff k = (lastOf t.own (k : Int)).map (fun v => ((0 : Int), v)) from fun k => by rw [← hff])
  rw [hff]
  clear h ht hff
  go_enter Tryz.func91, Tryz.ntmps91
  go_wp2_with fail
  refine HF.out.mono ?_
  rintro e w1 ⟨l, hl, rfl, hw1⟩
  rw [hw1]
  have HT := hid (HG.out l hl)
  simp only [ptrV]
  clear hw1 w1 hl HF HG
  go_wp2
  go_loopw [8, 21] (fun tv iv wr => ∃ j : Nat, j ≤ 10 ∧ iv = .int .i64 j ∧ wr.ownsRow w.heap.size 78 2 tv (allK ff j).length (vrow (allK ff j)) ∧ Below w.heap.size w wr) (fun _ iv _ => 10 - (intOf iv).toNat)
  case atStart => exact ⟨0, by omega, rfl, by simpa [allK, vrow] using World.ownsRow_nil w w.heap.size 78 2, Below.refl _ _⟩
  case round =>
    obtain ⟨j, hj, rfl, hown, hB⟩ := hrel
    have hBs := hB.size
    have hal := allK_length ff j
    by_cases hlt : j < 10
    · have hj1 : (j : Int) < 10 := by omega
      have HO := hid hown
      have HC := hid (rown_any (HT.out.below hB) (j : Int) hn)
      clear hown
      cases hb : lastOf t.own (j : Int) with
      | none =>
        have hst := hid (allK_none ff j (by rw [HFF.out, hb]; rfl))
        rw [hb] at HC
        simp only [Option.getD_none, Option.isSome_none] at HC
        clear hb
        go_wp2_with fail
        refine HC.out.mono ?_
        rintro e w1 ⟨rfl, hw1⟩
        rw [hw1]
        clear hw1 w1 HC
        go_wp2
        go_roundw
        case rel => exact ⟨j + 1, by omega, by go_num, by rw [hst.out]; exact HO.out, hB⟩
        case measure => simp [intOf]; omega
      | some p =>
        have hst := hid (allK_some ff j (0, p) (by rw [HFF.out, hb]; rfl))
        rw [hb] at HC
        simp only [Option.getD_some, Option.isSome_some] at HC
        clear hb
        go_wp2_with fail
        refine HC.out.mono ?_
        rintro e w1 ⟨rfl, hw1⟩
        rw [hw1]
        clear hw1 w1 HC
        go_wp2_with (at_builtin; refine wpList_append_lies _ rfl _ _ _ rfl w.heap.size 78 i0 _ 2 16 Tryz.underlying23 hi0 hz0 hz1 hz2 rfl (by omega) u8 _ _ rfl (HO.out.alloc _) ⟨wr.heap.size, 0, none⟩ 1 1 [.int .i64 (j : Int), .int .i64 p] rfl rfl (World.news_of_block (cs := #[.int .i64 (j : Int), .int .i64 p]) (t := 78) (fr := (0, 0)) (heap_alloc_new wr _)) (by simp [Value.oneCell']) (by omega) (by unfold maxLen; omega) (by omega) (by simp; omega) (wr.heap.size + 1) (by simp) ?_; intro g' cap' w2 ho hgrow hat hlt2)
        go_roundw
        case rel =>
          refine ⟨j + 1, by omega, by go_num, ?_, ?_⟩
          · rw [hst.out, List.length_append, vrow_append]; exact ho
          · exact hB.trans (((((Below.refl _ wr).alloc (Nat.le_refl _) _)).mono hBs).grown hgrow (by simp; omega) (fun k e => (HO.out.lt k e).1))
        case measure => simp [intOf]; omega
    · obtain rfl : j = 10 := by omega
      have HO := hid hown
      have hj1 : ¬ ((10 : Nat) : Int) < 10 := by omega
      clear hown
      go_wp2
      go_ret2
      exact ⟨_, rfl, HO.out, hB⟩
end
end Go.Proofs.YtjefgmeejhakbaaGreatDoor

/- The document's engine: between. -/
namespace Go.Proofs.YtjefgmeejhakbaaGreatDoor
open Go.RowKit
def anyR (E : REng) (is : List Nat) : Bool := is.any (fun x => ((E.txs[x]?.map (·.state)).getD 3) != 3)
theorem anyR_take {E : REng} {is : List Nat} {j x : Nat} {u : RTx} (h : is[j]? = some x) (hu : E.txs[x]? = some u) : anyR E (is.take (j + 1)) = (anyR E (is.take j) || (u.state != 3)) := by
  unfold anyR
  rw [List.take_add_one, h, Option.toList_some, List.any_append]
  simp [hu]
section
variable {w w' : World} {l : RTxL} {t : RTx} {L : REnL} {E : REng}
set_option maxRecDepth 100000 in
set_option maxHeartbeats 2000000 in
theorem rbetween_any (h : REnAt w L E) {i : Nat} (hl : L.txs[i]? = some l) (ht : E.txs[i]? = some t) (hb : ∀ x ∈ t.behind, x < E.txs.length) (ha : ∀ x ∈ t.ahead, x < E.txs.length) (hnb : t.behind.length ≤ 2000000000) (hna : t.ahead.length ≤ 2000000000) :
    Calls Tryz.prog 145 #[.pointer (some ⟨l.b, 0, none⟩)] w fun e w' => e = .returned (.bool (anyR E t.behind && anyR E t.ahead)) ∧ w' = w := by
  have hT := h.txs i l t hl ht
  have c10 : w.cell? ⟨l.b, 10, none⟩ = some l.bh := (hT.cell 10).trans rfl
  have c11 : w.cell? ⟨l.b, 11, none⟩ = some l.ah := (hT.cell 11).trans rfl
  obtain ⟨ad, cap, e1⟩ := row_form hT.bh
  obtain ⟨ad2, cap2, e2⟩ := row_form hT.ah
  have HH := hid h
  have HB := hid (And.intro hb hT.bh)
  have HA := hid (And.intro ha hT.ah)
  rw [e1] at c10 HB
  rw [e2] at c11 HA
  have HU := hid (show ∀ (x : Nat), x < E.txs.length → ∃ u, E.txs[x]? = some u ∧ w.cell? ⟨(L.bs[x]?.getD 0), 1, none⟩ = some (.int .i64 u.state) from fun x hx => by
    obtain ⟨l2, h2, h3⟩ := h.get (List.getElem?_eq_getElem hx)
    exact ⟨_, List.getElem?_eq_getElem hx, by rw [rbs_get h2]; exact (h3.cell 1).trans rfl⟩)
  obtain ⟨bs, hbs⟩ : ∃ bs, t.behind = bs := ⟨_, rfl⟩
  obtain ⟨av, has⟩ : ∃ av, t.ahead = av := ⟨_, rfl⟩
  rw [hbs] at HB hnb c10
  rw [has] at HA hna c11
  rw [hbs, has]
  clear h hT hb ha e1 e2 hbs has ht hl
  go_enter Tryz.func145, Tryz.ntmps145
  go_wp2
  go_loop [3, 13] (fun nv iv => ∃ (j : Nat) (p : Bool), iv = .int .i64 j ∧ j ≤ bs.length ∧ nv = .int .i64 (if p then 1 else 0) ∧ Hid (anyR E (bs.take j) = p)) (fun _ iv => bs.length - (intOf iv).toNat)
  case atStart => exact ⟨0, false, rfl, Nat.zero_le _, rfl, rfl⟩
  case round =>
    obtain ⟨j, p, rfl, hj, rfl, HP⟩ := hrel
    by_cases hlt : j < bs.length
    · obtain ⟨x, hx⟩ : ∃ x, bs[j]? = some x := ⟨_, List.getElem?_eq_getElem hlt⟩
      obtain ⟨u, hu, cu⟩ := HU.out x (HB.out.1 x (List.mem_of_getElem? hx))
      rcases row_slice HB.out.2 with ⟨_, e0⟩ | ⟨g, c, e, hg, hc⟩
      · omega
      · injection e with e1 e2 e3
        subst e1 e3
        have d0 := hc j _ (show (ptrsV L.bs bs)[j]? = some (ptrV (L.bs[x]?.getD 0)) by unfold ptrsV; rw [List.getElem?_map, hx]; rfl)
        obtain ⟨yb, hyb⟩ : ∃ yb, L.bs[x]?.getD 0 = yb := ⟨_, rfl⟩
        rw [hyb] at cu d0
        simp only [ptrV] at d0
        have HST := hid (anyR_take hx hu)
        have g0 : (0 : Int) ≤ (j : Int) := by omega
        have g1 : (j : Int) < (bs.length : Int) := by omega
        clear hc hx hu hyb
        by_cases hs : u.state = 3
        · have q : (u.state != 3) = false := by simp [hs]
          rw [hs] at cu
          have HN := hid (show anyR E (bs.take (j + 1)) = p by rw [HST.out, HP.out, q, Bool.or_false])
          clear HST HP hs q
          go_wp2
          go_round
          case rel => exact ⟨j + 1, p, by go_num, by omega, rfl, HN⟩
          case measure => simp [intOf]; omega
        · have q : (u.state != 3) = true := by simpa using hs
          have HN := hid (show anyR E (bs.take (j + 1)) = true by rw [HST.out, q, Bool.or_true])
          clear HST HP hs
          cases p <;> simp only [if_true, if_false, Bool.false_eq_true]
          all_goals
            go_wp2
            go_round
            case rel => exact ⟨j + 1, true, by go_num, by omega, by go_num, HN⟩
            case measure => simp [intOf]; omega
    · obtain rfl : j = bs.length := by omega
      have g1 : ¬ (bs.length : Int) < (bs.length : Int) := by omega
      rw [List.take_length] at HP
      obtain ⟨nn, hnn⟩ : ∃ nn : Int, (if p = true then 1 else 0) = nn := ⟨_, rfl⟩
      rw [hnn]
      have HNN := hid hnn
      clear HB c10 hnn
      go_wp2
      go_loop [3, 30] (fun nv iv => ∃ (j : Nat) (q : Bool), iv = .int .i64 j ∧ j ≤ av.length ∧ nv = .int .i64 (if q then nn + 2 else nn) ∧ Hid (anyR E (av.take j) = q)) (fun _ iv => av.length - (intOf iv).toNat)
      case atStart => exact ⟨0, false, rfl, Nat.zero_le _, rfl, rfl⟩
      case round =>
        obtain ⟨j, q, rfl, hj, rfl, HQ⟩ := hrel
        by_cases hlt : j < av.length
        · obtain ⟨x, hx⟩ : ∃ x, av[j]? = some x := ⟨_, List.getElem?_eq_getElem hlt⟩
          obtain ⟨u, hu, cu⟩ := HU.out x (HA.out.1 x (List.mem_of_getElem? hx))
          rcases row_slice HA.out.2 with ⟨_, e0⟩ | ⟨g, c, e, hg, hc⟩
          · omega
          · injection e with e1 e2 e3
            subst e1 e3
            have d0 := hc j _ (show (ptrsV L.bs av)[j]? = some (ptrV (L.bs[x]?.getD 0)) by unfold ptrsV; rw [List.getElem?_map, hx]; rfl)
            obtain ⟨yb, hyb⟩ : ∃ yb, L.bs[x]?.getD 0 = yb := ⟨_, rfl⟩
            rw [hyb] at cu d0
            simp only [ptrV] at d0
            have HST := hid (anyR_take hx hu)
            have g0 : (0 : Int) ≤ (j : Int) := by omega
            have g2 : (j : Int) < (av.length : Int) := by omega
            clear hc hx hu hyb
            by_cases hs : u.state = 3
            · have r : (u.state != 3) = false := by simp [hs]
              rw [hs] at cu
              have HN := hid (show anyR E (av.take (j + 1)) = q by rw [HST.out, HQ.out, r, Bool.or_false])
              clear HST HQ hs r
              cases q <;> simp only [if_true, if_false, Bool.false_eq_true]
              all_goals
                go_wp2
                go_round
                case rel => exact ⟨j + 1, _, by go_num, by omega, rfl, HN⟩
                case measure => simp [intOf]; omega
            · have r : (u.state != 3) = true := by simpa using hs
              have HN := hid (show anyR E (av.take (j + 1)) = true by rw [HST.out, r, Bool.or_true])
              clear HST HQ hs
              have hnn := HNN.out
              subst hnn
              clear HNN
              cases p <;> cases q <;> simp only [if_true, if_false, Bool.false_eq_true]
              all_goals
                go_wp2
                go_round
                case rel => exact ⟨j + 1, true, by go_num, by omega, by go_num, HN⟩
                case measure => simp [intOf]; omega
        · obtain rfl : j = av.length := by omega
          have g2 : ¬ (av.length : Int) < (av.length : Int) := by omega
          rw [List.take_length] at HQ
          have hnn := HNN.out
          subst hnn
          clear HNN
          cases p <;> cases q <;> simp only [if_true, if_false, Bool.false_eq_true]
          all_goals
            go_wp2
            go_ret
            exact ⟨by rw [HP.out, HQ.out]; rfl, rfl⟩
end
end Go.Proofs.YtjefgmeejhakbaaGreatDoor
