/- EnBeginE EnCore EnCoreB: put together for a claim. -/
import Derived.Test.YtjefgmeejhakbaaGreatDoorEnBeginWQ
import Derived.Test.YtjefgmeejhakbaaGreatDoorMgAKQ
import Derived.Test.YtjefgmeejhakbaaGreatDoorMgALQ
import Derived.Test.YtjefgmeejhakbaaGreatDoorEnReadQ
import Derived.Test.YtjefgmeejhakbaaGreatDoorEnWriteQ
import Derived.Test.YtjefgmeejhakbaaGreatDoorMgAJQ
/- engine.Begin, where it tells an error. -/
namespace Go.Proofs.YtjefgmeejhakbaaGreatDoor
open Go.RowKit
variable {w w' : World} {L : EnL} {E : Eng}
set_option maxRecDepth 100000 in
set_option maxHeartbeats 2000000 in
theorem begin_full (h : EnAt w L E) {level : Int} (hlv : level = 0 ∨ level = 1 ∨ level = 2) (hl : 200 ≤ E.txs.length) :
    Calls Tryz.prog 51 #[.pointer (some ⟨L.s, 0, none⟩), .int .i64 level] w fun e w' => e = .returned (.tuple #[.int .i64 0, errV 12]) ∧ w' = w := by
  have c14 := h.c14
  obtain ⟨ad, cap, hav⟩ := row_form h.all
  rw [h.len] at hav
  rw [hav] at c14
  obtain ⟨m, hm⟩ : ∃ m, E.txs.length = m := ⟨_, rfl⟩
  rw [hm] at c14 hl
  have g1 : (200 : Int) ≤ (m : Int) := by omega
  rw [show errV 12 = Value.iface 24 (.int .i64 12) from rfl]
  clear h hav hm
  rcases lvl_cases hlv with rfl | ⟨n0, rfl⟩ | ⟨n0, n1, rfl⟩
  all_goals
    clear hlv
    go_enter Tryz.func51, Tryz.ntmps51
    go_wp2
    go_ret2
    exact ⟨rfl, rfl⟩
set_option maxRecDepth 100000 in
set_option maxHeartbeats 2000000 in
theorem begin_limit (h : EnAt w L E) {level : Int} (hlv : level = 0 ∨ level = 1 ∨ level = 2) (hl : E.txs.length < 200) (ho : 6 ≤ (liveOnes E).length) :
    Calls Tryz.prog 51 #[.pointer (some ⟨L.s, 0, none⟩), .int .i64 level] w fun e w' => e = .returned (.tuple #[.int .i64 0, errV 4]) ∧ Below w.heap.size w w' := by
  have hT := those_lives h (fun _ t => liveB t.state) (fun W hW i l t hl ht => (lives_any l.b t.state W ((h.below hW).txs i l t hl ht).c3).mono (fun e w' hh => ⟨hh.1, 0, hh.2⟩))
  rw [show thoseP E (fun _ t => liveB t.state) = liveOnes E from rfl] at hT
  have HT := hid hT
  have c14 := h.c14
  obtain ⟨ad, cap, hav⟩ := row_form h.all
  rw [h.len] at hav
  rw [hav] at c14
  obtain ⟨m, hm⟩ : ∃ m, E.txs.length = m := ⟨_, rfl⟩
  rw [hm] at c14 hl
  obtain ⟨q, hq⟩ : ∃ q, (liveOnes E).length = q := ⟨_, rfl⟩
  rw [hq] at HT ho
  have g1 : ¬ (200 : Int) ≤ (m : Int) := by omega
  have g2 : (6 : Int) ≤ (q : Int) := by omega
  rw [show errV 4 = Value.iface 24 (.int .i64 4) from rfl]
  clear h hav hm hT hq
  rcases lvl_cases hlv with rfl | ⟨n0, rfl⟩ | ⟨n0, n1, rfl⟩
  all_goals
    clear hlv
    go_enter Tryz.func51, Tryz.ntmps51
    go_wp2_with fail
    refine HT.out.mono ?_
    rintro e w1 ⟨v, rfl, hv, hB1⟩
    obtain ⟨ad1, cap1, rfl⟩ := row_form hv
    have HB1 := hid hB1
    clear hv hB1 HT
    go_wp2
    go_ret2
    exact ⟨rfl, HB1.out⟩
end Go.Proofs.YtjefgmeejhakbaaGreatDoor

/- Plain: what of an engine holds whatever its transactions do, but for who must be ahead of whom: who holds, who waits, what is committed. -/
namespace Go.Proofs.YtjefgmeejhakbaaGreatDoor
structure Cor where
  level : Int
  start : Int
  state : Int
  wk : Int
  wv : Int
  vals : Int → Option Int
def cor (t : Tx) : Cor := ⟨t.level, t.start, t.state, t.wk, t.wv, t.vals⟩
structure CE where
  last : Int
  ks : List (List (Int × Int))
  T : Tab
  cs : List Cor
  wr : Int → Option Int
  com : List Nat
  nw : Nat
def Eng.ce (E : Eng) : CE := ⟨E.last, E.ks, E.T, E.txs.map cor, E.wr, E.com, E.nw⟩
def CE.v (C : CE) (i : Nat) : Int → Option Int := match C.cs[i]? with
  | some t => t.vals
  | none => fun _ => none
theorem CE.v_some {C : CE} {i : Nat} {t : Cor} (h : C.cs[i]? = some t) : C.v i = t.vals := by simp [CE.v, h]
def CE.cw (C : CE) : List Nat := C.com.filter (fun i => decide (writesP (C.v i) ≠ []))
def fullFrom (V : Nat → Int → Option Int) (a c : Int) : List Nat → List (Int × Int)
  | [] => []
  | i :: r => (match V i a with | some x => [(c, x)] | none => []) ++ fullFrom V a (c + 1) r
def full (a0 : Int) (K0 : Int → Option Int) (C : CE) (a : Int) : List (Int × Int) := (match K0 a with | some x => [(a0, x)] | none => []) ++ fullFrom C.v a (a0 + 1) C.cw
theorem fullFrom_append (V : Nat → Int → Option Int) (a : Int) : ∀ (l m : List Nat) (c : Int), fullFrom V a c (l ++ m) = fullFrom V a c l ++ fullFrom V a (c + l.length) m
  | [], m, c => by simp [fullFrom]
  | i :: r, m, c => by
    simp only [List.cons_append, fullFrom, fullFrom_append V a r m (c + 1), List.append_assoc, List.length_cons]
    rw [show c + 1 + (r.length : Int) = c + ((r.length + 1 : Nat) : Int) from by omega]
theorem fullFrom_mem (V : Nat → Int → Option Int) (a : Int) : ∀ (l : List Nat) (c c' x : Int), (c', x) ∈ fullFrom V a c l ↔ ∃ (j i : Nat), l[j]? = some i ∧ c' = c + j ∧ V i a = some x
  | [], c, c', x => by simp [fullFrom]
  | i :: r, c, c', x => by
    rw [fullFrom, List.mem_append, fullFrom_mem V a r (c + 1)]
    constructor
    · rintro (h | ⟨j, i', h1, h2, h3⟩)
      · cases hv : V i a with
        | none => rw [hv] at h; cases h
        | some y =>
          rw [hv] at h
          simp only [List.mem_singleton, Prod.mk.injEq] at h
          exact ⟨0, i, rfl, by simp [h.1], by rw [hv, h.2]⟩
      · exact ⟨j + 1, i', by simpa using h1, by omega, h3⟩
    · rintro ⟨j, i', h1, h2, h3⟩
      cases j with
      | zero =>
        simp only [List.getElem?_cons_zero, Option.some.injEq] at h1
        subst h1
        left
        rw [h3]
        simp [h2]
      | succ j => exact .inr ⟨j, i', by simpa using h1, by omega, h3⟩
theorem fullFrom_congr (V V' : Nat → Int → Option Int) (a : Int) : ∀ (l : List Nat) (c : Int), (∀ i ∈ l, V i a = V' i a) → fullFrom V a c l = fullFrom V' a c l
  | [], _, _ => rfl
  | i :: r, c, h => by
    rw [fullFrom, fullFrom, h i (List.mem_cons_self ..), fullFrom_congr V V' a r (c + 1) (fun j hj => h j (List.mem_cons_of_mem _ hj))]
theorem fullFrom_sorted (V : Nat → Int → Option Int) (a : Int) : ∀ (l : List Nat) (c : Int), (fullFrom V a c l).Pairwise (fun p q => p.1 < q.1)
  | [], _ => List.Pairwise.nil
  | i :: r, c => by
    rw [fullFrom]
    refine List.pairwise_append.2 ⟨?_, fullFrom_sorted V a r (c + 1), fun p hp q hq => ?_⟩
    · cases V i a <;> simp
    · obtain ⟨j, i', h1, h2, h3⟩ := (fullFrom_mem V a r (c + 1) q.1 q.2).1 hq
      have : p.1 = c := by
        cases hv : V i a with
        | none => rw [hv] at hp; cases hp
        | some y => rw [hv] at hp; simp at hp; simp [hp]
      omega
theorem rdP_last (u : Int) (l : List (Int × Int)) : rdP u l = (l.filter (fun p => decide (p.1 ≤ u))).getLast? := by
  have key : ∀ m, m ≤ l.length → (if 0 ≤ latN l u m then l[(latN l u m).toNat]? else none) = ((l.take m).filter (fun p => decide (p.1 ≤ u))).getLast? := by
    intro m
    induction m with
    | zero => intro _; simp [latN]
    | succ m ih =>
      intro hm
      have hlt : m < l.length := hm
      have hget : l[m]? = some l[m] := List.getElem?_eq_getElem hlt
      rw [List.take_add_one, hget]
      simp only [latN, hget, Option.getD_some, Option.toList_some, List.filter_append]
      by_cases h : l[m].1 ≤ u
      · simp [h]
      · simp only [h, if_false, List.filter_cons, decide_false, List.filter_nil, Bool.false_eq_true, List.append_nil]
        exact ih (by omega)
  have := key l.length (Nat.le_refl _)
  rw [List.take_length] at this
  exact this
theorem rdP_drop (u : Int) (l : List (Int × Int)) (d : Nat) (h : d = 0 ∨ ∃ p ∈ l.drop d, p.1 ≤ u) : rdP u (l.drop d) = rdP u l := by
  rcases h with rfl | ⟨p, hp, hu⟩
  · simp
  · rw [rdP_last, rdP_last]
    have h1 : l.filter (fun p => decide (p.1 ≤ u)) = (l.take d).filter (fun p => decide (p.1 ≤ u)) ++ (l.drop d).filter (fun p => decide (p.1 ≤ u)) := by rw [← List.filter_append, List.take_append_drop]
    have h2 : (l.drop d).filter (fun p => decide (p.1 ≤ u)) ≠ [] := fun e => by
      have : p ∈ (l.drop d).filter (fun p => decide (p.1 ≤ u)) := List.mem_filter.2 ⟨hp, by simpa using hu⟩
      rw [e] at this
      cases this
    rw [h1, List.getLast?_append]
    cases hg : ((l.drop d).filter (fun p => decide (p.1 ≤ u))).getLast? with
    | none => exact (h2 (List.getLast?_eq_none_iff.1 hg)).elim
    | some q => rfl
def CE.Sees (C : CE) (u : Int) : Prop := C.last ≤ u ∨ ∃ (i : Nat) (t : Cor), C.cs[i]? = some t ∧ liveB t.state = true ∧ t.level ≠ 0 ∧ t.start ≤ u
def CE.live (C : CE) : Nat := C.cs.countP (fun t => liveB t.state)
theorem live_iff {s : Int} : liveB s = true ↔ s = 0 ∨ s = 1 := by simp [liveB]
structure Loc (T : Tab) (cs : List Cor) (Q : Nat → Prop) : Prop where
  good : Good T
  mem : ∀ k x, x ∈ T k → ∃ (i : Nat) (t : Cor), x = (i : Int) + 1 ∧ cs[i]? = some t ∧ liveB t.state = true
  tail : ∀ (k : Int) (i : Nat), (i : Int) + 1 ∈ (T k).tail → ∃ t, cs[i]? = some t ∧ t.state = 1 ∧ t.wk = k ∧ ¬ Q i
  wait : ∀ (i : Nat) (t : Cor), cs[i]? = some t → t.state = 1 → Q i ∨ (i : Int) + 1 ∈ (T t.wk).tail
  pend : ∀ i, Q i → ∃ t, cs[i]? = some t ∧ t.state = 1 ∧ holdsP T t.wk = (i : Int) + 1
  hold : ∀ (i : Nat) (t : Cor) (k : Int), cs[i]? = some t → liveB t.state = true → t.vals k ≠ none → holdsP T k = (i : Int) + 1
structure Fair (t : Cor) : Prop where
  lev : t.level = 0 ∨ t.level = 1 ∨ t.level = 2
  sta : 0 ≤ t.state ∧ t.state ≤ 3
  vk : ∀ k, t.vals k ≠ none → 0 ≤ k ∧ k < 10
  fin : ∀ k v, t.vals k = some v → -1099511627776 ≤ v ∧ v ≤ 1099511627776
  wan : (0 ≤ t.wk ∧ t.wk < 10) ∧ -1099511627776 ≤ t.wv ∧ t.wv ≤ 1099511627776
structure Reg (cs : List Cor) : Prop where
  fair : ∀ (i : Nat) (t : Cor), cs[i]? = some t → Fair t
  num : cs.countP (fun t => liveB t.state) ≤ 6
  len : cs.length ≤ 200
structure Com (a0 : Int) (K0 : Int → Option Int) (C : CE) : Prop where
  comn : C.com.Nodup
  coms : ∀ i, i ∈ C.com ↔ ∃ t, C.cs[i]? = some t ∧ t.state = 2
  start : ∀ (i : Nat) (t : Cor), C.cs[i]? = some t → a0 ≤ t.start ∧ t.start ≤ C.last
  zero : 0 ≤ a0 ∧ a0 ≤ 1099511000000
  lastc : C.last = a0 + C.cw.length
  nwc : C.nw = C.cw.length
  wrc : ∀ c, C.wr c = if a0 < c then (C.cw[(c - a0 - 1).toNat]?).map (fun (i : Nat) => (i : Int) + 1) else none
  ksl : C.ks.length = 10
  kss : ∀ a : Nat, a < 10 → ∃ d, d ≤ (full a0 K0 C a).length ∧ C.ks[a]? = some ((full a0 K0 C a).drop d) ∧ ∀ u, C.Sees u → d = 0 ∨ ∃ p ∈ (full a0 K0 C a).drop d, p.1 ≤ u
  fuw : ∀ (i j : Nat) (t : Cor) (a c : Int), C.cs[i]? = some t → t.level ≠ 0 → t.state ≠ 3 → t.vals a ≠ none → C.wr c = some ((j : Int) + 1) → j ≠ i → C.v j a ≠ none → t.start < c → ∃ c', C.wr c' = some ((i : Int) + 1) ∧ c' < c
structure Mid (a0 : Int) (K0 : Int → Option Int) (C : CE) (Q : Nat → Prop) : Prop where
  loc : Loc C.T C.cs Q
  reg : Reg C.cs
  com : Com a0 K0 C
section
variable {a0 : Int} {K0 : Int → Option Int} {C : CE} {Q : Nat → Prop} {T : Tab} {cs : List Cor} {i : Nat} {t t' : Cor}
theorem set_cases {cs : List Cor} {i j : Nat} {t' u : Cor} (h : (cs.set i t')[j]? = some u) : (j = i ∧ u = t') ∨ (j ≠ i ∧ cs[j]? = some u) := by
  rw [List.getElem?_set] at h
  split at h
  · rename_i e
    split at h
    · injection h with h
      exact .inl ⟨e.symm, h.symm⟩
    · cases h
  · rename_i e
    exact .inr ⟨fun h => e h.symm, h⟩
theorem set_same {cs : List Cor} {i : Nat} {t t' : Cor} (h : cs[i]? = some t) : (cs.set i t')[i]? = some t' := by
  have := (List.getElem?_eq_some_iff.1 h).1
  simp [this]
theorem set_ne {cs : List Cor} {i j : Nat} {t' : Cor} (h : j ≠ i) : (cs.set i t')[j]? = cs[j]? := by
  rw [List.getElem?_set, if_neg (fun e => h e.symm)]
theorem Reg.set (h : Reg cs) (ht : cs[i]? = some t) (hl : liveB t.state = true) (hf : Fair t') : Reg (cs.set i t') := by
  have hi := (List.getElem?_eq_some_iff.1 ht)
  refine ⟨fun j u hu => ?_, ?_, by simpa using h.len⟩
  · rcases set_cases hu with ⟨_, rfl⟩ | ⟨_, hu⟩
    · exact hf
    · exact h.fair j u hu
  · rw [List.countP_set hi.1, hi.2, hl, if_pos rfl]
    have h1 := h.num
    have h2 : 0 < cs.countP (fun t => liveB t.state) := List.countP_pos_iff.2 ⟨t, List.mem_of_getElem? ht, hl⟩
    split <;> simp <;> omega
theorem count_over (ht : cs[i]? = some t) (hl : liveB t.state = true) (hl' : liveB t'.state = false) : (cs.set i t').countP (fun t => liveB t.state) + 1 = cs.countP (fun t => liveB t.state) := by
  have hi := (List.getElem?_eq_some_iff.1 ht)
  have h2 : 0 < cs.countP (fun t => liveB t.state) := List.countP_pos_iff.2 ⟨t, List.mem_of_getElem? ht, hl⟩
  rw [List.countP_set hi.1, hi.2, hl, hl']
  simp
  omega
theorem count_live (ht : cs[i]? = some t) (hl : liveB t.state = true) (hl' : liveB t'.state = true) : (cs.set i t').countP (fun t => liveB t.state) = cs.countP (fun t => liveB t.state) := by
  have hi := (List.getElem?_eq_some_iff.1 ht)
  have h2 : 0 < cs.countP (fun t => liveB t.state) := List.countP_pos_iff.2 ⟨t, List.mem_of_getElem? ht, hl⟩
  rw [List.countP_set hi.1, hi.2, hl, hl']
  simp
  omega
theorem v_set (C : CE) {i : Nat} {t' : Cor} {T' : Tab} {j : Nat} (h : j ≠ i) : ({ C with cs := C.cs.set i t', T := T' } : CE).v j = C.v j := by
  unfold CE.v
  simp only
  rw [set_ne h]
theorem Com.set (h : Com a0 K0 C) (ht : C.cs[i]? = some t) (hl : liveB t.state = true) (h2 : t'.state ≠ 2) (hlev : t'.level = t.level) (hst : t'.start = t.start) (T' : Tab)
    (hf : ∀ (a c : Int) (j : Nat), t'.level ≠ 0 → t'.state ≠ 3 → t'.vals a ≠ none → C.wr c = some ((j : Int) + 1) → C.v j a ≠ none → t.start < c → False) : Com a0 K0 { C with cs := C.cs.set i t', T := T' } := by
  have hs2 : t.state ≠ 2 := by rcases live_iff.1 hl with e | e <;> omega
  have hni : i ∉ C.com := fun hc => by obtain ⟨u, hu, h3⟩ := (h.coms i).1 hc; rw [ht] at hu; cases hu; exact hs2 h3
  have hv : ∀ j ∈ C.com, ({ C with cs := C.cs.set i t', T := T' } : CE).v j = C.v j := fun j hj => v_set C (fun e => hni (e ▸ hj))
  have hcw : ({ C with cs := C.cs.set i t', T := T' } : CE).cw = C.cw := by
    unfold CE.cw
    exact List.filter_congr (fun j hj => by rw [hv j hj])
  have hful : ∀ a, full a0 K0 { C with cs := C.cs.set i t', T := T' } a = full a0 K0 C a := fun a => by
    unfold full
    rw [hcw, fullFrom_congr _ _ a _ _ (fun j hj => by rw [hv j (List.mem_filter.1 hj).1])]
  have hwi : ∀ c (j : Nat), C.wr c = some ((j : Int) + 1) → j ∈ C.com := fun c j hc => by
    rw [h.wrc] at hc
    split at hc
    · obtain ⟨m, hm, e⟩ := Option.map_eq_some_iff.1 hc
      have : m = j := by omega
      subst this
      exact (List.mem_filter.1 (List.mem_of_getElem? hm)).1
    · cases hc
  refine ⟨h.comn, fun j => ?_, fun j u hu => ?_, h.zero, by rw [hcw]; exact h.lastc, by rw [hcw]; exact h.nwc, fun c => by rw [hcw]; exact h.wrc c, h.ksl, fun a ha => ?_, fun j m u a c hu hlv hs hva hc hjm hvm hlt => ?_⟩
  · rw [h.coms j]
    by_cases e : j = i
    · subst e
      constructor
      · rintro ⟨u, hu, h3⟩; rw [ht] at hu; cases hu; exact (hs2 h3).elim
      · rintro ⟨u, hu, h3⟩; simp only [set_same ht] at hu; cases hu; exact (h2 h3).elim
    · simp only [set_ne e]
  · rcases set_cases hu with ⟨_, rfl⟩ | ⟨_, hu⟩
    · rw [hst]; exact h.start i t ht
    · exact h.start j u hu
  · rw [hful]
    obtain ⟨d, h1, h3, h4⟩ := h.kss a ha
    refine ⟨d, h1, h3, fun u hu => h4 u ?_⟩
    rcases hu with hu | ⟨j, x, hx, hxl, hxv, hxs⟩
    · exact .inl hu
    · rcases set_cases hx with ⟨_, rfl⟩ | ⟨_, hx⟩
      · exact .inr ⟨i, t, ht, hl, by rw [← hlev]; exact hxv, by rw [← hst]; exact hxs⟩
      · exact .inr ⟨j, x, hx, hxl, hxv, hxs⟩
  · have hmc := hwi c m hc
    rw [hv m hmc] at hvm
    rcases set_cases hu with ⟨_, rfl⟩ | ⟨_, hu⟩
    · rw [hst] at hlt
      exact (hf a c m hlv hs hva hc hvm hlt).elim
    · exact h.fuw j m u a c hu hlv hs hva hc hjm hvm hlt
theorem Com.none_since (h : Com a0 K0 C) (ht : C.cs[i]? = some t) (hl : liveB t.state = true) (a c : Int) (j : Nat) (hlv : t.level ≠ 0) (hva : t.vals a ≠ none) (hc : C.wr c = some ((j : Int) + 1)) (hvj : C.v j a ≠ none) (hlt : t.start < c) : False := by
  have hs2 : t.state ≠ 2 ∧ t.state ≠ 3 := by rcases live_iff.1 hl with e | e <;> omega
  have hwi : ∀ c (j : Nat), C.wr c = some ((j : Int) + 1) → j ∈ C.com := fun c j hc => by
    rw [h.wrc] at hc
    split at hc
    · obtain ⟨m, hm, e⟩ := Option.map_eq_some_iff.1 hc
      have : m = j := by omega
      subst this
      exact (List.mem_filter.1 (List.mem_of_getElem? hm)).1
    · cases hc
  have hni : i ∉ C.com := fun hc => by obtain ⟨u, hu, h3⟩ := (h.coms i).1 hc; rw [ht] at hu; cases hu; exact hs2.1 h3
  obtain ⟨c', h1, _⟩ := h.fuw i j t a c ht hlv hs2.2 hva hc (fun e => hni (e ▸ hwi c j hc)) hvj hlt
  exact hni (hwi c' i h1)
end
end Go.Proofs.YtjefgmeejhakbaaGreatDoor

/- Plain: the locks of an engine when one is over, goes on, asks. -/
namespace Go.Proofs.YtjefgmeejhakbaaGreatDoor
section
variable {a0 : Int} {K0 : Int → Option Int} {C : CE} {Q : Nat → Prop} {T : Tab} {cs : List Cor} {i : Nat} {t t' : Cor}
theorem holds_ne {T : Tab} {k x : Int} (h : holdsP T k = x) (h0 : x ≠ 0) : ∃ l, T k = x :: l := by
  unfold holdsP at h
  cases hT : T k with
  | nil => rw [hT] at h; exact (h0 h.symm).elim
  | cons a l => rw [hT] at h; simp only [List.headD_cons] at h; exact ⟨l, by rw [h]⟩
theorem head_drop {T : Tab} {k x tx : Int} (h : holdsP T k = x) (h0 : x ≠ 0) (hx : x ≠ tx) : holdsP (dropP T tx) k = x := by
  obtain ⟨l, hl⟩ := holds_ne h h0
  unfold holdsP dropP
  rw [hl, List.filter_cons, if_pos (by simpa using hx)]
  rfl
theorem out_iff {T : Tab} {tx k x : Int} (h : (k, x) ∈ outP T tx) : holdsP T k = tx ∧ dropP T tx k ≠ [] ∧ x = holdsP (dropP T tx) k ∧ k ∈ keysP := by
  unfold outP at h
  obtain ⟨j, hj, hk⟩ := List.mem_flatMap.1 h
  unfold outOf at hk
  split at hk
  · rename_i hc
    rw [List.mem_singleton] at hk
    injection hk with h1 h2
    subst h1
    exact ⟨hc.1, hc.2, h2, hj⟩
  · cases hk
theorem out_mem {T : Tab} {tx k : Int} (hk : k ∈ keysP) (h1 : holdsP T k = tx) (h2 : dropP T tx k ≠ []) : (k, holdsP (dropP T tx) k) ∈ outP T tx := by
  unfold outP
  refine List.mem_flatMap.2 ⟨k, hk, ?_⟩
  unfold outOf
  rw [if_pos ⟨h1, h2⟩]
  simp
theorem out_tail {T : Tab} {tx k x : Int} (h : (k, x) ∈ outP T tx) (h0 : tx ≠ 0) : x ∈ (T k).tail ∧ x ≠ tx := by
  obtain ⟨h1, h2, h3, _⟩ := out_iff h
  obtain ⟨l, hl⟩ := holds_ne h1 h0
  have hx : x ∈ dropP T tx k := by rw [h3]; exact head_mem h2
  unfold dropP at hx
  rw [List.mem_filter] at hx
  have hne : x ≠ tx := by simpa using hx.2
  refine ⟨?_, hne⟩
  rw [hl] at hx ⊢
  rcases List.mem_cons.1 hx.1 with e | e
  · exact (hne e).elim
  · exact e
theorem Loc.over (h : Loc T cs Q) (hq : ¬ Q i) (hs : liveB t'.state = false) : Loc (dropP T ((i : Int) + 1)) (cs.set i t') (fun j => Q j ∨ ∃ k, (k, (j : Int) + 1) ∈ outP T ((i : Int) + 1)) := by
  have hT := h.good.tidy
  have htx : ((i : Int) + 1) ≠ 0 := by omega
  have hsub : ∀ k, (dropP T ((i : Int) + 1) k).Sublist (T k) := fun k => List.filter_sublist
  have hne : ∀ (k : Int) (j : Nat), (j : Int) + 1 ∈ dropP T ((i : Int) + 1) k → j ≠ i := fun k j hj e => by
    unfold dropP at hj
    have := (List.mem_filter.1 hj).2
    simp [e] at this
  have hs1 : t'.state ≠ 1 := fun e => by rw [e] at hs; exact absurd hs (by decide)
  refine ⟨h.good.drop _, fun k x hx => ?_, fun k j hj => ?_, fun j u hu h1 => ?_, fun j hj => ?_, fun j u k hu hl hv => ?_⟩
  · obtain ⟨j, u, rfl, hu, hl⟩ := h.mem k x ((hsub k).subset hx)
    exact ⟨j, u, rfl, by rw [set_ne (hne k j hx)]; exact hu, hl⟩
  · have h1 := (hsub k).tail.subset hj
    obtain ⟨u, hu, hst, hw, hnq⟩ := h.tail k j h1
    refine ⟨u, by rw [set_ne (hne k j (List.mem_of_mem_tail hj))]; exact hu, hst, hw, ?_⟩
    rintro (hq' | ⟨k', hk'⟩)
    · exact hnq hq'
    · have h2 := (out_tail hk' htx).1
      have e := hT.one _ _ _ h1 h2
      subst e
      obtain ⟨_, hne', h3, _⟩ := out_iff hk'
      rcases head_not_tail ((h.good.drop ((i : Int) + 1)).tidy.nod k) with h4 | h4
      · exact h4 (by rw [show (dropP T ((i : Int) + 1) k).headD 0 = (j : Int) + 1 from h3.symm]; exact hj)
      · exact hne' h4
  · rcases set_cases hu with ⟨_, rfl⟩ | ⟨hji, hu⟩
    · exact (hs1 h1).elim
    · rcases h.wait j u hu h1 with hq' | hw
      · exact .inl (.inl hq')
      · have hmem : (j : Int) + 1 ∈ dropP T ((i : Int) + 1) u.wk := by
          unfold dropP
          refine List.mem_filter.2 ⟨List.mem_of_mem_tail hw, ?_⟩
          simp only [bne_iff_ne, ne_eq]
          omega
        have hne' : dropP T ((i : Int) + 1) u.wk ≠ [] := fun e => by rw [e] at hmem; cases hmem
        obtain ⟨a, l, hal⟩ : ∃ a l, dropP T ((i : Int) + 1) u.wk = a :: l := by
          cases hd : dropP T ((i : Int) + 1) u.wk with
          | nil => exact (hne' hd).elim
          | cons a l => exact ⟨a, l, rfl⟩
        rw [hal] at hmem
        rcases List.mem_cons.1 hmem with e | e
        · by_cases hh : holdsP T u.wk = (i : Int) + 1
          · left
            right
            refine ⟨u.wk, ?_⟩
            have := out_mem (mem_keysP.2 (hT.key hw)) hh hne'
            rw [show holdsP (dropP T ((i : Int) + 1)) u.wk = a from by unfold holdsP; rw [hal]; rfl, ← e] at this
            exact this
          · have h0 := holds_pos hT (tail_ne hw)
            have h2 := head_drop rfl (by omega) hh
            have h3 : holdsP (dropP T ((i : Int) + 1)) u.wk = a := by unfold holdsP; rw [hal]; rfl
            rw [h3, e.symm] at h2
            rcases head_not_tail (hT.nod u.wk) with h4 | h4
            · exact (h4 (by rw [show (T u.wk).headD 0 = (j : Int) + 1 from h2.symm]; exact hw)).elim
            · rw [h4] at hw; cases hw
        · right
          rw [hal]
          exact e
  · rcases hj with hj | ⟨k, hk⟩
    · obtain ⟨u, hu, h1, h2⟩ := h.pend j hj
      have hji : j ≠ i := fun e => hq (e ▸ hj)
      exact ⟨u, by rw [set_ne hji]; exact hu, h1, head_drop h2 (by omega) (by omega)⟩
    · have h1 := out_tail hk htx
      obtain ⟨u, hu, h2, h3, _⟩ := h.tail k j h1.1
      have hji : j ≠ i := fun e => h1.2 (by rw [e])
      refine ⟨u, by rw [set_ne hji]; exact hu, h2, ?_⟩
      rw [h3]
      exact (out_iff hk).2.2.1.symm
  · rcases set_cases hu with ⟨_, rfl⟩ | ⟨hji, hu⟩
    · rw [hs] at hl; cases hl
    · exact head_drop (h.hold j u k hu hl hv) (by omega) (by omega)
theorem Loc.wake (h : Loc T cs Q) {j : Nat} (hq : Q j) (ht : cs[j]? = some t) (hs : t'.state = 0) (hv : ∀ k, t'.vals k ≠ none → t.vals k ≠ none ∨ k = t.wk) : Loc T (cs.set j t') (fun m => Q m ∧ m ≠ j) := by
  obtain ⟨u, hu, h1, h2⟩ := h.pend j hq
  rw [ht] at hu
  cases hu
  refine ⟨h.good, fun k x hx => ?_, fun k m hm => ?_, fun m u hu hs1 => ?_, fun m hm => ?_, fun m u k hu hl hvk => ?_⟩
  · obtain ⟨m, u, rfl, hu, hl⟩ := h.mem k x hx
    by_cases e : m = j
    · subst e
      exact ⟨m, t', rfl, set_same ht, by rw [hs]; rfl⟩
    · exact ⟨m, u, rfl, by rw [set_ne e]; exact hu, hl⟩
  · obtain ⟨u, hu, h3, h4, h5⟩ := h.tail k m hm
    have e : m ≠ j := fun e => h5 (e ▸ hq)
    exact ⟨u, by rw [set_ne e]; exact hu, h3, h4, fun hc => h5 hc.1⟩
  · rcases set_cases hu with ⟨_, rfl⟩ | ⟨e, hu⟩
    · omega
    · exact (h.wait m u hu hs1).imp (fun hq => ⟨hq, e⟩) id
  · obtain ⟨u, hu, h3, h4⟩ := h.pend m hm.1
    exact ⟨u, by rw [set_ne hm.2]; exact hu, h3, h4⟩
  · rcases set_cases hu with ⟨rfl, rfl⟩ | ⟨e, hu⟩
    · rcases hv k hvk with h3 | rfl
      · exact h.hold m t k ht (live_iff.2 (.inr h1)) h3
      · exact h2
    · exact h.hold m u k hu hl hvk
theorem Loc.notQ (h : Loc T cs Q) (ht : cs[i]? = some t) (hs : t.state = 0) : ¬ Q i := fun hq => by
  obtain ⟨u, hu, h1, _⟩ := h.pend i hq
  rw [ht] at hu
  cases hu
  omega
theorem Loc.put (h : Loc T cs Q) (ht : cs[i]? = some t) (hs : t.state = 0) (hs' : t'.state = 0) {k0 : Int} (hv : ∀ k, t'.vals k ≠ none → t.vals k ≠ none ∨ (k = k0 ∧ holdsP T k0 = (i : Int) + 1)) : Loc T (cs.set i t') Q := by
  have hq := h.notQ ht hs
  refine ⟨h.good, fun k x hx => ?_, fun k m hm => ?_, fun m u hu hs1 => ?_, fun m hm => ?_, fun m u k hu hl hvk => ?_⟩
  · obtain ⟨m, u, rfl, hu, hl⟩ := h.mem k x hx
    by_cases e : m = i
    · subst e
      exact ⟨m, t', rfl, set_same ht, by rw [hs']; rfl⟩
    · exact ⟨m, u, rfl, by rw [set_ne e]; exact hu, hl⟩
  · obtain ⟨u, hu, h3, h4, h5⟩ := h.tail k m hm
    have e : m ≠ i := fun e => by subst e; rw [ht] at hu; cases hu; omega
    exact ⟨u, by rw [set_ne e]; exact hu, h3, h4, h5⟩
  · rcases set_cases hu with ⟨_, rfl⟩ | ⟨e, hu⟩
    · omega
    · exact h.wait m u hu hs1
  · obtain ⟨u, hu, h3, h4⟩ := h.pend m hm
    have e : m ≠ i := fun e => hq (e ▸ hm)
    exact ⟨u, by rw [set_ne e]; exact hu, h3, h4⟩
  · rcases set_cases hu with ⟨rfl, rfl⟩ | ⟨e, hu⟩
    · rcases hv k hvk with h3 | ⟨rfl, h3⟩
      · exact h.hold m t k ht (live_iff.2 (.inl hs)) h3
      · exact h3
    · exact h.hold m u k hu hl hvk
theorem Loc.take (h : Loc T cs Q) (ht : cs[i]? = some t) (hl : liveB t.state = true) {k0 : Int} (hk : T k0 = []) (hg : Good (updT T k0 [(i : Int) + 1])) : Loc (updT T k0 [(i : Int) + 1]) cs Q := by
  have h0 : holdsP T k0 = 0 := by unfold holdsP; rw [hk]; rfl
  have hh : ∀ k x, holdsP T k = x → x ≠ 0 → holdsP (updT T k0 [(i : Int) + 1]) k = x := fun k x e hx => by
    have : k ≠ k0 := fun e' => by subst e'; omega
    unfold holdsP at e ⊢
    rw [updT_other _ _ this]
    exact e
  have htl : ∀ k x, x ∈ (updT T k0 [(i : Int) + 1] k).tail → x ∈ (T k).tail := fun k x hx => by
    by_cases e : k = k0
    · subst e; rw [updT_same] at hx; cases hx
    · rw [updT_other _ _ e] at hx; exact hx
  refine ⟨hg, fun k x hx => ?_, fun k m hm => h.tail k m (htl k _ hm), fun m u hu hs1 => ?_, fun m hm => ?_, fun m u k hu hl hvk => hh k _ (h.hold m u k hu hl hvk) (by omega)⟩
  · by_cases e : k = k0
    · subst e; rw [updT_same] at hx; simp at hx; exact ⟨i, t, hx, ht, hl⟩
    · rw [updT_other _ _ e] at hx; exact h.mem k x hx
  · rcases h.wait m u hu hs1 with h1 | h1
    · exact .inl h1
    · right
      have : u.wk ≠ k0 := fun e => by rw [e, hk] at h1; cases h1
      rw [updT_other _ _ this]
      exact h1
  · obtain ⟨u, hu, h3, h4⟩ := h.pend m hm
    exact ⟨u, hu, h3, hh _ _ h4 (by omega)⟩
theorem Loc.stand (h : Loc T cs Q) (ht : cs[i]? = some t) (hs : t.state = 0) {k0 : Int} (hk : T k0 ≠ []) (hg : Good (updT T k0 (T k0 ++ [(i : Int) + 1]))) (hs' : t'.state = 1) (hw : t'.wk = k0) (hv : t'.vals = t.vals) : Loc (updT T k0 (T k0 ++ [(i : Int) + 1])) (cs.set i t') Q := by
  have hq := h.notQ ht hs
  obtain ⟨a, l, hal⟩ : ∃ a l, T k0 = a :: l := by
    cases hT : T k0 with
    | nil => exact (hk hT).elim
    | cons a l => exact ⟨a, l, rfl⟩
  have hh : ∀ k, holdsP (updT T k0 (T k0 ++ [(i : Int) + 1])) k = holdsP T k := fun k => by
    unfold holdsP
    by_cases e : k = k0
    · subst e; rw [updT_same, hal]; rfl
    · rw [updT_other _ _ e]
  have htl : ∀ k x, x ∈ (updT T k0 (T k0 ++ [(i : Int) + 1]) k).tail ↔ x ∈ (T k).tail ∨ (k = k0 ∧ x = (i : Int) + 1) := fun k x => by
    by_cases e : k = k0
    · subst e; rw [updT_same, hal]; simp
    · rw [updT_other _ _ e]; simp [e]
  refine ⟨hg, fun k x hx => ?_, fun k m hm => ?_, fun m u hu hs1 => ?_, fun m hm => ?_, fun m u k hu hl hvk => ?_⟩
  · have hx' : x ∈ T k ∨ x = (i : Int) + 1 := by
      by_cases e : k = k0
      · subst e; rw [updT_same] at hx; simpa using hx
      · rw [updT_other _ _ e] at hx; exact .inl hx
    rcases hx' with hx' | rfl
    · obtain ⟨m, u, rfl, hu, hl⟩ := h.mem k x hx'
      by_cases e : m = i
      · subst e; exact ⟨m, t', rfl, set_same ht, by rw [hs']; rfl⟩
      · exact ⟨m, u, rfl, by rw [set_ne e]; exact hu, hl⟩
    · exact ⟨i, t', rfl, set_same ht, by rw [hs']; rfl⟩
  · rcases (htl k _).1 hm with h1 | ⟨rfl, h1⟩
    · obtain ⟨u, hu, h3, h4, h5⟩ := h.tail k m h1
      have e : m ≠ i := fun e => by subst e; rw [ht] at hu; cases hu; omega
      exact ⟨u, by rw [set_ne e]; exact hu, h3, h4, h5⟩
    · have e : m = i := by omega
      subst e
      exact ⟨t', set_same ht, hs', hw, hq⟩
  · rcases set_cases hu with ⟨rfl, rfl⟩ | ⟨e, hu⟩
    · right
      rw [hw]
      exact (htl _ _).2 (.inr ⟨rfl, rfl⟩)
    · exact (h.wait m u hu hs1).imp id (fun h1 => (htl _ _).2 (.inl h1))
  · obtain ⟨u, hu, h3, h4⟩ := h.pend m hm
    have e : m ≠ i := fun e => hq (e ▸ hm)
    exact ⟨u, by rw [set_ne e]; exact hu, h3, by rw [hh]; exact h4⟩
  · rw [hh]
    rcases set_cases hu with ⟨rfl, rfl⟩ | ⟨e, hu⟩
    · exact h.hold m t k ht (live_iff.2 (.inl hs)) (by rw [← hv]; exact hvk)
    · exact h.hold m u k hu hl hvk
theorem Loc.more (h : Loc T cs Q) (hs : t'.state = 0) (hv : ∀ k, t'.vals k = none) : Loc T (cs ++ [t']) Q := by
  have hget : ∀ {m : Nat} {u : Cor}, cs[m]? = some u → (cs ++ [t'])[m]? = some u := fun {m u} hu => by
    rw [List.getElem?_append_left (List.getElem?_eq_some_iff.1 hu).1]; exact hu
  have hcs : ∀ {m : Nat} {u : Cor}, (cs ++ [t'])[m]? = some u → cs[m]? = some u ∨ u = t' := fun {m u} hu => by
    rw [List.getElem?_append] at hu
    split at hu
    · exact .inl hu
    · right
      rw [List.getElem?_singleton] at hu
      split at hu
      · injection hu with hu; exact hu.symm
      · cases hu
  refine ⟨h.good, fun k x hx => ?_, fun k m hm => ?_, fun m u hu hs1 => ?_, fun m hm => ?_, fun m u k hu hl hvk => ?_⟩
  · obtain ⟨m, u, rfl, hu, hl⟩ := h.mem k x hx
    exact ⟨m, u, rfl, hget hu, hl⟩
  · obtain ⟨u, hu, h3⟩ := h.tail k m hm
    exact ⟨u, hget hu, h3⟩
  · rcases hcs hu with hu | rfl
    · exact h.wait m u hu hs1
    · omega
  · obtain ⟨u, hu, h3⟩ := h.pend m hm
    exact ⟨u, hget hu, h3⟩
  · rcases hcs hu with hu | rfl
    · exact h.hold m u k hu hl hvk
    · exact (hvk (hv k)).elim
end
end Go.Proofs.YtjefgmeejhakbaaGreatDoor
