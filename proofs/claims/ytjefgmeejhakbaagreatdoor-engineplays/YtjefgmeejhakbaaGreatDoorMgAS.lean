/- EnStep EnStepB EnMovesP KtMem KtPlain KtLater KtTells KtOk KtPok BsDisk M2Run FeSmall: put together for a claim. -/
import Derived.Test.YtjefgmeejhakbaaGreatDoorMgAR
import Derived.Test.YtjefgmeejhakbaaGreatDoorMgAT
import Derived.Test.YtjefgmeejhakbaaGreatDoorMgAP
import Derived.Deep.MidRow
import Derived.Laws.AppendOwnNone
import Derived.ArgAppend
import Derived.Test.YtjefgmeejhakbaaGreatDoorMgAQ
/- Plain: what an engine's methods make of it, all that is asked of them being so. -/
namespace Go.Proofs.YtjefgmeejhakbaaGreatDoor
section
variable {a0 : Int} {K0 : Int → Option Int} {E E2 : Eng} {C : CE} {Q : Nat → Prop} {i j : Nat} {t : Tx} {why : Int}
theorem nodup_lt : ∀ (n : Nat) (l : List Nat), l.Nodup → (∀ x ∈ l, x < n) → l.length ≤ n
  | 0, [], _, _ => Nat.le_refl _
  | 0, x :: r, _, h => absurd (h x (List.mem_cons_self ..)) (by omega)
  | n + 1, l, hn, h => by
    have h1 := nodup_lt n (l.filter (fun x => x != n)) (hn.filter _) (fun x hx => by
      have h2 := List.mem_filter.1 hx
      have h3 := h x h2.1
      have h4 : x ≠ n := by simpa using h2.2
      omega)
    have h2 : l.length ≤ (l.filter (fun x => x != n)).length + 1 := by
      clear h1 h
      induction l with
      | nil => simp
      | cons x r ih =>
        have hn' := List.nodup_cons.1 hn
        have := ih hn'.2
        rw [List.filter_cons]
        by_cases e : x = n
        · subst e
          have : r.filter (fun y => y != x) = r := List.filter_eq_self.2 (fun y hy => by simp; rintro rfl; exact hn'.1 hy)
          simp [this]
        · rw [if_pos (by simpa using e)]
          simp only [List.length_cons]
          omega
    omega
theorem leastOf_le (E : Eng) : ∀ (js : List Nat) (m : Int), leastOf E js m ≤ m ∧ ∀ j ∈ js, ∀ t, E.txs[j]? = some t → t.level ≠ 0 → leastOf E js m ≤ t.start
  | [], m => ⟨Int.le_refl _, fun j hj => by cases hj⟩
  | j :: r, m => by
    have hstep : leastOf E (j :: r) m = leastOf E r (match E.txs[j]? with | some t => if t.level ≠ 0 then min m t.start else m | none => m) := rfl
    have h1 := leastOf_le E r (match E.txs[j]? with | some t => if t.level ≠ 0 then min m t.start else m | none => m)
    have h2 : (match E.txs[j]? with | some t => if t.level ≠ 0 then min m t.start else m | none => m) ≤ m := by
      split
      · split
        · exact Int.min_le_left _ _
        · exact Int.le_refl _
      · exact Int.le_refl _
    rw [hstep]
    refine ⟨Int.le_trans h1.1 h2, fun x hx t ht hlv => ?_⟩
    rcases List.mem_cons.1 hx with rfl | hx
    · refine Int.le_trans h1.1 ?_
      rw [ht]
      simp only [hlv, ne_eq, not_false_eq_true, if_true]
      exact Int.min_le_right _ _
    · exact h1.2 x hx t ht hlv
theorem live_len (E : Eng) : (liveOnes E).length = E.ce.live := by
  have key : ∀ (m : Nat) (l : List Tx), l.length = m → ((List.range l.length).filter (fun i => match l[i]? with | some t => liveB t.state | none => false)).length = l.countP (fun t => liveB t.state) := by
    intro m
    induction m with
    | zero => intro l h; rw [List.eq_nil_of_length_eq_zero h]; rfl
    | succ m ih =>
      intro l0 h0
      obtain ⟨l, x, rfl⟩ : ∃ l x, l0 = l ++ [x] := ⟨l0.dropLast, l0.getLast (fun e => by rw [e] at h0; simp at h0), (List.dropLast_concat_getLast _).symm⟩
      have hm : l.length = m := by simpa using h0
      rw [List.length_append, List.length_singleton, List.range_succ, List.filter_append, List.length_append, List.countP_append]
      have h1 : (List.range l.length).filter (fun i => match (l ++ [x])[i]? with | some t => liveB t.state | none => false) = (List.range l.length).filter (fun i => match l[i]? with | some t => liveB t.state | none => false) := by
        refine List.filter_congr (fun i hi => ?_)
        rw [List.getElem?_append_left (List.mem_range.1 hi)]
      rw [h1, ih l hm]
      congr 1
      rw [List.filter_cons]
      simp only [List.getElem?_append_right (Nat.le_refl _), Nat.sub_self, List.getElem?_cons_zero, List.filter_nil]
      rw [List.countP_cons]
      cases liveB x.state <;> simp
  unfold liveOnes thoseP CE.live Eng.ce
  rw [List.countP_map]
  exact key _ E.txs rfl
end
abbrev noQ : Nat → Prop := fun _ => False
theorem noQ_or (T : Tab) (i : Nat) : (fun j => noQ j ∨ outQ T i j) = outQ T i := by funext j; simp [noQ]
section
variable {a0 : Int} {K0 : Int → Option Int} {Φ : Eng → (Nat → Prop) → Prop} {E : Eng} {i : Nat} {t : Tx} {why : Int}
theorem inst_T (E : Eng) (i : Nat) : (installE E i).T = E.T := by
  unfold installE
  split
  · split <;> rfl
  · rfl
end
end Go.Proofs.YtjefgmeejhakbaaGreatDoor

/- Plain: what Read and Write make of an engine. -/
namespace Go.Proofs.YtjefgmeejhakbaaGreatDoor
section
variable {a0 : Int} {K0 : Int → Option Int} {C : CE} {Q : Nat → Prop} {i : Nat} {t : Cor} {k v : Int}
theorem Loc.open_waits {T : Tab} {cs : List Cor} (h : Loc T cs Q) (ht : cs[i]? = some t) (hs : t.state = 0) : waitsP T ((i : Int) + 1) = -1 :=
  (waits_none_iff h.good.tidy).2 (fun k hk => by
    obtain ⟨u, hu, h1, _⟩ := h.tail k i hk
    rw [ht] at hu
    cases hu
    omega)
end
theorem ask_cases {T : Tab} {q : Int → Nat} {tx key : Int} (hk : 0 ≤ key ∧ key < 10) (hx : 1 ≤ tx) (hw : waitsP T tx = -1) :
    (holdsP T key = tx ∧ askP T q tx key = (true, 0, T)) ∨ (holdsP T key ≠ tx ∧ T key = [] ∧ askP T q tx key = (true, 0, updT T key [tx])) ∨
    (holdsP T key ≠ tx ∧ T key ≠ [] ∧ askP T q tx key = (false, 11, T)) ∨ (holdsP T key ≠ tx ∧ T key ≠ [] ∧ askP T q tx key = (false, 0, updT T key (T key ++ [tx]))) := by
  unfold askP
  rw [if_neg (by rw [Classical.not_not]; omega), if_neg (by omega)]
  by_cases h1 : holdsP T key = tx
  · rw [if_pos h1]; exact .inl ⟨h1, rfl⟩
  · rw [if_neg h1]
    by_cases h2 : T key = []
    · rw [if_pos h2]; exact .inr (.inl ⟨h1, h2, rfl⟩)
    · rw [if_neg h2]
      by_cases h3 : reachP T tx (q (holdsP T key) + 1) (holdsP T key) = true
      · rw [if_pos h3]; exact .inr (.inr (.inl ⟨h1, h2, rfl⟩))
      · rw [if_neg h3]; exact .inr (.inr (.inr ⟨h1, h2, rfl⟩))
def wantE (E : Eng) (i : Nat) (t : Tx) (key val : Int) (T' : Tab) : Eng := { (E.setTx i { t with wk := key, wv := val }) with T := T' }
def noteE (E : Eng) (i : Nat) (t : Tx) (key : Int) : Eng := E.setTx i (noteReadP t key ((E.wr (verP E key (seesP E t)).1.1).getD 0))
section
variable {a0 : Int} {K0 : Int → Option Int} {Φ : Eng → (Nat → Prop) → Prop} {E : Eng} {i : Nat} {t : Tx} {key val : Int} {q : Int → Nat}
theorem ce_note (ht : E.txs[i]? = some t) : (noteE E i t key).ce = E.ce := by
  unfold noteE
  exact ce_set_id ht (by rfl)
theorem want_get (ht : E.txs[i]? = some t) (T' : Tab) : (wantE E i t key val T').txs[i]? = some { t with wk := key, wv := val } := setTx_get ht
theorem want_ce (E : Eng) (i : Nat) (t : Tx) (key val : Int) (T' : Tab) : (wantE E i t key val T').ce = { E.ce with cs := E.ce.cs.set i { cor t with wk := key, wv := val }, T := T' } := by
  unfold wantE
  simp [Eng.setTx, Eng.ce, List.map_set, cor]
end
end Go.Proofs.YtjefgmeejhakbaaGreatDoor

/- Plain: somebody may always go on; what is committed is what committed ones wrote, the last one of each key. -/
namespace Go.Proofs.YtjefgmeejhakbaaGreatDoor
section
variable {a0 : Int} {K0 : Int → Option Int} {E : Eng} {i : Nat} {t : Tx}
end
section
variable {a0 : Int} {K0 : Int → Option Int} {E : Eng} {Q : Nat → Prop}
end
end Go.Proofs.YtjefgmeejhakbaaGreatDoor

/- The tale of interleafkeep: plain, and how it lies in memory. -/
namespace Go.Proofs.YtjefgmeejhakbaaGreatDoor
open Go.RowKit
section
variable {w w' : World} {s N : Nat}
end
section
variable {w w' : World} {L L' : EnL} {E E' : Eng}
end
end Go.Proofs.YtjefgmeejhakbaaGreatDoor

/- Plain: what one act makes of an engine and its tale. -/
namespace Go.Proofs.YtjefgmeejhakbaaGreatDoor
end Go.Proofs.YtjefgmeejhakbaaGreatDoor

/- Plain: what was committed stays so. -/
namespace Go.Proofs.YtjefgmeejhakbaaGreatDoor
section
variable {a0 : Int} {K0 : Int → Option Int} {C C' : CE}
end
end Go.Proofs.YtjefgmeejhakbaaGreatDoor

/- Plain: an engine and its tale go on as they should: what each one reads is what it should. -/
namespace Go.Proofs.YtjefgmeejhakbaaGreatDoor
abbrev Mid0 (E : Eng) : Prop := Mid 0 (fun _ => none) E.ce noQ
section
variable {E E' : Eng}
end
end Go.Proofs.YtjefgmeejhakbaaGreatDoor

/- Plain: what is asked of a tale stays so. -/
namespace Go.Proofs.YtjefgmeejhakbaaGreatDoor
section
variable {E E' : Eng} {i : Nat} {u : Tx} {n : Nat}
end
end Go.Proofs.YtjefgmeejhakbaaGreatDoor

/- Plain: each act keeps what is asked of a tale. -/
namespace Go.Proofs.YtjefgmeejhakbaaGreatDoor
theorem mid0_eng0 : Mid0 eng0 := by
  have hcw : eng0.ce.cw = [] := rfl
  refine ⟨⟨good0, fun k x h => (by cases h), fun k i h => (by cases h), fun i t h => (by simp [eng0, Eng.ce] at h), fun i h => h.elim, fun i t k h => (by simp [eng0, Eng.ce] at h)⟩, ⟨fun i t h => (by simp [eng0, Eng.ce] at h), by decide, by decide⟩, ?_⟩
  refine ⟨List.Pairwise.nil, fun i => ⟨fun h => (by cases h), fun ⟨t, h, _⟩ => (by simp [eng0, Eng.ce] at h)⟩, fun i t h => (by simp [eng0, Eng.ce] at h), by decide, rfl, rfl, fun c => ?_, rfl, fun a ha => ⟨0, Nat.zero_le _, ?_, fun u _ => .inl rfl⟩, fun i j t a c h => (by simp [eng0, Eng.ce] at h)⟩
  · rw [hcw]
    split <;> rfl
  · show (List.replicate 10 ([] : List (Int × Int)))[a]? = _
    rw [List.getElem?_replicate, if_pos ha]
    rfl
end Go.Proofs.YtjefgmeejhakbaaGreatDoor

/- base's Disk in memory: what was written. -/
namespace Go.Proofs.YtjefgmeejhakbaaGreatDoor
open Go.RowKit
section
variable {w w' : World} {d : Nat} {dv : List Value}
end
end Go.Proofs.YtjefgmeejhakbaaGreatDoor

/- Plain: as EnRun, EnStep, EnStepB, for an engine over whatever time: who holds, who waits. -/
namespace Go.Proofs.YtjefgmeejhakbaaGreatDoor
structure Mid2 (C : CE) (Q : Nat → Prop) : Prop where
  loc : Loc C.T C.cs Q
  reg : Reg C.cs
section
variable {C : CE} {Q : Nat → Prop} {i : Nat} {t t' : Cor}
theorem Mid2.gone (h : Mid2 C Q) (ht : C.cs[i]? = some t) (hl : liveB t.state = true) (hq : ¬ Q i) :
    Mid2 { C with cs := C.cs.set i { t with state := 3 }, T := dropP C.T ((i : Int) + 1) } (fun j => Q j ∨ ∃ k, (k, (j : Int) + 1) ∈ outP C.T ((i : Int) + 1)) := by
  have hf := h.reg.fair i t ht
  exact ⟨h.loc.over hq (by rfl), h.reg.set ht hl ⟨hf.lev, (by show (0 : Int) ≤ 3 ∧ (3 : Int) ≤ 3; omega), hf.vk, hf.fin, hf.wan⟩⟩
theorem Mid2.wakePut (h : Mid2 C Q) {j : Nat} (hq : Q j) (ht : C.cs[j]? = some t) :
    Mid2 { C with cs := C.cs.set j { t with state := 0, vals := updT t.vals t.wk (some t.wv) } } (fun m => Q m ∧ m ≠ j) := by
  have hf := h.reg.fair j t ht
  obtain ⟨u, hu, h1, _⟩ := h.loc.pend j hq
  rw [ht] at hu
  cases hu
  have hl : liveB t.state = true := live_iff.2 (.inr h1)
  refine ⟨h.loc.wake hq ht rfl (fun k hk => ?_), h.reg.set ht hl ⟨hf.lev, (by show (0 : Int) ≤ 0 ∧ (0 : Int) ≤ 3; omega), fun k hk => ?_, fun k v hk => ?_, hf.wan⟩⟩
  · by_cases e : k = t.wk
    · exact .inr e
    · left
      simpa [updT_other _ _ e] using hk
  · by_cases e : k = t.wk
    · rw [e]; exact hf.wan.1
    · exact hf.vk k (by simpa [updT_other _ _ e] using hk)
  · by_cases e : k = t.wk
    · subst e
      simp only [updT_same] at hk
      injection hk with hk
      rw [← hk]
      exact hf.wan.2
    · exact hf.fin k v (by simpa [updT_other _ _ e] using hk)
theorem Mid2.wake (h : Mid2 C Q) {j : Nat} (hq : Q j) (ht : C.cs[j]? = some t) : Mid2 { C with cs := C.cs.set j { t with state := 0 } } (fun m => Q m ∧ m ≠ j) := by
  have hf := h.reg.fair j t ht
  obtain ⟨u, hu, h1, _⟩ := h.loc.pend j hq
  rw [ht] at hu
  cases hu
  have hl : liveB t.state = true := live_iff.2 (.inr h1)
  exact ⟨h.loc.wake hq ht rfl (fun k hk => .inl hk), h.reg.set ht hl ⟨hf.lev, (by show (0 : Int) ≤ 0 ∧ (0 : Int) ≤ 3; omega), hf.vk, hf.fin, hf.wan⟩⟩
end
section
variable {E E2 : Eng} {Q : Nat → Prop} {i j : Nat} {t : Tx} {why : Int}
theorem Mid2.putE (h : Mid2 E.ce Q) (hq : Q j) (hp : putE (wakeE E j) j = (why, E2)) : Mid2 E2.ce (fun m => Q m ∧ m ≠ j) ∧ E2.ce.live = E.ce.live ∧ E2.T = E.T ∧ (∃ u, E2.txs[j]? = some u ∧ u.state = 0) ∧ (why = 0 ∨ why = 10 ∨ why = 13) := by
  obtain ⟨u, hu, h1, h2⟩ := h.loc.pend j hq
  obtain ⟨t, ht, rfl⟩ := cs_of hu
  have hl : liveB (cor t).state = true := live_iff.2 (.inr h1)
  have hw : (wakeE E j).txs[j]? = some { t with state := 0 } := by unfold wakeE; rw [Eng.upd_some ht]; exact setTx_get ht
  have hwc : (wakeE E j).ce = { E.ce with cs := E.ce.cs.set j { cor t with state := 0 } } := by unfold wakeE; rw [ce_upd ht]; rfl
  have hwT : (wakeE E j).T = E.T := by unfold wakeE; rw [Eng.upd_some ht]; rfl
  rcases ce_put hw hp with ⟨rfl, rfl, _, _⟩ | ⟨hy, _, he⟩
  · refine ⟨by rw [hwc]; exact h.wake hq hu, ?_, hwT, ⟨_, hw, rfl⟩, .inr (.inl rfl)⟩
    rw [hwc]
    exact count_live hu hl rfl
  · have hce : E2.ce = { E.ce with cs := E.ce.cs.set j { cor t with state := 0, vals := updT t.vals t.wk (some t.wv) } } := by
      rw [he, hwc]
      simp [cor]
    refine ⟨by rw [hce]; exact h.wakePut hq hu, ?_, ?_, ?_, by omega⟩
    · rw [hce]
      exact count_live hu hl rfl
    · have := congrArg CE.T hce
      exact this
    · have h3 : E2.ce.cs[j]? = some { cor t with state := 0, vals := updT t.vals t.wk (some t.wv) } := by rw [hce]; exact set_same hu
      obtain ⟨u, hu, e⟩ := cs_of h3
      exact ⟨u, hu, by have := congrArg Cor.state e; exact this⟩
theorem Mid2.goneE (h : Mid2 E.ce Q) (ht : E.txs[i]? = some t) (hl : liveB t.state = true) (hq : ¬ Q i) : Mid2 (overE (loseE E i why) i 3).ce (fun j => Q j ∨ outQ E.T i j) ∧ (overE (loseE E i why) i 3).ce.live + 1 = E.ce.live := by
  obtain ⟨u, hu, e⟩ := lose_get (why := why) ht
  rw [ce_over hu, e, ce_lose, lose_T]
  exact ⟨h.gone (cs_get ht) hl hq, count_over (cs_get ht) hl (by rfl)⟩
theorem go2_ok {Φ : Eng → (Nat → Prop) → Prop} (hok : ∀ (E : Eng) (Q : Nat → Prop) (j : Nat) (E2 : Eng), Mid2 E.ce Q → Φ E Q → Q j → putE (wakeE E j) j = (0, E2) → Φ E2 (fun m => Q m ∧ m ≠ j))
    (hbad : ∀ (E : Eng) (Q : Nat → Prop) (j : Nat) (why : Int) (E2 : Eng), Mid2 E.ce Q → Φ E Q → Q j → putE (wakeE E j) j = (why, E2) → (why = 10 ∨ why = 13) → Φ (overE (loseE E2 j why) j 3) (fun m => (Q m ∧ m ≠ j) ∨ outQ E.T j m)) :
    ∀ (f : Nat) (l : List (Int × Int)) (E : Eng) (Q : Nat → Prop), Mid2 E.ce Q → Φ E Q → E.ce.live ≤ f → (∀ p ∈ l, ∃ j : Nat, p.2 = (j : Int) + 1 ∧ Q j) → (l.map (·.2)).Nodup →
      ∃ E', goR (endF f) l E = some E' ∧ Mid2 E'.ce (fun m => Q m ∧ ((m : Int) + 1) ∉ l.map (·.2)) ∧ Φ E' (fun m => Q m ∧ ((m : Int) + 1) ∉ l.map (·.2)) ∧ E'.ce.live ≤ E.ce.live := by
  intro f
  induction f with
  | zero =>
    intro l E Q hM hP hf hl _
    cases l with
    | nil => exact ⟨E, rfl, by simpa using hM, by simpa using hP, Nat.le_refl _⟩
    | cons p r =>
      obtain ⟨j, _, hq⟩ := hl p (List.mem_cons_self ..)
      obtain ⟨u, hu, h1, _⟩ := hM.loc.pend j hq
      have : 0 < E.ce.live := List.countP_pos_iff.2 ⟨u, List.mem_of_getElem? hu, by rw [h1]; rfl⟩
      omega
  | succ f ihf =>
    intro l
    induction l with
    | nil => intro E Q hM hP hf hl _; exact ⟨E, rfl, by simpa using hM, by simpa using hP, Nat.le_refl _⟩
    | cons p r ihl =>
      intro E Q hM hP hf hl hn
      obtain ⟨k, x⟩ := p
      obtain ⟨j, hx, hq⟩ := hl _ (List.mem_cons_self ..)
      simp only at hx
      subst hx
      simp only [List.map_cons, List.nodup_cons] at hn
      obtain ⟨u, hu, h1, h2⟩ := hM.loc.pend j hq
      have hlen : j < E.txs.length := by have := (List.getElem?_eq_some_iff.1 hu).1; simpa [Eng.ce] using this
      have hc : 1 ≤ (j : Int) + 1 ∧ (j : Int) + 1 ≤ E.txs.length := by omega
      have hj : ((j : Int) + 1 - 1).toNat = j := by omega
      rcases hp : putE (wakeE E j) j with ⟨why, E2⟩
      obtain ⟨hM2, hl2, hT2, ⟨u2, hu2, hs2⟩, hy⟩ := hM.putE hq hp
      have hrest : ∀ p ∈ r, ∃ m : Nat, p.2 = (m : Int) + 1 ∧ (Q m ∧ m ≠ j) := fun p hp' => by
        obtain ⟨m, e, hm⟩ := hl p (List.mem_cons_of_mem _ hp')
        exact ⟨m, e, hm, fun e' => hn.1 (by rw [← e', ← e]; exact List.mem_map_of_mem hp')⟩
      have hQ : (fun m => (Q m ∧ m ≠ j) ∧ ((m : Int) + 1) ∉ r.map (·.2)) = (fun m => Q m ∧ ((m : Int) + 1) ∉ ((j : Int) + 1) :: r.map (·.2)) := by
        funext m
        simp only [eq_iff_iff, List.mem_cons, not_or]
        constructor
        · rintro ⟨⟨a, b⟩, c⟩; exact ⟨a, by omega, c⟩
        · rintro ⟨a, b, c⟩; exact ⟨⟨a, by omega⟩, c⟩
      rw [goR, if_pos hc, hj]
      show ∃ E', (match writeR (endF (f + 1)) (wakeE E j) j with | some (_, E') => goR (endF (f + 1)) r E' | none => none) = some E' ∧ _
      by_cases h0 : why = 0
      · subst h0
        have hw : writeR (endF (f + 1)) (wakeE E j) j = some (0, E2) := by unfold writeR; rw [hp]; simp
        rw [hw]
        obtain ⟨E', e1, e2, e3, e4⟩ := ihl E2 _ hM2 (hok E Q j E2 hM hP hq hp) (by omega) hrest hn.2
        rw [hQ] at e2 e3
        exact ⟨E', e1, e2, e3, by omega⟩
      · have hy' : why = 10 ∨ why = 13 := by omega
        have hnq : ¬ (fun m => Q m ∧ m ≠ j) j := fun h => h.2 rfl
        obtain ⟨hM3, hl3⟩ := hM2.goneE (why := why) hu2 (by rw [hs2]; rfl) hnq
        have hP3 := hbad E Q j why E2 hM hP hq hp hy'
        rw [hT2] at hM3
        obtain ⟨E4, e1, e2, e3, e4⟩ := ihf (outP E.T ((j : Int) + 1)) (overE (loseE E2 j why) j 3) _ hM3 hP3 (by omega) (fun p hp' => by
            obtain ⟨k', x'⟩ := p
            have h5 := out_tail hp' (by omega)
            obtain ⟨m, u', e, _⟩ := hM.loc.mem k' x' (List.mem_of_mem_tail h5.1)
            subst e
            exact ⟨m, rfl, .inr ⟨k', hp'⟩⟩) (out_nodup hM.loc.good.tidy (by omega))
        have hend : endF (f + 1) (loseE E2 j why) j 3 = some E4 := by
          rw [endF, lose_T, hT2]
          exact e1
        have hw : writeR (endF (f + 1)) (wakeE E j) j = some (why, E4) := by unfold writeR; rw [hp]; simp only [h0, if_false, hend, Option.map_some]
        have hQ4 : (fun m => ((Q m ∧ m ≠ j) ∨ outQ E.T j m) ∧ ((m : Int) + 1) ∉ (outP E.T ((j : Int) + 1)).map (·.2)) = (fun m => Q m ∧ m ≠ j) := by
          funext m
          simp only [eq_iff_iff]
          constructor
          · rintro ⟨h5 | ⟨k', h5⟩, h6⟩
            · exact h5
            · exact (h6 (List.mem_map.2 ⟨_, h5, rfl⟩)).elim
          · intro h5
            refine ⟨.inl h5, fun h6 => ?_⟩
            obtain ⟨p, hp', e⟩ := List.mem_map.1 h6
            exact hM.loc.out_not (i := j) (j := m) ⟨p.1, by rw [← e]; exact hp'⟩ h5.1
        rw [hQ4] at e2 e3
        rw [hw]
        obtain ⟨E', d1, d2, d3, d4⟩ := ihl E4 _ e2 e3 (by omega) hrest hn.2
        rw [hQ] at d2 d3
        exact ⟨E', d1, d2, d3, by omega⟩
theorem end2_ok {Φ : Eng → (Nat → Prop) → Prop} (hok : ∀ (E : Eng) (Q : Nat → Prop) (j : Nat) (E2 : Eng), Mid2 E.ce Q → Φ E Q → Q j → putE (wakeE E j) j = (0, E2) → Φ E2 (fun m => Q m ∧ m ≠ j))
    (hbad : ∀ (E : Eng) (Q : Nat → Prop) (j : Nat) (why : Int) (E2 : Eng), Mid2 E.ce Q → Φ E Q → Q j → putE (wakeE E j) j = (why, E2) → (why = 10 ∨ why = 13) → Φ (overE (loseE E2 j why) j 3) (fun m => (Q m ∧ m ≠ j) ∨ outQ E.T j m))
    {E : Eng} {st : Int} {T : Tab} {cs : List Cor} (hT : E.T = T) (hL : Loc T cs (fun _ => False)) (hM : Mid2 (overE E i st).ce (outQ T i)) (hP : Φ (overE E i st) (outQ T i)) :
    ∃ E', endF 7 E i st = some E' ∧ Mid2 E'.ce (fun _ => False) ∧ Φ E' (fun _ => False) ∧ E'.ce.live ≤ (overE E i st).ce.live := by
  obtain ⟨E', e1, e2, e3, e4⟩ := go2_ok hok hbad 6 (outP T ((i : Int) + 1)) (overE E i st) _ hM hP hM.reg.num (fun p hp' => by
      obtain ⟨k', x'⟩ := p
      have h5 := out_tail hp' (by omega)
      obtain ⟨m, u', e, _⟩ := hL.mem k' x' (List.mem_of_mem_tail h5.1)
      subst e
      exact ⟨m, rfl, k', hp'⟩) (out_nodup hL.good.tidy (by omega))
  have hQ4 : (fun m : Nat => outQ T i m ∧ ((m : Int) + 1) ∉ (outP T ((i : Int) + 1)).map (·.2)) = (fun _ => False) := by
    funext m
    simp only [eq_iff_iff, iff_false]
    rintro ⟨⟨k', h5⟩, h6⟩
    exact h6 (List.mem_map.2 ⟨_, h5, rfl⟩)
  rw [hQ4] at e2 e3
  exact ⟨E', by rw [endF, hT]; exact e1, e2, e3, e4⟩
end
section
variable {E E2 : Eng} {C : CE} {Q : Nat → Prop} {i j : Nat} {t : Tx} {why : Int}
theorem Mid2.fine (h : Mid2 E.ce Q) (ht : E.txs[i]? = some t) : FineV t := fun k v hv => (h.reg.fair i _ (cs_get ht)).fin k v hv
theorem Mid2.begin (h : Mid2 E.ce Q) {level : Int} (hlv : level = 0 ∨ level = 1 ∨ level = 2) (hl : E.txs.length < 200) (ho : E.ce.live < 6) : Mid2 ({ E with txs := E.txs ++ [newTx level E.last] } : Eng).ce Q := by
  have e : ({ E with txs := E.txs ++ [newTx level E.last] } : Eng).ce = { E.ce with cs := E.ce.cs ++ [cor (newTx level E.last)] } := by simp [Eng.ce]
  rw [e]
  refine ⟨h.loc.more rfl (fun _ => rfl), ⟨fun j u hu => ?_, ?_, by simp [Eng.ce]; omega⟩⟩
  · rw [List.getElem?_append] at hu
    split at hu
    · exact h.reg.fair j u hu
    · rw [List.getElem?_singleton] at hu
      split at hu
      · injection hu with hu
        rw [← hu]
        exact ⟨hlv, (by show (0 : Int) ≤ 0 ∧ (0 : Int) ≤ 3; omega), fun k hk => (hk rfl).elim, fun k v hk => (by cases hk), by simp [cor, newTx]⟩
      · cases hu
  · rw [List.countP_append]
    have h1 : [cor (newTx level E.last)].countP (fun t => liveB t.state) = 1 := rfl
    have h2 : E.ce.cs.countP (fun t => liveB t.state) = E.ce.live := rfl
    omega
theorem Mid2.sweep (h : Mid2 E.ce Q) : Mid2 (sweepE E).ce Q := ⟨h.loc, h.reg⟩
theorem Mid2.commitE (h : Mid2 E.ce Q) (hq : ¬ Q i) (ht : E.txs[i]? = some t) (hl : liveB t.state = true) : Mid2 (overE { (installE E i) with com := E.com ++ [i] } i 2).ce (fun j => Q j ∨ outQ E.T i j) ∧ (overE { (installE E i) with com := E.com ++ [i] } i 2).ce.live + 1 = E.ce.live := by
  have hf := h.reg.fair i _ (cs_get ht)
  have hrg : Reg (E.ce.cs.set i { cor t with state := 2 }) := h.reg.set (cs_get ht) hl ⟨hf.lev, (by show (0 : Int) ≤ 2 ∧ (2 : Int) ≤ 3; omega), hf.vk, hf.fin, hf.wan⟩
  have hlo := h.loc.over (i := i) (t' := { cor t with state := 2 }) hq (by rfl)
  have hct := count_over (t' := { cor t with state := 2 }) (cs_get ht) hl (by rfl)
  have hI : (installE E i).txs = E.txs ∧ (installE E i).T = E.T := by
    unfold installE
    split
    · split <;> exact ⟨rfl, rfl⟩
    · exact ⟨rfl, rfl⟩
  have ht' : ({ (installE E i) with com := E.com ++ [i] } : Eng).txs[i]? = some t := by show (installE E i).txs[i]? = some t; rw [hI.1]; exact ht
  have hc : (overE { (installE E i) with com := E.com ++ [i] } i 2).ce.cs = E.ce.cs.set i { cor t with state := 2 } ∧ (overE { (installE E i) with com := E.com ++ [i] } i 2).ce.T = dropP E.T ((i : Int) + 1) := by
    rw [ce_over ht']
    refine ⟨?_, ?_⟩
    · show ((installE E i).txs.map cor).set i _ = (E.txs.map cor).set i _
      rw [hI.1]
    · show dropP (installE E i).T _ = _
      rw [hI.2]
  refine ⟨⟨by rw [hc.1, hc.2]; exact hlo, by rw [hc.1]; exact hrg⟩, ?_⟩
  unfold CE.live
  rw [hc.1]
  exact hct
end
structure Goes2 (Φ : Eng → (Nat → Prop) → Prop) : Prop where
  ok : ∀ (E : Eng) (Q : Nat → Prop) (j : Nat) (E2 : Eng), Mid2 E.ce Q → Φ E Q → Q j → putE (wakeE E j) j = (0, E2) → Φ E2 (fun m => Q m ∧ m ≠ j)
  bad : ∀ (E : Eng) (Q : Nat → Prop) (j : Nat) (why : Int) (E2 : Eng), Mid2 E.ce Q → Φ E Q → Q j → putE (wakeE E j) j = (why, E2) → (why = 10 ∨ why = 13) → Φ (overE (loseE E2 j why) j 3) (fun m => (Q m ∧ m ≠ j) ∨ outQ E.T j m)
section
variable {Φ : Eng → (Nat → Prop) → Prop} {E : Eng} {i : Nat} {t : Tx} {why : Int}
theorem lose2_ok (hG : Goes2 Φ) (h : Mid2 E.ce noQ) (ht : E.txs[i]? = some t) (hl : liveB t.state = true) (hP : Φ (overE (loseE E i why) i 3) (outQ E.T i)) :
    ∃ E', endF 7 (loseE E i why) i 3 = some E' ∧ Mid2 E'.ce noQ ∧ Φ E' noQ ∧ E'.ce.live < E.ce.live := by
  obtain ⟨hM, hc⟩ := h.goneE (why := why) ht hl (fun h => h)
  rw [noQ_or] at hM
  obtain ⟨E', e1, e2, e3, e4⟩ := end2_ok hG.ok hG.bad (lose_T E i why) h.loc hM hP
  exact ⟨E', e1, e2, e3, by omega⟩
theorem commit2_ok (hG : Goes2 Φ) (h : Mid2 E.ce noQ) (ht : E.txs[i]? = some t) (hl : liveB t.state = true) (hb : ¬ Between t.ahead t.behind) (hP : Φ (overE { (installE E i) with com := E.com ++ [i] } i 2) (outQ E.T i)) :
    ∃ E', commitE 7 E i = some (0, E') ∧ Mid2 E'.ce noQ ∧ Φ E' noQ ∧ E'.ce.live < E.ce.live := by
  obtain ⟨hM, hc⟩ := h.commitE (i := i) (fun h => h) ht hl
  rw [noQ_or] at hM
  obtain ⟨E', e1, e2, e3, e4⟩ := end2_ok (E := { (installE E i) with com := E.com ++ [i] }) hG.ok hG.bad (inst_T E i) h.loc hM hP
  refine ⟨E', ?_, e2, e3, by omega⟩
  unfold commitE
  rw [ht]
  simp only
  rw [if_neg (by rw [betB_false hb]; simp), e1]
  rfl
theorem commit2_bad (hG : Goes2 Φ) (h : Mid2 E.ce noQ) (ht : E.txs[i]? = some t) (hl : liveB t.state = true) (hb : Between t.ahead t.behind) (hP : Φ (overE (loseE E i 13) i 3) (outQ E.T i)) :
    ∃ E', commitE 7 E i = some (13, E') ∧ Mid2 E'.ce noQ ∧ Φ E' noQ ∧ E'.ce.live < E.ce.live := by
  obtain ⟨E', e1, e2⟩ := lose2_ok hG h ht hl hP
  refine ⟨E', ?_, e2⟩
  unfold commitE
  rw [ht]
  simp only
  rw [if_pos (betB_true.2 hb), e1]
  rfl
end
section
variable {C : CE} {Q : Nat → Prop} {i : Nat} {t : Cor} {k v : Int}
theorem Mid2.want (h : Mid2 C Q) (ht : C.cs[i]? = some t) (hs : t.state = 0) (hk : 0 ≤ k ∧ k < 10) (hv : -1099511627776 ≤ v ∧ v ≤ 1099511627776) : Mid2 { C with cs := C.cs.set i { t with wk := k, wv := v } } Q := by
  have hf := h.reg.fair i t ht
  have hl : liveB t.state = true := live_iff.2 (.inl hs)
  exact ⟨h.loc.put (k0 := 0) ht hs hs (fun k hk => .inl hk), h.reg.set ht hl ⟨hf.lev, hf.sta, hf.vk, hf.fin, hk, hv⟩⟩
theorem Mid2.take (h : Mid2 C Q) (ht : C.cs[i]? = some t) (hs : t.state = 0) (hk : C.T k = []) (hg : Good (updT C.T k [(i : Int) + 1])) : Mid2 { C with T := updT C.T k [(i : Int) + 1] } Q :=
  ⟨h.loc.take ht (live_iff.2 (.inl hs)) hk hg, h.reg⟩
theorem Mid2.stand (h : Mid2 C Q) (ht : C.cs[i]? = some t) (hs : t.state = 0) (hk : C.T t.wk ≠ []) (hg : Good (updT C.T t.wk (C.T t.wk ++ [(i : Int) + 1]))) : Mid2 { C with cs := C.cs.set i { t with state := 1 }, T := updT C.T t.wk (C.T t.wk ++ [(i : Int) + 1]) } Q := by
  have hf := h.reg.fair i t ht
  have hl : liveB t.state = true := live_iff.2 (.inl hs)
  exact ⟨h.loc.stand ht hs hk hg rfl rfl rfl, h.reg.set ht hl ⟨hf.lev, (by show (0 : Int) ≤ 1 ∧ (1 : Int) ≤ 3; omega), hf.vk, hf.fin, hf.wan⟩⟩
theorem Mid2.putOpen (h : Mid2 C Q) (ht : C.cs[i]? = some t) (hs : t.state = 0) (hh : holdsP C.T t.wk = (i : Int) + 1) :
    Mid2 { C with cs := C.cs.set i { t with vals := updT t.vals t.wk (some t.wv) } } Q := by
  have hf := h.reg.fair i t ht
  have hl : liveB t.state = true := live_iff.2 (.inl hs)
  refine ⟨h.loc.put (k0 := t.wk) ht hs hs (fun k hk => ?_), h.reg.set ht hl ⟨hf.lev, hf.sta, fun k hk => ?_, fun k v hk => ?_, hf.wan⟩⟩
  · by_cases e : k = t.wk
    · exact .inr ⟨e, hh⟩
    · left
      simpa [updT_other _ _ e] using hk
  · by_cases e : k = t.wk
    · rw [e]; exact hf.wan.1
    · exact hf.vk k (by simpa [updT_other _ _ e] using hk)
  · by_cases e : k = t.wk
    · subst e
      simp only [updT_same] at hk
      injection hk with hk
      rw [← hk]
      exact hf.wan.2
    · exact hf.fin k v (by simpa [updT_other _ _ e] using hk)
end
section
variable {Φ : Eng → (Nat → Prop) → Prop} {E : Eng} {i : Nat} {t : Tx} {key val : Int} {q : Int → Nat}
theorem read2_ok (hG : Goes2 Φ) (h : Mid2 E.ce noQ) (ht : E.txs[i]? = some t) (hs : t.state = 0) (hk : 0 ≤ key ∧ key < 10) (hv : t.vals key = none)
    (hP1 : t.level ≠ 2 → Φ (noteE E i t key) noQ) (hP2 : ∀ E2, t.level = 2 → aowP (noteE E i t key) i key = (true, E2) → Φ E2 noQ)
    (hP3 : ∀ E2, t.level = 2 → aowP (noteE E i t key) i key = (false, E2) → Φ (overE (loseE E2 i 13) i 3) (outQ E.T i)) :
    ∃ R, readE 7 E i key = some R ∧ Mid2 R.2.ce noQ ∧ Φ R.2 noQ ∧ ((R.1 = ((verP E key (seesP E t)).1.2, (verP E key (seesP E t)).2) ∧ R.2.ce = E.ce) ∨ R.1 = (0, 13)) ∧ R.2.ce.live ≤ E.ce.live := by
  have hkb : keyB key = true := by simp [keyB]; omega
  have hce := ce_note (key := key) ht
  unfold readE
  rw [ht]
  simp only
  rw [hv]
  simp only
  rw [if_neg (by rw [hkb]; simp)]
  by_cases h2 : t.level = 2
  · rw [if_pos h2]
    rcases ha : aowP (noteE E i t key) i key with ⟨b, E2⟩
    have hc2 : E2.ce = E.ce := by
      have := ce_aow (noteE E i t key) i key
      rw [ha] at this
      exact this.trans hce
    rw [show aowP (E.setTx i (noteReadP t key ((E.wr (verP E key (seesP E t)).1.1).getD 0))) i key = (b, E2) from ha]
    cases b with
    | true => exact ⟨_, rfl, by rw [hc2]; exact h, hP2 E2 h2 ha, .inl ⟨rfl, hc2⟩, by rw [hc2]; exact Nat.le_refl _⟩
    | false =>
      obtain ⟨u, hu, e⟩ : ∃ u, E2.txs[i]? = some u ∧ cor u = cor t := cs_of (by rw [hc2]; exact cs_get ht)
      have hus : u.state = 0 := by have := congrArg Cor.state e; exact this.trans hs
      have hT2 : E2.T = E.T := congrArg CE.T hc2
      obtain ⟨E', e1, e2, e3, e4⟩ := lose2_ok (E := E2) (why := 13) hG (by rw [hc2]; exact h) hu (by rw [hus]; rfl) (by rw [hT2]; exact hP3 E2 h2 ha)
      simp only [e1, Option.map_some]
      exact ⟨_, rfl, e2, e3, .inr rfl, by rw [hc2] at e4; show E'.ce.live ≤ _; omega⟩
  · rw [if_neg h2]
    exact ⟨_, rfl, by rw [show (E.setTx i (noteReadP t key ((E.wr (verP E key (seesP E t)).1.1).getD 0))).ce = E.ce from hce]; exact h, hP1 h2, .inl ⟨rfl, hce⟩, by rw [show (E.setTx i (noteReadP t key ((E.wr (verP E key (seesP E t)).1.1).getD 0))).ce = E.ce from hce]; exact Nat.le_refl _⟩
theorem write2_ok (hG : Goes2 Φ) (h : Mid2 E.ce noQ) (ht : E.txs[i]? = some t) (hs : t.state = 0) (hk : 0 ≤ key ∧ key < 10) (hv : -1099511627776 ≤ val ∧ val ≤ 1099511627776) (hq : Ranked E.T q)
    (hP1 : Φ (overE (loseE (wantE E i t key val E.T) i 11) i 3) (outQ E.T i))
    (hP2 : Φ ((wantE E i t key val (updT E.T key (E.T key ++ [(i : Int) + 1]))).setTx i { t with wk := key, wv := val, state := 1 }) noQ)
    (hP3 : ∀ T' E2, (T' = E.T ∨ T' = updT E.T key [(i : Int) + 1]) → putE (wantE E i t key val T') i = (0, E2) → Φ E2 noQ)
    (hP4 : ∀ T' why E2, (T' = E.T ∨ T' = updT E.T key [(i : Int) + 1]) → (why = 10 ∨ why = 13) → putE (wantE E i t key val T') i = (why, E2) → Φ (overE (loseE E2 i why) i 3) (outQ T' i)) :
    ∃ R, writeE 7 q E i key val = some R ∧ Mid2 R.2.ce noQ ∧ Φ R.2 noQ ∧ R.2.ce.live ≤ E.ce.live ∧
      ((R.1 = (false, 11)) ∨ (R.1 = (false, 0) ∧ R.2 = (wantE E i t key val (updT E.T key (E.T key ++ [(i : Int) + 1]))).setTx i { t with wk := key, wv := val, state := 1 }) ∨ (R.1 = (true, 0) ∧ ∃ T', putE (wantE E i t key val T') i = (0, R.2)) ∨ R.1 = (false, 10) ∨ R.1 = (false, 13)) := by
  have hl : liveB t.state = true := live_iff.2 (.inl hs)
  have hi : i < E.txs.length := (List.getElem?_eq_some_iff.1 ht).1
  have hlen : E.ce.cs.length = E.txs.length := by simp [Eng.ce]
  have h200 := h.reg.len
  have hW := h.want (k := key) (v := val) (cs_get ht) hs hk hv
  have hwa := h.loc.open_waits (cs_get ht) hs
  have hgd : Good (askP E.T q ((i : Int) + 1) key).2.2 := h.loc.good.ask hq ((i : Int) + 1) key (by omega)
  have key' : ∀ T', (T' = E.T ∨ T' = updT E.T key [(i : Int) + 1]) → Mid2 (wantE E i t key val T').ce noQ → holdsP T' key = (i : Int) + 1 →
      ∃ R, (writeR (endF 7) (wantE E i t key val T') i).map (fun R => ((decide (R.1 = 0), R.1), R.2)) = some R ∧ Mid2 R.2.ce noQ ∧ Φ R.2 noQ ∧ R.2.ce.live ≤ E.ce.live ∧ ((R.1 = (true, 0) ∧ putE (wantE E i t key val T') i = (0, R.2)) ∨ R.1 = (false, 10) ∨ R.1 = (false, 13)) := by
    intro T' hT' hM' hh
    have hg := want_get (key := key) (val := val) ht T'
    have hlv : (wantE E i t key val T').ce.live = E.ce.live := by rw [want_ce]; exact count_live (cs_get ht) hl hl
    rcases hp : putE (wantE E i t key val T') i with ⟨why, E2⟩
    have hcg := cs_get hg
    rcases ce_put hg hp with ⟨rfl, rfl, _, _⟩ | ⟨hy, _, he⟩
    · obtain ⟨E', e1, e2, e3, e4⟩ := lose2_ok (E := wantE E i t key val T') (why := 10) hG hM' hg hl (hP4 T' 10 _ hT' (.inl rfl) hp)
      refine ⟨((false, 10), E'), ?_, e2, e3, by show E'.ce.live ≤ _; omega, .inr (.inl rfl)⟩
      unfold writeR
      rw [hp]
      simp [e1]
    · have hM2 : Mid2 E2.ce noQ := by rw [he]; exact hM'.putOpen hcg hs hh
      have hl2 : E2.ce.live = E.ce.live := by
        rw [← hlv, he]
        exact count_live hcg hl hl
      rcases hy with rfl | rfl
      · refine ⟨((true, 0), E2), ?_, hM2, hP3 T' E2 hT' hp, by show E2.ce.live ≤ _; omega, .inl ⟨rfl, rfl⟩⟩
        unfold writeR
        rw [hp]
        simp
      · obtain ⟨u, hu, e⟩ : ∃ u, E2.txs[i]? = some u ∧ cor u = _ := cs_of (by rw [he]; exact set_same hcg)
        have hus : u.state = 0 := by have := congrArg Cor.state e; exact this.trans hs
        have hT2 : E2.T = T' := congrArg CE.T he
        obtain ⟨E', e1, e2, e3, e4⟩ := lose2_ok (E := E2) (why := 13) hG hM2 hu (by rw [hus]; rfl) (by rw [hT2]; exact hP4 T' 13 E2 hT' (.inr rfl) hp)
        refine ⟨((false, 13), E'), ?_, e2, e3, by show E'.ce.live ≤ _; omega, .inr (.inr rfl)⟩
        unfold writeR
        rw [hp]
        simp [e1]
  unfold writeE
  rw [ht]
  simp only
  rw [if_neg (by omega), if_neg (by omega)]
  rcases ask_cases (T := E.T) (q := q) (tx := (i : Int) + 1) hk (by omega) hwa with ⟨h1, e⟩ | ⟨h1, h2, e⟩ | ⟨h1, h2, e⟩ | ⟨h1, h2, e⟩
  · rw [e] at hgd ⊢
    simp only [ne_eq, not_true_eq_false, if_false, Bool.true_eq_false]
    have hM' : Mid2 (wantE E i t key val E.T).ce noQ := by rw [want_ce]; exact hW
    obtain ⟨R, r1, r2, r3, r4, r5⟩ := key' E.T (.inl rfl) hM' h1
    exact ⟨R, r1, r2, r3, r4, r5.elim (fun h => .inr (.inr (.inl ⟨h.1, _, h.2⟩))) (fun h => .inr (.inr (.inr h)))⟩
  · rw [e] at hgd ⊢
    simp only [ne_eq, not_true_eq_false, if_false, Bool.true_eq_false]
    have hM' : Mid2 (wantE E i t key val (updT E.T key [(i : Int) + 1])).ce noQ := by
      rw [want_ce]
      exact hW.take (set_same (cs_get ht)) hs h2 hgd
    obtain ⟨R, r1, r2, r3, r4, r5⟩ := key' _ (.inr rfl) hM' (by unfold holdsP; rw [updT_same]; rfl)
    exact ⟨R, r1, r2, r3, r4, r5.elim (fun h => .inr (.inr (.inl ⟨h.1, _, h.2⟩))) (fun h => .inr (.inr (.inr h)))⟩
  · rw [e] at hgd ⊢
    simp only [ne_eq, show ((11 : Int) = 0) = False from by simp, not_false_eq_true, if_true]
    have hM' : Mid2 (wantE E i t key val E.T).ce noQ := by rw [want_ce]; exact hW
    have hlv : (wantE E i t key val E.T).ce.live = E.ce.live := by rw [want_ce]; exact count_live (cs_get ht) hl hl
    obtain ⟨E', e1, e2, e3, e4⟩ := lose2_ok (E := wantE E i t key val E.T) (why := 11) hG hM' (want_get ht _) hl hP1
    refine ⟨((false, 11), E'), ?_, e2, e3, by show E'.ce.live ≤ _; omega, .inl rfl⟩
    rw [show endF 7 (loseE { (E.setTx i { t with wk := key, wv := val }) with T := E.T } i 11) i 3 = some E' from e1]
    rfl
  · rw [e] at hgd ⊢
    simp only [ne_eq, not_true_eq_false, if_false, if_true]
    refine ⟨_, rfl, ?_, hP2, ?_, .inr (.inl ⟨rfl, rfl⟩)⟩
    · show Mid2 ((wantE E i t key val (updT E.T key (E.T key ++ [(i : Int) + 1]))).setTx i { t with wk := key, wv := val, state := 1 }).ce noQ
      rw [ce_set, want_ce]
      have := hW.stand (set_same (cs_get ht)) hs h2 hgd
      simp only [List.set_set] at this ⊢
      exact this
    · show ((wantE E i t key val (updT E.T key (E.T key ++ [(i : Int) + 1]))).setTx i { t with wk := key, wv := val, state := 1 }).ce.live ≤ _
      rw [ce_set, want_ce]
      simp only [List.set_set]
      exact Nat.le_of_eq (count_live (cs_get ht) hl (by rfl))
theorem goes2_true : Goes2 (fun _ _ => True) := ⟨fun _ _ _ _ _ _ _ _ => trivial, fun _ _ _ _ _ _ _ _ _ _ => trivial⟩
end
end Go.Proofs.YtjefgmeejhakbaaGreatDoor

/- The document's engine: alive, strict, Of. -/
namespace Go.Proofs.YtjefgmeejhakbaaGreatDoor
open Go.RowKit
section
variable {w : World} {L : REnL} {E : REng} {ls : List Nat} {l : RTxL} {t : RTx}
theorem RTxAt.cell (h : RTxAt w ls l t) (o : Nat) : w.cell? ⟨l.b, o, none⟩ = (rtxCells l t)[o]? := cell_of_row w l.b o _ _ (0, 0) h.blk
set_option maxRecDepth 100000 in
set_option maxHeartbeats 400000 in
theorem ralive_any (h : RTxAt w ls l t) : Calls Tryz.prog 133 #[.pointer (some ⟨l.b, 0, none⟩)] w fun e w' => e = .returned (.bool (liveB t.state)) ∧ w' = w := by
  have c1 : w.cell? ⟨l.b, 1, none⟩ = some (.int .i64 t.state) := (h.cell 1).trans rfl
  unfold liveB
  clear h
  by_cases h0 : t.state = 0
  · rw [h0] at c1 ⊢
    go_enter Tryz.func133, Tryz.ntmps133
    go_wp2
    go_ret
    exact ⟨rfl, rfl⟩
  · have e0 : (t.state == 0) = false := by simpa using h0
    rw [e0]
    clear h0
    go_enter Tryz.func133, Tryz.ntmps133
    go_wp2
    go_ret
    exact ⟨rfl, rfl⟩
set_option maxRecDepth 100000 in
set_option maxHeartbeats 400000 in
theorem rstrict_any (h : RTxAt w ls l t) : Calls Tryz.prog 137 #[.pointer (some ⟨l.b, 0, none⟩)] w fun e w' => e = .returned (.bool (t.level == 2 && t.state != 3)) ∧ w' = w := by
  have c0 : w.cell? ⟨l.b, 0, none⟩ = some (.int .i64 t.level) := (h.cell 0).trans rfl
  have c1 : w.cell? ⟨l.b, 1, none⟩ = some (.int .i64 t.state) := (h.cell 1).trans rfl
  clear h
  by_cases h0 : t.level = 2
  · rw [h0] at c0 ⊢
    go_enter Tryz.func137, Tryz.ntmps137
    go_wp2
    go_ret
    exact ⟨rfl, rfl⟩
  · have e0 : (t.level == 2) = false := by simpa using h0
    rw [e0]
    clear h0
    go_enter Tryz.func137, Tryz.ntmps137
    go_wp2
    go_ret
    exact ⟨rfl, rfl⟩
theorem REnAt.c12 (h : REnAt w L E) : w.cell? ⟨L.R, 12, none⟩ = some L.av := by
  rw [cell_of_row w L.R 12 _ _ (0, 0) h.blk]
  have hl := h.vl
  unfold fcells REnL.tail
  simp only [List.getElem?_toArray, List.getElem?_cons_succ]
  rw [List.getElem?_append_right (by omega), hl]
  rfl
set_option maxRecDepth 100000 in
set_option maxHeartbeats 1000000 in
theorem rof_miss (h : REnAt w L E) {n : Int} (o : Bool) (hn : n < 1 ∨ (E.txs.length : Int) < n) :
    Calls Tryz.prog 90 #[.pointer (some ⟨L.R, 0, none⟩), .int .i64 n, .bool o] w fun e w' => e = .returned (.tuple #[.pointer none, .int .i64 7]) ∧ w' = w := by
  have c12 := h.c12
  obtain ⟨ad, cap, hav⟩ := row_form h.all
  rw [hav] at c12
  obtain ⟨m, hm⟩ : ∃ m, E.txs.length = m := ⟨_, rfl⟩
  rw [hm] at c12 hn
  have hin : inB n 1 (m : Int) = false := by simp only [inB, decide_eq_false_iff_not]; omega
  have HI := hid (in_any n 1 (m : Int) w)
  rw [hin] at HI
  clear h hav hm hin
  go_enter Tryz.func90, Tryz.ntmps90
  go_wp2_with (go_at_call 54; refine HI.out.mono ?_; rintro e w' ⟨rfl, rfl⟩)
  go_ret2
  exact ⟨rfl, rfl⟩
theorem REnAt.place (h : REnAt w L E) {i : Nat} (ht : E.txs[i]? = some t) : ∃ l g cap, L.txs[i]? = some l ∧ RTxAt w L.bs l t ∧ L.av = .slice (some ⟨g, 0, none⟩) E.txs.length cap ∧ w.cell? ⟨g, i, none⟩ = some (ptrV l.b) := by
  obtain ⟨l, hl, hT⟩ := h.get ht
  have hi := (List.getElem?_eq_some_iff.1 ht).1
  rcases row_slice h.all with ⟨_, e0⟩ | ⟨g, cap, e, _, hc⟩
  · omega
  · exact ⟨l, g, cap, hl, hT, e, hc i _ (by rw [List.getElem?_map, rbs_get hl]; rfl)⟩
set_option maxRecDepth 100000 in
set_option maxHeartbeats 1000000 in
theorem rof_ok (h : REnAt w L E) {i : Nat} (o : Bool) (ht : E.txs[i]? = some t) (hs : o = true → t.state = 0) (hle : E.txs.length ≤ 1000) :
    Calls Tryz.prog 90 #[.pointer (some ⟨L.R, 0, none⟩), .int .i64 ((i : Int) + 1), .bool o] w fun e w' => ∃ l, L.txs[i]? = some l ∧ e = .returned (.tuple #[ptrV l.b, .int .i64 0]) ∧ w' = w := by
  have c12 := h.c12
  obtain ⟨l, g, cap, hl, hT, hav, hc⟩ := h.place ht
  have c1 : w.cell? ⟨l.b, 1, none⟩ = some (.int .i64 t.state) := (hT.cell 1).trans rfl
  rw [hav] at c12
  have hi := (List.getElem?_eq_some_iff.1 ht).1
  obtain ⟨m, hm⟩ : ∃ m, E.txs.length = m := ⟨_, rfl⟩
  rw [hm] at c12 hi hle
  have hin : inB ((i : Int) + 1) 1 (m : Int) = true := by simp only [inB, decide_eq_true_eq]; omega
  have HI := hid (in_any ((i : Int) + 1) 1 (m : Int) w)
  rw [hin] at HI
  have HL := hid hl
  have gs : IntKind.i64.wrap ((i : Int) + 1 - 1) = (i : Int) := by rw [show (i : Int) + 1 - 1 = (i : Int) by omega]; exact IntWalk.i64_in _ (by omega)
  have g0 : (0 : Int) ≤ (i : Int) := by omega
  have g1 : (i : Int) < (m : Int) := by omega
  simp only [ptrV] at hc
  clear h hav hm hin hT hl ht
  cases o with
  | false =>
    clear hs c1
    go_enter Tryz.func90, Tryz.ntmps90
    go_wp2_with (go_at_call 54; refine HI.out.mono ?_; rintro e w' ⟨rfl, rfl⟩)
    go_ret2
    exact ⟨l, HL.out, rfl, rfl⟩
  | true =>
    rw [hs rfl] at c1
    clear hs
    go_enter Tryz.func90, Tryz.ntmps90
    go_wp2_with (go_at_call 54; refine HI.out.mono ?_; rintro e w' ⟨rfl, rfl⟩)
    go_ret2
    exact ⟨l, HL.out, rfl, rfl⟩
set_option maxRecDepth 100000 in
set_option maxHeartbeats 1000000 in
theorem rof_shut (h : REnAt w L E) {i : Nat} (ht : E.txs[i]? = some t) (hs : t.state ≠ 0) (hle : E.txs.length ≤ 1000) :
    Calls Tryz.prog 90 #[.pointer (some ⟨L.R, 0, none⟩), .int .i64 ((i : Int) + 1), .bool true] w fun e w' => e = .returned (.tuple #[.pointer none, .int .i64 6]) ∧ w' = w := by
  have c12 := h.c12
  obtain ⟨l, g, cap, hl, hT, hav, hc⟩ := h.place ht
  have c1 : w.cell? ⟨l.b, 1, none⟩ = some (.int .i64 t.state) := (hT.cell 1).trans rfl
  rw [hav] at c12
  have hi := (List.getElem?_eq_some_iff.1 ht).1
  obtain ⟨m, hm⟩ : ∃ m, E.txs.length = m := ⟨_, rfl⟩
  rw [hm] at c12 hi hle
  have hin : inB ((i : Int) + 1) 1 (m : Int) = true := by simp only [inB, decide_eq_true_eq]; omega
  have HI := hid (in_any ((i : Int) + 1) 1 (m : Int) w)
  rw [hin] at HI
  have gs : IntKind.i64.wrap ((i : Int) + 1 - 1) = (i : Int) := by rw [show (i : Int) + 1 - 1 = (i : Int) by omega]; exact IntWalk.i64_in _ (by omega)
  have g0 : (0 : Int) ≤ (i : Int) := by omega
  have g1 : (i : Int) < (m : Int) := by omega
  have gn : (t.state != 0) = true := by simpa using hs
  simp only [ptrV] at hc
  clear h hav hm hin hT hl ht hs
  go_enter Tryz.func90, Tryz.ntmps90
  go_wp2_with (go_at_call 54; refine HI.out.mono ?_; rintro e w' ⟨rfl, rfl⟩)
  go_ret2
  exact ⟨rfl, rfl⟩
end
end Go.Proofs.YtjefgmeejhakbaaGreatDoor
