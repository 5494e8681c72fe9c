/- EnStep EnStepB: put together for a claim. -/
import Derived.Test.YtjefgmeejhakbaaGreatDoorMgAO
/- Plain: what an engine's methods make of it, all that is asked of them being so. -/
namespace Go.Proofs.YtjefgmeejhakbaaGreatDoor

section
variable {a0 : Int} {K0 : Int → Option Int} {E E2 : Eng} {C : CE} {Q : Nat → Prop} {i j : Nat} {t : Tx} {why : Int}

theorem nodup_lt : ∀ (n : Nat) (l : List Nat), l.Nodup → (∀ x ∈ l, x < n) → l.length ≤ n
  | 0, [], _, _ => Nat.le_refl _
  | 0, x :: r, _, h => absurd (h x (List.mem_cons_self ..)) (by omega)
  | n + 1, l, hn, h => by
    have h1 := nodup_lt n (l.filter (fun x => x != n)) (hn.filter _) (fun x hx => by
      have h2 := List.mem_filter.1 hx
      have h3 := h x h2.1
      have h4 : x ≠ n := by simpa using h2.2
      omega)
    have h2 : l.length ≤ (l.filter (fun x => x != n)).length + 1 := by
      clear h1 h
      induction l with
      | nil => simp
      | cons x r ih =>
        have hn' := List.nodup_cons.1 hn
        have := ih hn'.2
        rw [List.filter_cons]
        by_cases e : x = n
        · subst e
          have : r.filter (fun y => y != x) = r := List.filter_eq_self.2 (fun y hy => by simp; rintro rfl; exact hn'.1 hy)
          simp [this]
        · rw [if_pos (by simpa using e)]
          simp only [List.length_cons]
          omega
    omega
theorem Mid.com_len (h : Mid a0 K0 C Q) : C.com.length ≤ 200 := by
  refine Nat.le_trans (nodup_lt C.cs.length _ h.com.comn (fun x hx => ?_)) h.reg.len
  obtain ⟨u, hu, _⟩ := (h.com.coms x).1 hx
  exact (List.getElem?_eq_some_iff.1 hu).1
theorem Mid.cw_len (h : Mid a0 K0 C Q) : C.cw.length ≤ 200 := Nat.le_trans (List.length_filter_le _ _) h.com_len
theorem Mid.last_le (h : Mid a0 K0 C Q) : 0 ≤ C.last ∧ C.last + 1 ≤ 1099511627776 := by
  have := h.com.lastc
  have := h.cw_len
  have := h.com.zero
  omega
theorem fullFrom_len (V : Nat → Int → Option Int) (a : Int) : ∀ (l : List Nat) (c : Int), (fullFrom V a c l).length ≤ l.length
  | [], _ => by simp [fullFrom]
  | i :: r, c => by
    have := fullFrom_len V a r (c + 1)
    rw [fullFrom]
    cases V i a <;> simp <;> omega
theorem Mid.full_len (h : Mid a0 K0 C Q) (a : Int) : (full a0 K0 C a).length ≤ 201 := by
  have h1 := fullFrom_len C.v a C.cw (a0 + 1)
  have h2 := h.cw_len
  unfold full
  rw [List.length_append]
  cases K0 a <;> simp <;> omega
theorem Mid.ks_of (h : Mid a0 K0 C Q) {l : List (Int × Int)} (hl : l ∈ C.ks) : ∃ (a d : Nat), a < 10 ∧ l = (full a0 K0 C a).drop d := by
  obtain ⟨a, ha, e⟩ := List.mem_iff_getElem.1 hl
  have h10 := h.com.ksl
  obtain ⟨d, _, h3, _⟩ := h.com.kss a (by omega)
  rw [List.getElem?_eq_getElem ha, e] at h3
  injection h3 with h3
  exact ⟨a, d, by omega, h3⟩
theorem Mid.fits (h : Mid a0 K0 E.ce Q) : Fits E := by
  refine ⟨fun l hl => ?_, fun l hl p hp => ?_⟩
  · obtain ⟨a, d, _, rfl⟩ := h.ks_of (C := E.ce) hl
    have := h.full_len (a : Int)
    rw [List.length_drop]
    omega
  · obtain ⟨a, d, _, rfl⟩ := h.ks_of (C := E.ce) hl
    have h1 := full_le h.com (List.mem_of_mem_drop hp)
    have := h.last_le
    have := h.com.zero
    unfold I64
    omega
theorem Mid.open_wr (h : Mid a0 K0 E.ce Q) (ht : E.txs[i]? = some t) (hl : liveB t.state = true) (a : Int) : E.wr a ≠ some ((i : Int) + 1) := fun e => by
  have h1 := h.com.wr_com (j := i) (c := a) e
  obtain ⟨u, hu, h2⟩ := (h.com.coms i).1 (List.mem_filter.1 h1).1
  rw [cs_get ht] at hu
  cases hu
  rcases live_iff.1 hl with e | e <;> simp [cor] at h2 <;> omega
theorem Mid.fine (h : Mid a0 K0 E.ce Q) (ht : E.txs[i]? = some t) : FineV t := fun k v hv => (h.reg.fair i _ (cs_get ht)).fin k v hv
theorem Mid.inst_ks (h : Mid a0 K0 E.ce Q) (i : Nat) : ∀ l ∈ (installE E i).ks, l.length ≤ 100000 := by
  have h1 := h.fits.len
  intro l hl
  unfold installE at hl
  split at hl
  · rename_i t ht
    split at hl
    · exact h1 l hl
    · have := instP_bound (E.last + 1) (writesP t.vals) E.ks 201 (fun l hl => by
        obtain ⟨a, d, _, rfl⟩ := h.ks_of (C := E.ce) hl
        have := h.full_len (a : Int)
        rw [List.length_drop]
        omega) l hl
      have := writesP_len t.vals
      omega
  · exact h1 l hl

/-- One begins. -/
theorem Mid.begin (h : Mid a0 K0 E.ce Q) {level : Int} (hlv : level = 0 ∨ level = 1 ∨ level = 2) (hl : E.txs.length < 200) (ho : E.ce.live < 6) : Mid a0 K0 ({ E with txs := E.txs ++ [newTx level E.last] } : Eng).ce Q := by
  have e : ({ E with txs := E.txs ++ [newTx level E.last] } : Eng).ce = { E.ce with cs := E.ce.cs ++ [cor (newTx level E.last)] } := by simp [Eng.ce]
  rw [e]
  refine ⟨h.loc.more rfl (fun _ => rfl), ⟨fun j u hu => ?_, ?_, by simp [Eng.ce]; omega⟩, h.com.more rfl (fun _ => rfl) rfl⟩
  · rw [List.getElem?_append] at hu
    split at hu
    · exact h.reg.fair j u hu
    · rw [List.getElem?_singleton] at hu
      split at hu
      · injection hu with hu
        rw [← hu]
        exact ⟨hlv, (by show (0 : Int) ≤ 0 ∧ (0 : Int) ≤ 3; omega), fun k hk => (hk rfl).elim, fun k v hk => (by cases hk), by simp [cor, newTx]⟩
      · cases hu
  · rw [List.countP_append]
    have h1 : [cor (newTx level E.last)].countP (fun t => liveB t.state) = 1 := rfl
    have h2 : E.ce.cs.countP (fun t => liveB t.state) = E.ce.live := rfl
    omega
theorem leastOf_le (E : Eng) : ∀ (js : List Nat) (m : Int), leastOf E js m ≤ m ∧ ∀ j ∈ js, ∀ t, E.txs[j]? = some t → t.level ≠ 0 → leastOf E js m ≤ t.start
  | [], m => ⟨Int.le_refl _, fun j hj => by cases hj⟩
  | j :: r, m => by
    have hstep : leastOf E (j :: r) m = leastOf E r (match E.txs[j]? with | some t => if t.level ≠ 0 then min m t.start else m | none => m) := rfl
    have h1 := leastOf_le E r (match E.txs[j]? with | some t => if t.level ≠ 0 then min m t.start else m | none => m)
    have h2 : (match E.txs[j]? with | some t => if t.level ≠ 0 then min m t.start else m | none => m) ≤ m := by
      split
      · split
        · exact Int.min_le_left _ _
        · exact Int.le_refl _
      · exact Int.le_refl _
    rw [hstep]
    refine ⟨Int.le_trans h1.1 h2, fun x hx t ht hlv => ?_⟩
    rcases List.mem_cons.1 hx with rfl | hx
    · refine Int.le_trans h1.1 ?_
      rw [ht]
      simp only [hlv, ne_eq, not_false_eq_true, if_true]
      exact Int.min_le_right _ _
    · exact h1.2 x hx t ht hlv
theorem mem_live {E : Eng} {i : Nat} {t : Tx} (ht : E.txs[i]? = some t) (hl : liveB t.state = true) : i ∈ liveOnes E := by
  unfold liveOnes thoseP
  have := (List.getElem?_eq_some_iff.1 ht).1
  refine List.mem_filter.2 ⟨List.mem_range.2 this, ?_⟩
  rw [ht]
  exact hl
theorem least_sees (E : Eng) {u : Int} (hu : E.ce.Sees u) : leastE E ≤ u := by
  unfold leastE
  have h1 := leastOf_le E (liveOnes E) E.last
  rcases hu with hu | ⟨j, x, hx, hxl, hxv, hxs⟩
  · exact Int.le_trans h1.1 hu
  · obtain ⟨t, ht, rfl⟩ := cs_of hx
    exact Int.le_trans (h1.2 j (mem_live ht hxl) t ht hxv) hxs
theorem Mid.sweep (h : Mid a0 K0 E.ce Q) : Mid a0 K0 (sweepE E).ce Q := ⟨h.loc, h.reg, h.com.sweep (fun _ hv => least_sees E hv)⟩
/-- How many live. -/
theorem live_len (E : Eng) : (liveOnes E).length = E.ce.live := by
  have key : ∀ (m : Nat) (l : List Tx), l.length = m → ((List.range l.length).filter (fun i => match l[i]? with | some t => liveB t.state | none => false)).length = l.countP (fun t => liveB t.state) := by
    intro m
    induction m with
    | zero => intro l h; rw [List.eq_nil_of_length_eq_zero h]; rfl
    | succ m ih =>
      intro l0 h0
      obtain ⟨l, x, rfl⟩ : ∃ l x, l0 = l ++ [x] := ⟨l0.dropLast, l0.getLast (fun e => by rw [e] at h0; simp at h0), (List.dropLast_concat_getLast _).symm⟩
      have hm : l.length = m := by simpa using h0
      rw [List.length_append, List.length_singleton, List.range_succ, List.filter_append, List.length_append, List.countP_append]
      have h1 : (List.range l.length).filter (fun i => match (l ++ [x])[i]? with | some t => liveB t.state | none => false) = (List.range l.length).filter (fun i => match l[i]? with | some t => liveB t.state | none => false) := by
        refine List.filter_congr (fun i hi => ?_)
        rw [List.getElem?_append_left (List.mem_range.1 hi)]
      rw [h1, ih l hm]
      congr 1
      rw [List.filter_cons]
      simp only [List.getElem?_append_right (Nat.le_refl _), Nat.sub_self, List.getElem?_cons_zero, List.filter_nil]
      rw [List.countP_cons]
      cases liveB x.state <;> simp
  unfold liveOnes thoseP CE.live Eng.ce
  rw [List.countP_map]
  exact key _ E.txs rfl

/-- One is over, by a commit. -/
theorem Mid.commitE (h : Mid a0 K0 E.ce Q) (hq : ¬ Q i) (ht : E.txs[i]? = some t) (hl : liveB t.state = true) : Mid a0 K0 (overE { (installE E i) with com := E.com ++ [i] } i 2).ce (fun j => Q j ∨ outQ E.T i j) ∧ (overE { (installE E i) with com := E.com ++ [i] } i 2).ce.live + 1 = E.ce.live := by
  have hf := h.reg.fair i _ (cs_get ht)
  have hlast := h.last_le
  have hrg : Reg (E.ce.cs.set i { cor t with state := 2 }) := h.reg.set (cs_get ht) hl ⟨hf.lev, (by show (0 : Int) ≤ 2 ∧ (2 : Int) ≤ 3; omega), hf.vk, hf.fin, hf.wan⟩
  have hlo := h.loc.over (i := i) (t' := { cor t with state := 2 }) hq (by rfl)
  have hct := count_over (t' := { cor t with state := 2 }) (cs_get ht) hl (by rfl)
  by_cases hw : writesP t.vals = []
  · have hI : installE E i = E := by unfold installE; rw [ht]; simp [hw]
    rw [hI, ce_over (E := { E with com := E.com ++ [i] }) ht]
    exact ⟨⟨hlo, hrg, h.com.commit0 (cs_get ht) hl (by rfl) (by rfl) (by rfl) (by rfl) hw hf.vk _⟩, hct⟩
  · have hI : installE E i = { E with last := E.last + 1, ks := instP (E.last + 1) (writesP t.vals) E.ks, wr := updT E.wr (E.last + 1) (some ((i : Int) + 1)), nw := E.nw + 1 } := by
      unfold installE
      rw [ht]
      simp only
      rw [if_neg (fun hc => hc.elim hw (fun hc => by have : E.ce.last = E.last := rfl; omega))]
    rw [hI, ce_over (E := { E with last := E.last + 1, ks := instP (E.last + 1) (writesP t.vals) E.ks, wr := updT E.wr (E.last + 1) (some ((i : Int) + 1)), nw := E.nw + 1, com := E.com ++ [i] }) ht]
    exact ⟨⟨hlo, hrg, h.com.commitW h.loc.hold (cs_get ht) hl (by rfl) (by rfl) (by rfl) (by rfl) hw h.reg.fair _⟩, hct⟩
end

/-- What each of those that go on keeps. -/
structure Goes (a0 : Int) (K0 : Int → Option Int) (Φ : Eng → (Nat → Prop) → Prop) : Prop where
  ok : ∀ (E : Eng) (Q : Nat → Prop) (j : Nat) (E2 : Eng), Mid a0 K0 E.ce Q → Φ E Q → Q j → putE (wakeE E j) j = (0, E2) → Φ E2 (fun m => Q m ∧ m ≠ j)
  bad : ∀ (E : Eng) (Q : Nat → Prop) (j : Nat) (why : Int) (E2 : Eng), Mid a0 K0 E.ce Q → Φ E Q → Q j → putE (wakeE E j) j = (why, E2) → (why = 10 ∨ why = 13) → Φ (overE (loseE E2 j why) j 3) (fun m => (Q m ∧ m ≠ j) ∨ outQ E.T j m)

/-- Between two calls. -/
abbrev noQ : Nat → Prop := fun _ => False
theorem noQ_or (T : Tab) (i : Nat) : (fun j => noQ j ∨ outQ T i j) = outQ T i := by funext j; simp [noQ]

section
variable {a0 : Int} {K0 : Int → Option Int} {Φ : Eng → (Nat → Prop) → Prop} {E : Eng} {i : Nat} {t : Tx} {why : Int}
theorem lose_ok (hG : Goes a0 K0 Φ) (h : Mid a0 K0 E.ce noQ) (ht : E.txs[i]? = some t) (hl : liveB t.state = true) (hP : Φ (overE (loseE E i why) i 3) (outQ E.T i)) :
    ∃ E', endF 7 (loseE E i why) i 3 = some E' ∧ Mid a0 K0 E'.ce noQ ∧ Φ E' noQ ∧ E'.ce.live < E.ce.live := by
  obtain ⟨hM, hc⟩ := h.goneE (why := why) ht hl (fun h => h)
  rw [noQ_or] at hM
  obtain ⟨E', e1, e2, e3, e4⟩ := end_ok' hG.ok hG.bad (lose_T E i why) h.loc hM hP
  exact ⟨E', e1, e2, e3, by omega⟩
theorem inst_T (E : Eng) (i : Nat) : (installE E i).T = E.T := by
  unfold installE
  split
  · split <;> rfl
  · rfl
/-- One that is not between is committed. -/
theorem commit_ok (hG : Goes a0 K0 Φ) (h : Mid a0 K0 E.ce noQ) (ht : E.txs[i]? = some t) (hl : liveB t.state = true) (hb : ¬ Between t.ahead t.behind) (hP : Φ (overE { (installE E i) with com := E.com ++ [i] } i 2) (outQ E.T i)) :
    ∃ E', commitE 7 E i = some (0, E') ∧ Mid a0 K0 E'.ce noQ ∧ Φ E' noQ ∧ E'.ce.live < E.ce.live := by
  obtain ⟨hM, hc⟩ := h.commitE (i := i) (fun h => h) ht hl
  rw [noQ_or] at hM
  obtain ⟨E', e1, e2, e3, e4⟩ := end_ok' (E := { (installE E i) with com := E.com ++ [i] }) hG.ok hG.bad (inst_T E i) h.loc hM hP
  refine ⟨E', ?_, e2, e3, by omega⟩
  unfold commitE
  rw [ht]
  simp only
  rw [if_neg (by rw [betB_false hb]; simp), e1]
  rfl
/-- .. or gone, if it is. -/
theorem commit_bad (hG : Goes a0 K0 Φ) (h : Mid a0 K0 E.ce noQ) (ht : E.txs[i]? = some t) (hl : liveB t.state = true) (hb : Between t.ahead t.behind) (hP : Φ (overE (loseE E i 13) i 3) (outQ E.T i)) :
    ∃ E', commitE 7 E i = some (13, E') ∧ Mid a0 K0 E'.ce noQ ∧ Φ E' noQ ∧ E'.ce.live < E.ce.live := by
  obtain ⟨E', e1, e2⟩ := lose_ok hG h ht hl hP
  refine ⟨E', ?_, e2⟩
  unfold commitE
  rw [ht]
  simp only
  rw [if_pos (betB_true.2 hb), e1]
  rfl
end

end Go.Proofs.YtjefgmeejhakbaaGreatDoor

/- Plain: what Read and Write make of an engine. -/
namespace Go.Proofs.YtjefgmeejhakbaaGreatDoor

section
variable {a0 : Int} {K0 : Int → Option Int} {C : CE} {Q : Nat → Prop} {i : Nat} {t : Cor} {k v : Int}
theorem Com.tab (h : Com a0 K0 C) (T' : Tab) : Com a0 K0 { C with T := T' } := ⟨h.comn, h.coms, h.start, h.zero, h.lastc, h.nwc, h.wrc, h.ksl, h.kss, h.fuw⟩
theorem Mid.want (h : Mid a0 K0 C Q) (ht : C.cs[i]? = some t) (hs : t.state = 0) (hk : 0 ≤ k ∧ k < 10) (hv : -1099511627776 ≤ v ∧ v ≤ 1099511627776) : Mid a0 K0 { C with cs := C.cs.set i { t with wk := k, wv := v } } Q := by
  have hf := h.reg.fair i t ht
  have hl : liveB t.state = true := live_iff.2 (.inl hs)
  exact ⟨h.loc.put (k0 := 0) ht hs hs (fun k hk => .inl hk), h.reg.set ht hl ⟨hf.lev, hf.sta, hf.vk, hf.fin, hk, hv⟩, h.com.set ht hl (by show t.state ≠ 2; omega) (by rfl) (by rfl) C.T (fun a c m hlv _ hva hc hvm hlt => h.com.none_since ht hl a c m hlv hva hc hvm hlt)⟩
theorem Mid.take (h : Mid a0 K0 C Q) (ht : C.cs[i]? = some t) (hs : t.state = 0) (hk : C.T k = []) (hg : Good (updT C.T k [(i : Int) + 1])) : Mid a0 K0 { C with T := updT C.T k [(i : Int) + 1] } Q :=
  ⟨h.loc.take ht (live_iff.2 (.inl hs)) hk hg, h.reg, h.com.tab _⟩
theorem Mid.stand (h : Mid a0 K0 C Q) (ht : C.cs[i]? = some t) (hs : t.state = 0) (hk : C.T t.wk ≠ []) (hg : Good (updT C.T t.wk (C.T t.wk ++ [(i : Int) + 1]))) : Mid a0 K0 { C with cs := C.cs.set i { t with state := 1 }, T := updT C.T t.wk (C.T t.wk ++ [(i : Int) + 1]) } Q := by
  have hf := h.reg.fair i t ht
  have hl : liveB t.state = true := live_iff.2 (.inl hs)
  exact ⟨h.loc.stand ht hs hk hg rfl rfl rfl, h.reg.set ht hl ⟨hf.lev, (by show (0 : Int) ≤ 1 ∧ (1 : Int) ≤ 3; omega), hf.vk, hf.fin, hf.wan⟩, h.com.set ht hl (by show (1 : Int) ≠ 2; omega) (by rfl) (by rfl) _ (fun a c m hlv _ hva hc hvm hlt => h.com.none_since ht hl a c m hlv hva hc hvm hlt)⟩
theorem Mid.putOpen (h : Mid a0 K0 C Q) (ht : C.cs[i]? = some t) (hs : t.state = 0) (hh : holdsP C.T t.wk = (i : Int) + 1) (hn : ¬ (t.level ≠ 0 ∧ ((C.ks[t.wk.toNat]?.getD []).drop (lat (C.ks[t.wk.toNat]?.getD []) t.start + 1).toNat).map (·.1) ≠ [])) :
    Mid a0 K0 { C with cs := C.cs.set i { t with vals := updT t.vals t.wk (some t.wv) } } Q := by
  have hf := h.reg.fair i t ht
  have hl : liveB t.state = true := live_iff.2 (.inl hs)
  refine ⟨h.loc.put (k0 := t.wk) ht hs hs (fun k hk => ?_), h.reg.set ht hl ⟨hf.lev, hf.sta, fun k hk => ?_, fun k v hk => ?_, hf.wan⟩, h.com.put ht hl (t' := { t with vals := updT t.vals t.wk (some t.wv) }) hl (by rfl) (by rfl) hf.wan.1 (by rfl) C.T hn⟩
  · by_cases e : k = t.wk
    · exact .inr ⟨e, hh⟩
    · left
      simpa [updT_other _ _ e] using hk
  · by_cases e : k = t.wk
    · rw [e]; exact hf.wan.1
    · exact hf.vk k (by simpa [updT_other _ _ e] using hk)
  · by_cases e : k = t.wk
    · subst e
      simp only [updT_same] at hk
      injection hk with hk
      rw [← hk]
      exact hf.wan.2
    · exact hf.fin k v (by simpa [updT_other _ _ e] using hk)
theorem Loc.open_waits {T : Tab} {cs : List Cor} (h : Loc T cs Q) (ht : cs[i]? = some t) (hs : t.state = 0) : waitsP T ((i : Int) + 1) = -1 :=
  (waits_none_iff h.good.tidy).2 (fun k hk => by
    obtain ⟨u, hu, h1, _⟩ := h.tail k i hk
    rw [ht] at hu
    cases hu
    omega)
end

/-- What Ask answers one that may ask. -/
theorem ask_cases {T : Tab} {q : Int → Nat} {tx key : Int} (hk : 0 ≤ key ∧ key < 10) (hx : 1 ≤ tx) (hw : waitsP T tx = -1) :
    (holdsP T key = tx ∧ askP T q tx key = (true, 0, T)) ∨ (holdsP T key ≠ tx ∧ T key = [] ∧ askP T q tx key = (true, 0, updT T key [tx])) ∨
    (holdsP T key ≠ tx ∧ T key ≠ [] ∧ askP T q tx key = (false, 11, T)) ∨ (holdsP T key ≠ tx ∧ T key ≠ [] ∧ askP T q tx key = (false, 0, updT T key (T key ++ [tx]))) := by
  unfold askP
  rw [if_neg (by rw [Classical.not_not]; omega), if_neg (by omega)]
  by_cases h1 : holdsP T key = tx
  · rw [if_pos h1]; exact .inl ⟨h1, rfl⟩
  · rw [if_neg h1]
    by_cases h2 : T key = []
    · rw [if_pos h2]; exact .inr (.inl ⟨h1, h2, rfl⟩)
    · rw [if_neg h2]
      by_cases h3 : reachP T tx (q (holdsP T key) + 1) (holdsP T key) = true
      · rw [if_pos h3]; exact .inr (.inr (.inl ⟨h1, h2, rfl⟩))
      · rw [if_neg h3]; exact .inr (.inr (.inr ⟨h1, h2, rfl⟩))

/-- The engine when one wants to write. -/
def wantE (E : Eng) (i : Nat) (t : Tx) (key val : Int) (T' : Tab) : Eng := { (E.setTx i { t with wk := key, wv := val }) with T := T' }
def noteE (E : Eng) (i : Nat) (t : Tx) (key : Int) : Eng := E.setTx i (noteReadP t key ((E.wr (verP E key (seesP E t)).1.1).getD 0))

section
variable {a0 : Int} {K0 : Int → Option Int} {Φ : Eng → (Nat → Prop) → Prop} {E : Eng} {i : Nat} {t : Tx} {key val : Int} {q : Int → Nat}
theorem ce_note (ht : E.txs[i]? = some t) : (noteE E i t key).ce = E.ce := by
  unfold noteE
  exact ce_set_id ht (by rfl)
/-- What one that is open reads of the store. -/
theorem read_ok (hG : Goes a0 K0 Φ) (h : Mid a0 K0 E.ce noQ) (ht : E.txs[i]? = some t) (hs : t.state = 0) (hk : 0 ≤ key ∧ key < 10) (hv : t.vals key = none)
    (hP1 : t.level ≠ 2 → Φ (noteE E i t key) noQ) (hP2 : ∀ E2, t.level = 2 → aowP (noteE E i t key) i key = (true, E2) → Φ E2 noQ)
    (hP3 : ∀ E2, t.level = 2 → aowP (noteE E i t key) i key = (false, E2) → Φ (overE (loseE E2 i 13) i 3) (outQ E.T i)) :
    ∃ R, readE 7 E i key = some R ∧ Mid a0 K0 R.2.ce noQ ∧ Φ R.2 noQ ∧ ((R.1 = ((verP E key (seesP E t)).1.2, (verP E key (seesP E t)).2) ∧ R.2.ce = E.ce) ∨ R.1 = (0, 13)) ∧ R.2.ce.live ≤ E.ce.live := by
  have hkb : keyB key = true := by simp [keyB]; omega
  have hce := ce_note (key := key) ht
  unfold readE
  rw [ht]
  simp only
  rw [hv]
  simp only
  rw [if_neg (by rw [hkb]; simp)]
  by_cases h2 : t.level = 2
  · rw [if_pos h2]
    rcases ha : aowP (noteE E i t key) i key with ⟨b, E2⟩
    have hc2 : E2.ce = E.ce := by
      have := ce_aow (noteE E i t key) i key
      rw [ha] at this
      exact this.trans hce
    rw [show aowP (E.setTx i (noteReadP t key ((E.wr (verP E key (seesP E t)).1.1).getD 0))) i key = (b, E2) from ha]
    cases b with
    | true => exact ⟨_, rfl, by rw [hc2]; exact h, hP2 E2 h2 ha, .inl ⟨rfl, hc2⟩, by rw [hc2]; exact Nat.le_refl _⟩
    | false =>
      obtain ⟨u, hu, e⟩ : ∃ u, E2.txs[i]? = some u ∧ cor u = cor t := cs_of (by rw [hc2]; exact cs_get ht)
      have hus : u.state = 0 := by have := congrArg Cor.state e; exact this.trans hs
      have hT2 : E2.T = E.T := congrArg CE.T hc2
      obtain ⟨E', e1, e2, e3, e4⟩ := lose_ok (E := E2) (why := 13) hG (by rw [hc2]; exact h) hu (by rw [hus]; rfl) (by rw [hT2]; exact hP3 E2 h2 ha)
      simp only [e1, Option.map_some]
      exact ⟨_, rfl, e2, e3, .inr rfl, by rw [hc2] at e4; show E'.ce.live ≤ _; omega⟩
  · rw [if_neg h2]
    exact ⟨_, rfl, by rw [show (E.setTx i (noteReadP t key ((E.wr (verP E key (seesP E t)).1.1).getD 0))).ce = E.ce from hce]; exact h, hP1 h2, .inl ⟨rfl, hce⟩, by rw [show (E.setTx i (noteReadP t key ((E.wr (verP E key (seesP E t)).1.1).getD 0))).ce = E.ce from hce]; exact Nat.le_refl _⟩

theorem want_get (ht : E.txs[i]? = some t) (T' : Tab) : (wantE E i t key val T').txs[i]? = some { t with wk := key, wv := val } := setTx_get ht
theorem want_ce (E : Eng) (i : Nat) (t : Tx) (key val : Int) (T' : Tab) : (wantE E i t key val T').ce = { E.ce with cs := E.ce.cs.set i { cor t with wk := key, wv := val }, T := T' } := by
  unfold wantE
  simp [Eng.setTx, Eng.ce, List.map_set, cor]
/-- What becomes of one that is open when it writes. -/
theorem write_ok (hG : Goes a0 K0 Φ) (h : Mid a0 K0 E.ce noQ) (ht : E.txs[i]? = some t) (hs : t.state = 0) (hk : 0 ≤ key ∧ key < 10) (hv : -1099511627776 ≤ val ∧ val ≤ 1099511627776) (hq : Ranked E.T q)
    (hP1 : Φ (overE (loseE (wantE E i t key val E.T) i 11) i 3) (outQ E.T i))
    (hP2 : Φ ((wantE E i t key val (updT E.T key (E.T key ++ [(i : Int) + 1]))).setTx i { t with wk := key, wv := val, state := 1 }) noQ)
    (hP3 : ∀ T' E2, (T' = E.T ∨ T' = updT E.T key [(i : Int) + 1]) → putE (wantE E i t key val T') i = (0, E2) → Φ E2 noQ)
    (hP4 : ∀ T' why E2, (T' = E.T ∨ T' = updT E.T key [(i : Int) + 1]) → (why = 10 ∨ why = 13) → putE (wantE E i t key val T') i = (why, E2) → Φ (overE (loseE E2 i why) i 3) (outQ T' i)) :
    ∃ R, writeE 7 q E i key val = some R ∧ Mid a0 K0 R.2.ce noQ ∧ Φ R.2 noQ ∧ R.2.ce.live ≤ E.ce.live ∧
      ((R.1 = (false, 11)) ∨ (R.1 = (false, 0) ∧ R.2 = (wantE E i t key val (updT E.T key (E.T key ++ [(i : Int) + 1]))).setTx i { t with wk := key, wv := val, state := 1 }) ∨ (R.1 = (true, 0) ∧ ∃ T', putE (wantE E i t key val T') i = (0, R.2)) ∨ R.1 = (false, 10) ∨ R.1 = (false, 13)) := by
  have hl : liveB t.state = true := live_iff.2 (.inl hs)
  have hi : i < E.txs.length := (List.getElem?_eq_some_iff.1 ht).1
  have hlen : E.ce.cs.length = E.txs.length := by simp [Eng.ce]
  have h200 := h.reg.len
  have hW := h.want (k := key) (v := val) (cs_get ht) hs hk hv
  have hwa := h.loc.open_waits (cs_get ht) hs
  have hgd : Good (askP E.T q ((i : Int) + 1) key).2.2 := h.loc.good.ask hq ((i : Int) + 1) key (by omega)
  have key' : ∀ T', (T' = E.T ∨ T' = updT E.T key [(i : Int) + 1]) → Mid a0 K0 (wantE E i t key val T').ce noQ → holdsP T' key = (i : Int) + 1 →
      ∃ R, (writeR (endF 7) (wantE E i t key val T') i).map (fun R => ((decide (R.1 = 0), R.1), R.2)) = some R ∧ Mid a0 K0 R.2.ce noQ ∧ Φ R.2 noQ ∧ R.2.ce.live ≤ E.ce.live ∧ ((R.1 = (true, 0) ∧ putE (wantE E i t key val T') i = (0, R.2)) ∨ R.1 = (false, 10) ∨ R.1 = (false, 13)) := by
    intro T' hT' hM' hh
    have hg := want_get (key := key) (val := val) ht T'
    have hlv : (wantE E i t key val T').ce.live = E.ce.live := by rw [want_ce]; exact count_live (cs_get ht) hl hl
    rcases hp : putE (wantE E i t key val T') i with ⟨why, E2⟩
    have hcg := cs_get hg
    rcases ce_put hg hp with ⟨rfl, rfl, _, _⟩ | ⟨hy, hn, he⟩
    · obtain ⟨E', e1, e2, e3, e4⟩ := lose_ok (E := wantE E i t key val T') (why := 10) hG hM' hg hl (hP4 T' 10 _ hT' (.inl rfl) hp)
      refine ⟨((false, 10), E'), ?_, e2, e3, by show E'.ce.live ≤ _; omega, .inr (.inl rfl)⟩
      unfold writeR
      rw [hp]
      simp [e1]
    · have hM2 : Mid a0 K0 E2.ce noQ := by rw [he]; exact hM'.putOpen hcg hs hh hn
      have hl2 : E2.ce.live = E.ce.live := by
        rw [← hlv, he]
        exact count_live hcg hl hl
      rcases hy with rfl | rfl
      · refine ⟨((true, 0), E2), ?_, hM2, hP3 T' E2 hT' hp, by show E2.ce.live ≤ _; omega, .inl ⟨rfl, rfl⟩⟩
        unfold writeR
        rw [hp]
        simp
      · obtain ⟨u, hu, e⟩ : ∃ u, E2.txs[i]? = some u ∧ cor u = _ := cs_of (by rw [he]; exact set_same hcg)
        have hus : u.state = 0 := by have := congrArg Cor.state e; exact this.trans hs
        have hT2 : E2.T = T' := congrArg CE.T he
        obtain ⟨E', e1, e2, e3, e4⟩ := lose_ok (E := E2) (why := 13) hG hM2 hu (by rw [hus]; rfl) (by rw [hT2]; exact hP4 T' 13 E2 hT' (.inr rfl) hp)
        refine ⟨((false, 13), E'), ?_, e2, e3, by show E'.ce.live ≤ _; omega, .inr (.inr rfl)⟩
        unfold writeR
        rw [hp]
        simp [e1]
  unfold writeE
  rw [ht]
  simp only
  rw [if_neg (by omega), if_neg (by omega)]
  rcases ask_cases (T := E.T) (q := q) (tx := (i : Int) + 1) hk (by omega) hwa with ⟨h1, e⟩ | ⟨h1, h2, e⟩ | ⟨h1, h2, e⟩ | ⟨h1, h2, e⟩
  · rw [e] at hgd ⊢
    simp only [ne_eq, not_true_eq_false, if_false, Bool.true_eq_false]
    have hM' : Mid a0 K0 (wantE E i t key val E.T).ce noQ := by rw [want_ce]; exact hW
    obtain ⟨R, r1, r2, r3, r4, r5⟩ := key' E.T (.inl rfl) hM' h1
    exact ⟨R, r1, r2, r3, r4, r5.elim (fun h => .inr (.inr (.inl ⟨h.1, _, h.2⟩))) (fun h => .inr (.inr (.inr h)))⟩
  · rw [e] at hgd ⊢
    simp only [ne_eq, not_true_eq_false, if_false, Bool.true_eq_false]
    have hM' : Mid a0 K0 (wantE E i t key val (updT E.T key [(i : Int) + 1])).ce noQ := by
      rw [want_ce]
      exact hW.take (set_same (cs_get ht)) hs h2 hgd
    obtain ⟨R, r1, r2, r3, r4, r5⟩ := key' _ (.inr rfl) hM' (by unfold holdsP; rw [updT_same]; rfl)
    exact ⟨R, r1, r2, r3, r4, r5.elim (fun h => .inr (.inr (.inl ⟨h.1, _, h.2⟩))) (fun h => .inr (.inr (.inr h)))⟩
  · rw [e] at hgd ⊢
    simp only [ne_eq, show ((11 : Int) = 0) = False from by simp, not_false_eq_true, if_true]
    have hM' : Mid a0 K0 (wantE E i t key val E.T).ce noQ := by rw [want_ce]; exact hW
    have hlv : (wantE E i t key val E.T).ce.live = E.ce.live := by rw [want_ce]; exact count_live (cs_get ht) hl hl
    obtain ⟨E', e1, e2, e3, e4⟩ := lose_ok (E := wantE E i t key val E.T) (why := 11) hG hM' (want_get ht _) hl hP1
    refine ⟨((false, 11), E'), ?_, e2, e3, by show E'.ce.live ≤ _; omega, .inl rfl⟩
    rw [show endF 7 (loseE { (E.setTx i { t with wk := key, wv := val }) with T := E.T } i 11) i 3 = some E' from e1]
    rfl
  · rw [e] at hgd ⊢
    simp only [ne_eq, not_true_eq_false, if_false, if_true]
    refine ⟨_, rfl, ?_, hP2, ?_, .inr (.inl ⟨rfl, rfl⟩)⟩
    · show Mid a0 K0 ((wantE E i t key val (updT E.T key (E.T key ++ [(i : Int) + 1]))).setTx i { t with wk := key, wv := val, state := 1 }).ce noQ
      rw [ce_set, want_ce]
      have := hW.stand (set_same (cs_get ht)) hs h2 hgd
      simp only [List.set_set] at this ⊢
      exact this
    · show ((wantE E i t key val (updT E.T key (E.T key ++ [(i : Int) + 1]))).setTx i { t with wk := key, wv := val, state := 1 }).ce.live ≤ _
      rw [ce_set, want_ce]
      simp only [List.set_set]
      exact Nat.le_of_eq (count_live (cs_get ht) hl (by rfl))
end

/-- Nothing is asked. -/
theorem goes_true (a0 : Int) (K0 : Int → Option Int) : Goes a0 K0 (fun _ _ => True) := ⟨fun _ _ _ _ _ _ _ _ => trivial, fun _ _ _ _ _ _ _ _ _ _ => trivial⟩
theorem goes_and {a0 : Int} {K0 : Int → Option Int} {Φ Ψ : Eng → (Nat → Prop) → Prop} (h : Goes a0 K0 Φ) (k : Goes a0 K0 Ψ) : Goes a0 K0 (fun E Q => Φ E Q ∧ Ψ E Q) :=
  ⟨fun E Q j E2 hM hP hq hp => ⟨h.ok E Q j E2 hM hP.1 hq hp, k.ok E Q j E2 hM hP.2 hq hp⟩, fun E Q j why E2 hM hP hq hp hy => ⟨h.bad E Q j why E2 hM hP.1 hq hp hy, k.bad E Q j why E2 hM hP.2 hq hp hy⟩⟩

end Go.Proofs.YtjefgmeejhakbaaGreatDoor
