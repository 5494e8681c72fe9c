/- EnStep EnStepB EnMovesP KtMem KtPlain KtBegin KtLater KtTells OrKeys OrRows: put together for a claim. -/
import Derived.Test.YtjefgmeejhakbaaGreatDoorMgAR
import Derived.Test.YtjefgmeejhakbaaGreatDoorMgAL
import Derived.Test.YtjefgmeejhakbaaGreatDoorMgAQ
import Derived.Test.YtjefgmeejhakbaaGreatDoorOrShelf
import Derived.Test.YtjefgmeejhakbaaGreatDoorMgAA
/- Plain: what an engine's methods make of it, all that is asked of them being so. -/
namespace Go.Proofs.YtjefgmeejhakbaaGreatDoor

section
variable {a0 : Int} {K0 : Int → Option Int} {E E2 : Eng} {C : CE} {Q : Nat → Prop} {i j : Nat} {t : Tx} {why : Int}

theorem nodup_lt : ∀ (n : Nat) (l : List Nat), l.Nodup → (∀ x ∈ l, x < n) → l.length ≤ n
  | 0, [], _, _ => Nat.le_refl _
  | 0, x :: r, _, h => absurd (h x (List.mem_cons_self ..)) (by omega)
  | n + 1, l, hn, h => by
    have h1 := nodup_lt n (l.filter (fun x => x != n)) (hn.filter _) (fun x hx => by
      have h2 := List.mem_filter.1 hx
      have h3 := h x h2.1
      have h4 : x ≠ n := by simpa using h2.2
      omega)
    have h2 : l.length ≤ (l.filter (fun x => x != n)).length + 1 := by
      clear h1 h
      induction l with
      | nil => simp
      | cons x r ih =>
        have hn' := List.nodup_cons.1 hn
        have := ih hn'.2
        rw [List.filter_cons]
        by_cases e : x = n
        · subst e
          have : r.filter (fun y => y != x) = r := List.filter_eq_self.2 (fun y hy => by simp; rintro rfl; exact hn'.1 hy)
          simp [this]
        · rw [if_pos (by simpa using e)]
          simp only [List.length_cons]
          omega
    omega
theorem Mid.com_len (h : Mid a0 K0 C Q) : C.com.length ≤ 200 := by
  refine Nat.le_trans (nodup_lt C.cs.length _ h.com.comn (fun x hx => ?_)) h.reg.len
  obtain ⟨u, hu, _⟩ := (h.com.coms x).1 hx
  exact (List.getElem?_eq_some_iff.1 hu).1
theorem Mid.cw_len (h : Mid a0 K0 C Q) : C.cw.length ≤ 200 := Nat.le_trans (List.length_filter_le _ _) h.com_len
theorem Mid.last_le (h : Mid a0 K0 C Q) : 0 ≤ C.last ∧ C.last + 1 ≤ 1099511627776 := by
  have := h.com.lastc
  have := h.cw_len
  have := h.com.zero
  omega
theorem fullFrom_len (V : Nat → Int → Option Int) (a : Int) : ∀ (l : List Nat) (c : Int), (fullFrom V a c l).length ≤ l.length
  | [], _ => by simp [fullFrom]
  | i :: r, c => by
    have := fullFrom_len V a r (c + 1)
    rw [fullFrom]
    cases V i a <;> simp <;> omega
theorem Mid.full_len (h : Mid a0 K0 C Q) (a : Int) : (full a0 K0 C a).length ≤ 201 := by
  have h1 := fullFrom_len C.v a C.cw (a0 + 1)
  have h2 := h.cw_len
  unfold full
  rw [List.length_append]
  cases K0 a <;> simp <;> omega
theorem Mid.ks_of (h : Mid a0 K0 C Q) {l : List (Int × Int)} (hl : l ∈ C.ks) : ∃ (a d : Nat), a < 10 ∧ l = (full a0 K0 C a).drop d := by
  obtain ⟨a, ha, e⟩ := List.mem_iff_getElem.1 hl
  have h10 := h.com.ksl
  obtain ⟨d, _, h3, _⟩ := h.com.kss a (by omega)
  rw [List.getElem?_eq_getElem ha, e] at h3
  injection h3 with h3
  exact ⟨a, d, by omega, h3⟩
theorem Mid.fits (h : Mid a0 K0 E.ce Q) : Fits E := by
  refine ⟨fun l hl => ?_, fun l hl p hp => ?_⟩
  · obtain ⟨a, d, _, rfl⟩ := h.ks_of (C := E.ce) hl
    have := h.full_len (a : Int)
    rw [List.length_drop]
    omega
  · obtain ⟨a, d, _, rfl⟩ := h.ks_of (C := E.ce) hl
    have h1 := full_le h.com (List.mem_of_mem_drop hp)
    have := h.last_le
    have := h.com.zero
    unfold I64
    omega
theorem Mid.open_wr (h : Mid a0 K0 E.ce Q) (ht : E.txs[i]? = some t) (hl : liveB t.state = true) (a : Int) : E.wr a ≠ some ((i : Int) + 1) := fun e => by
  have h1 := h.com.wr_com (j := i) (c := a) e
  obtain ⟨u, hu, h2⟩ := (h.com.coms i).1 (List.mem_filter.1 h1).1
  rw [cs_get ht] at hu
  cases hu
  rcases live_iff.1 hl with e | e <;> simp [cor] at h2 <;> omega
theorem Mid.fine (h : Mid a0 K0 E.ce Q) (ht : E.txs[i]? = some t) : FineV t := fun k v hv => (h.reg.fair i _ (cs_get ht)).fin k v hv
theorem Mid.inst_ks (h : Mid a0 K0 E.ce Q) (i : Nat) : ∀ l ∈ (installE E i).ks, l.length ≤ 100000 := by
  have h1 := h.fits.len
  intro l hl
  unfold installE at hl
  split at hl
  · rename_i t ht
    split at hl
    · exact h1 l hl
    · have := instP_bound (E.last + 1) (writesP t.vals) E.ks 201 (fun l hl => by
        obtain ⟨a, d, _, rfl⟩ := h.ks_of (C := E.ce) hl
        have := h.full_len (a : Int)
        rw [List.length_drop]
        omega) l hl
      have := writesP_len t.vals
      omega
  · exact h1 l hl

theorem Mid.begin (h : Mid a0 K0 E.ce Q) {level : Int} (hlv : level = 0 ∨ level = 1 ∨ level = 2) (hl : E.txs.length < 200) (ho : E.ce.live < 6) : Mid a0 K0 ({ E with txs := E.txs ++ [newTx level E.last] } : Eng).ce Q := by
  have e : ({ E with txs := E.txs ++ [newTx level E.last] } : Eng).ce = { E.ce with cs := E.ce.cs ++ [cor (newTx level E.last)] } := by simp [Eng.ce]
  rw [e]
  refine ⟨h.loc.more rfl (fun _ => rfl), ⟨fun j u hu => ?_, ?_, by simp [Eng.ce]; omega⟩, h.com.more rfl (fun _ => rfl) rfl⟩
  · rw [List.getElem?_append] at hu
    split at hu
    · exact h.reg.fair j u hu
    · rw [List.getElem?_singleton] at hu
      split at hu
      · injection hu with hu
        rw [← hu]
        exact ⟨hlv, (by show (0 : Int) ≤ 0 ∧ (0 : Int) ≤ 3; omega), fun k hk => (hk rfl).elim, fun k v hk => (by cases hk), by simp [cor, newTx]⟩
      · cases hu
  · rw [List.countP_append]
    have h1 : [cor (newTx level E.last)].countP (fun t => liveB t.state) = 1 := rfl
    have h2 : E.ce.cs.countP (fun t => liveB t.state) = E.ce.live := rfl
    omega
theorem leastOf_le (E : Eng) : ∀ (js : List Nat) (m : Int), leastOf E js m ≤ m ∧ ∀ j ∈ js, ∀ t, E.txs[j]? = some t → t.level ≠ 0 → leastOf E js m ≤ t.start
  | [], m => ⟨Int.le_refl _, fun j hj => by cases hj⟩
  | j :: r, m => by
    have hstep : leastOf E (j :: r) m = leastOf E r (match E.txs[j]? with | some t => if t.level ≠ 0 then min m t.start else m | none => m) := rfl
    have h1 := leastOf_le E r (match E.txs[j]? with | some t => if t.level ≠ 0 then min m t.start else m | none => m)
    have h2 : (match E.txs[j]? with | some t => if t.level ≠ 0 then min m t.start else m | none => m) ≤ m := by
      split
      · split
        · exact Int.min_le_left _ _
        · exact Int.le_refl _
      · exact Int.le_refl _
    rw [hstep]
    refine ⟨Int.le_trans h1.1 h2, fun x hx t ht hlv => ?_⟩
    rcases List.mem_cons.1 hx with rfl | hx
    · refine Int.le_trans h1.1 ?_
      rw [ht]
      simp only [hlv, ne_eq, not_false_eq_true, if_true]
      exact Int.min_le_right _ _
    · exact h1.2 x hx t ht hlv
theorem mem_live {E : Eng} {i : Nat} {t : Tx} (ht : E.txs[i]? = some t) (hl : liveB t.state = true) : i ∈ liveOnes E := by
  unfold liveOnes thoseP
  have := (List.getElem?_eq_some_iff.1 ht).1
  refine List.mem_filter.2 ⟨List.mem_range.2 this, ?_⟩
  rw [ht]
  exact hl
theorem least_sees (E : Eng) {u : Int} (hu : E.ce.Sees u) : leastE E ≤ u := by
  unfold leastE
  have h1 := leastOf_le E (liveOnes E) E.last
  rcases hu with hu | ⟨j, x, hx, hxl, hxv, hxs⟩
  · exact Int.le_trans h1.1 hu
  · obtain ⟨t, ht, rfl⟩ := cs_of hx
    exact Int.le_trans (h1.2 j (mem_live ht hxl) t ht hxv) hxs
theorem Mid.sweep (h : Mid a0 K0 E.ce Q) : Mid a0 K0 (sweepE E).ce Q := ⟨h.loc, h.reg, h.com.sweep (fun _ hv => least_sees E hv)⟩
theorem live_len (E : Eng) : (liveOnes E).length = E.ce.live := by
  have key : ∀ (m : Nat) (l : List Tx), l.length = m → ((List.range l.length).filter (fun i => match l[i]? with | some t => liveB t.state | none => false)).length = l.countP (fun t => liveB t.state) := by
    intro m
    induction m with
    | zero => intro l h; rw [List.eq_nil_of_length_eq_zero h]; rfl
    | succ m ih =>
      intro l0 h0
      obtain ⟨l, x, rfl⟩ : ∃ l x, l0 = l ++ [x] := ⟨l0.dropLast, l0.getLast (fun e => by rw [e] at h0; simp at h0), (List.dropLast_concat_getLast _).symm⟩
      have hm : l.length = m := by simpa using h0
      rw [List.length_append, List.length_singleton, List.range_succ, List.filter_append, List.length_append, List.countP_append]
      have h1 : (List.range l.length).filter (fun i => match (l ++ [x])[i]? with | some t => liveB t.state | none => false) = (List.range l.length).filter (fun i => match l[i]? with | some t => liveB t.state | none => false) := by
        refine List.filter_congr (fun i hi => ?_)
        rw [List.getElem?_append_left (List.mem_range.1 hi)]
      rw [h1, ih l hm]
      congr 1
      rw [List.filter_cons]
      simp only [List.getElem?_append_right (Nat.le_refl _), Nat.sub_self, List.getElem?_cons_zero, List.filter_nil]
      rw [List.countP_cons]
      cases liveB x.state <;> simp
  unfold liveOnes thoseP CE.live Eng.ce
  rw [List.countP_map]
  exact key _ E.txs rfl

theorem Mid.commitE (h : Mid a0 K0 E.ce Q) (hq : ¬ Q i) (ht : E.txs[i]? = some t) (hl : liveB t.state = true) : Mid a0 K0 (overE { (installE E i) with com := E.com ++ [i] } i 2).ce (fun j => Q j ∨ outQ E.T i j) ∧ (overE { (installE E i) with com := E.com ++ [i] } i 2).ce.live + 1 = E.ce.live := by
  have hf := h.reg.fair i _ (cs_get ht)
  have hlast := h.last_le
  have hrg : Reg (E.ce.cs.set i { cor t with state := 2 }) := h.reg.set (cs_get ht) hl ⟨hf.lev, (by show (0 : Int) ≤ 2 ∧ (2 : Int) ≤ 3; omega), hf.vk, hf.fin, hf.wan⟩
  have hlo := h.loc.over (i := i) (t' := { cor t with state := 2 }) hq (by rfl)
  have hct := count_over (t' := { cor t with state := 2 }) (cs_get ht) hl (by rfl)
  by_cases hw : writesP t.vals = []
  · have hI : installE E i = E := by unfold installE; rw [ht]; simp [hw]
    rw [hI, ce_over (E := { E with com := E.com ++ [i] }) ht]
    exact ⟨⟨hlo, hrg, h.com.commit0 (cs_get ht) hl (by rfl) (by rfl) (by rfl) (by rfl) hw hf.vk _⟩, hct⟩
  · have hI : installE E i = { E with last := E.last + 1, ks := instP (E.last + 1) (writesP t.vals) E.ks, wr := updT E.wr (E.last + 1) (some ((i : Int) + 1)), nw := E.nw + 1 } := by
      unfold installE
      rw [ht]
      simp only
      rw [if_neg (fun hc => hc.elim hw (fun hc => by have : E.ce.last = E.last := rfl; omega))]
    rw [hI, ce_over (E := { E with last := E.last + 1, ks := instP (E.last + 1) (writesP t.vals) E.ks, wr := updT E.wr (E.last + 1) (some ((i : Int) + 1)), nw := E.nw + 1, com := E.com ++ [i] }) ht]
    exact ⟨⟨hlo, hrg, h.com.commitW h.loc.hold (cs_get ht) hl (by rfl) (by rfl) (by rfl) (by rfl) hw h.reg.fair _⟩, hct⟩
end

structure Goes (a0 : Int) (K0 : Int → Option Int) (Φ : Eng → (Nat → Prop) → Prop) : Prop where
  ok : ∀ (E : Eng) (Q : Nat → Prop) (j : Nat) (E2 : Eng), Mid a0 K0 E.ce Q → Φ E Q → Q j → putE (wakeE E j) j = (0, E2) → Φ E2 (fun m => Q m ∧ m ≠ j)
  bad : ∀ (E : Eng) (Q : Nat → Prop) (j : Nat) (why : Int) (E2 : Eng), Mid a0 K0 E.ce Q → Φ E Q → Q j → putE (wakeE E j) j = (why, E2) → (why = 10 ∨ why = 13) → Φ (overE (loseE E2 j why) j 3) (fun m => (Q m ∧ m ≠ j) ∨ outQ E.T j m)

abbrev noQ : Nat → Prop := fun _ => False
theorem noQ_or (T : Tab) (i : Nat) : (fun j => noQ j ∨ outQ T i j) = outQ T i := by funext j; simp [noQ]

section
variable {a0 : Int} {K0 : Int → Option Int} {Φ : Eng → (Nat → Prop) → Prop} {E : Eng} {i : Nat} {t : Tx} {why : Int}
theorem lose_ok (hG : Goes a0 K0 Φ) (h : Mid a0 K0 E.ce noQ) (ht : E.txs[i]? = some t) (hl : liveB t.state = true) (hP : Φ (overE (loseE E i why) i 3) (outQ E.T i)) :
    ∃ E', endF 7 (loseE E i why) i 3 = some E' ∧ Mid a0 K0 E'.ce noQ ∧ Φ E' noQ ∧ E'.ce.live < E.ce.live := by
  obtain ⟨hM, hc⟩ := h.goneE (why := why) ht hl (fun h => h)
  rw [noQ_or] at hM
  obtain ⟨E', e1, e2, e3, e4⟩ := end_ok' hG.ok hG.bad (lose_T E i why) h.loc hM hP
  exact ⟨E', e1, e2, e3, by omega⟩
theorem inst_T (E : Eng) (i : Nat) : (installE E i).T = E.T := by
  unfold installE
  split
  · split <;> rfl
  · rfl
theorem commit_ok (hG : Goes a0 K0 Φ) (h : Mid a0 K0 E.ce noQ) (ht : E.txs[i]? = some t) (hl : liveB t.state = true) (hb : ¬ Between t.ahead t.behind) (hP : Φ (overE { (installE E i) with com := E.com ++ [i] } i 2) (outQ E.T i)) :
    ∃ E', commitE 7 E i = some (0, E') ∧ Mid a0 K0 E'.ce noQ ∧ Φ E' noQ ∧ E'.ce.live < E.ce.live := by
  obtain ⟨hM, hc⟩ := h.commitE (i := i) (fun h => h) ht hl
  rw [noQ_or] at hM
  obtain ⟨E', e1, e2, e3, e4⟩ := end_ok' (E := { (installE E i) with com := E.com ++ [i] }) hG.ok hG.bad (inst_T E i) h.loc hM hP
  refine ⟨E', ?_, e2, e3, by omega⟩
  unfold commitE
  rw [ht]
  simp only
  rw [if_neg (by rw [betB_false hb]; simp), e1]
  rfl
theorem commit_bad (hG : Goes a0 K0 Φ) (h : Mid a0 K0 E.ce noQ) (ht : E.txs[i]? = some t) (hl : liveB t.state = true) (hb : Between t.ahead t.behind) (hP : Φ (overE (loseE E i 13) i 3) (outQ E.T i)) :
    ∃ E', commitE 7 E i = some (13, E') ∧ Mid a0 K0 E'.ce noQ ∧ Φ E' noQ ∧ E'.ce.live < E.ce.live := by
  obtain ⟨E', e1, e2⟩ := lose_ok hG h ht hl hP
  refine ⟨E', ?_, e2⟩
  unfold commitE
  rw [ht]
  simp only
  rw [if_pos (betB_true.2 hb), e1]
  rfl
end

end Go.Proofs.YtjefgmeejhakbaaGreatDoor

/- Plain: what Read and Write make of an engine. -/
namespace Go.Proofs.YtjefgmeejhakbaaGreatDoor

section
variable {a0 : Int} {K0 : Int → Option Int} {C : CE} {Q : Nat → Prop} {i : Nat} {t : Cor} {k v : Int}
theorem Com.tab (h : Com a0 K0 C) (T' : Tab) : Com a0 K0 { C with T := T' } := ⟨h.comn, h.coms, h.start, h.zero, h.lastc, h.nwc, h.wrc, h.ksl, h.kss, h.fuw⟩
theorem Mid.want (h : Mid a0 K0 C Q) (ht : C.cs[i]? = some t) (hs : t.state = 0) (hk : 0 ≤ k ∧ k < 10) (hv : -1099511627776 ≤ v ∧ v ≤ 1099511627776) : Mid a0 K0 { C with cs := C.cs.set i { t with wk := k, wv := v } } Q := by
  have hf := h.reg.fair i t ht
  have hl : liveB t.state = true := live_iff.2 (.inl hs)
  exact ⟨h.loc.put (k0 := 0) ht hs hs (fun k hk => .inl hk), h.reg.set ht hl ⟨hf.lev, hf.sta, hf.vk, hf.fin, hk, hv⟩, h.com.set ht hl (by show t.state ≠ 2; omega) (by rfl) (by rfl) C.T (fun a c m hlv _ hva hc hvm hlt => h.com.none_since ht hl a c m hlv hva hc hvm hlt)⟩
theorem Mid.take (h : Mid a0 K0 C Q) (ht : C.cs[i]? = some t) (hs : t.state = 0) (hk : C.T k = []) (hg : Good (updT C.T k [(i : Int) + 1])) : Mid a0 K0 { C with T := updT C.T k [(i : Int) + 1] } Q :=
  ⟨h.loc.take ht (live_iff.2 (.inl hs)) hk hg, h.reg, h.com.tab _⟩
theorem Mid.stand (h : Mid a0 K0 C Q) (ht : C.cs[i]? = some t) (hs : t.state = 0) (hk : C.T t.wk ≠ []) (hg : Good (updT C.T t.wk (C.T t.wk ++ [(i : Int) + 1]))) : Mid a0 K0 { C with cs := C.cs.set i { t with state := 1 }, T := updT C.T t.wk (C.T t.wk ++ [(i : Int) + 1]) } Q := by
  have hf := h.reg.fair i t ht
  have hl : liveB t.state = true := live_iff.2 (.inl hs)
  exact ⟨h.loc.stand ht hs hk hg rfl rfl rfl, h.reg.set ht hl ⟨hf.lev, (by show (0 : Int) ≤ 1 ∧ (1 : Int) ≤ 3; omega), hf.vk, hf.fin, hf.wan⟩, h.com.set ht hl (by show (1 : Int) ≠ 2; omega) (by rfl) (by rfl) _ (fun a c m hlv _ hva hc hvm hlt => h.com.none_since ht hl a c m hlv hva hc hvm hlt)⟩
theorem Mid.putOpen (h : Mid a0 K0 C Q) (ht : C.cs[i]? = some t) (hs : t.state = 0) (hh : holdsP C.T t.wk = (i : Int) + 1) (hn : ¬ (t.level ≠ 0 ∧ ((C.ks[t.wk.toNat]?.getD []).drop (lat (C.ks[t.wk.toNat]?.getD []) t.start + 1).toNat).map (·.1) ≠ [])) :
    Mid a0 K0 { C with cs := C.cs.set i { t with vals := updT t.vals t.wk (some t.wv) } } Q := by
  have hf := h.reg.fair i t ht
  have hl : liveB t.state = true := live_iff.2 (.inl hs)
  refine ⟨h.loc.put (k0 := t.wk) ht hs hs (fun k hk => ?_), h.reg.set ht hl ⟨hf.lev, hf.sta, fun k hk => ?_, fun k v hk => ?_, hf.wan⟩, h.com.put ht hl (t' := { t with vals := updT t.vals t.wk (some t.wv) }) hl (by rfl) (by rfl) hf.wan.1 (by rfl) C.T hn⟩
  · by_cases e : k = t.wk
    · exact .inr ⟨e, hh⟩
    · left
      simpa [updT_other _ _ e] using hk
  · by_cases e : k = t.wk
    · rw [e]; exact hf.wan.1
    · exact hf.vk k (by simpa [updT_other _ _ e] using hk)
  · by_cases e : k = t.wk
    · subst e
      simp only [updT_same] at hk
      injection hk with hk
      rw [← hk]
      exact hf.wan.2
    · exact hf.fin k v (by simpa [updT_other _ _ e] using hk)
theorem Loc.open_waits {T : Tab} {cs : List Cor} (h : Loc T cs Q) (ht : cs[i]? = some t) (hs : t.state = 0) : waitsP T ((i : Int) + 1) = -1 :=
  (waits_none_iff h.good.tidy).2 (fun k hk => by
    obtain ⟨u, hu, h1, _⟩ := h.tail k i hk
    rw [ht] at hu
    cases hu
    omega)
end

theorem ask_cases {T : Tab} {q : Int → Nat} {tx key : Int} (hk : 0 ≤ key ∧ key < 10) (hx : 1 ≤ tx) (hw : waitsP T tx = -1) :
    (holdsP T key = tx ∧ askP T q tx key = (true, 0, T)) ∨ (holdsP T key ≠ tx ∧ T key = [] ∧ askP T q tx key = (true, 0, updT T key [tx])) ∨
    (holdsP T key ≠ tx ∧ T key ≠ [] ∧ askP T q tx key = (false, 11, T)) ∨ (holdsP T key ≠ tx ∧ T key ≠ [] ∧ askP T q tx key = (false, 0, updT T key (T key ++ [tx]))) := by
  unfold askP
  rw [if_neg (by rw [Classical.not_not]; omega), if_neg (by omega)]
  by_cases h1 : holdsP T key = tx
  · rw [if_pos h1]; exact .inl ⟨h1, rfl⟩
  · rw [if_neg h1]
    by_cases h2 : T key = []
    · rw [if_pos h2]; exact .inr (.inl ⟨h1, h2, rfl⟩)
    · rw [if_neg h2]
      by_cases h3 : reachP T tx (q (holdsP T key) + 1) (holdsP T key) = true
      · rw [if_pos h3]; exact .inr (.inr (.inl ⟨h1, h2, rfl⟩))
      · rw [if_neg h3]; exact .inr (.inr (.inr ⟨h1, h2, rfl⟩))

def wantE (E : Eng) (i : Nat) (t : Tx) (key val : Int) (T' : Tab) : Eng := { (E.setTx i { t with wk := key, wv := val }) with T := T' }
def noteE (E : Eng) (i : Nat) (t : Tx) (key : Int) : Eng := E.setTx i (noteReadP t key ((E.wr (verP E key (seesP E t)).1.1).getD 0))

section
variable {a0 : Int} {K0 : Int → Option Int} {Φ : Eng → (Nat → Prop) → Prop} {E : Eng} {i : Nat} {t : Tx} {key val : Int} {q : Int → Nat}
theorem ce_note (ht : E.txs[i]? = some t) : (noteE E i t key).ce = E.ce := by
  unfold noteE
  exact ce_set_id ht (by rfl)
theorem read_ok (hG : Goes a0 K0 Φ) (h : Mid a0 K0 E.ce noQ) (ht : E.txs[i]? = some t) (hs : t.state = 0) (hk : 0 ≤ key ∧ key < 10) (hv : t.vals key = none)
    (hP1 : t.level ≠ 2 → Φ (noteE E i t key) noQ) (hP2 : ∀ E2, t.level = 2 → aowP (noteE E i t key) i key = (true, E2) → Φ E2 noQ)
    (hP3 : ∀ E2, t.level = 2 → aowP (noteE E i t key) i key = (false, E2) → Φ (overE (loseE E2 i 13) i 3) (outQ E.T i)) :
    ∃ R, readE 7 E i key = some R ∧ Mid a0 K0 R.2.ce noQ ∧ Φ R.2 noQ ∧ ((R.1 = ((verP E key (seesP E t)).1.2, (verP E key (seesP E t)).2) ∧ R.2.ce = E.ce) ∨ R.1 = (0, 13)) ∧ R.2.ce.live ≤ E.ce.live := by
  have hkb : keyB key = true := by simp [keyB]; omega
  have hce := ce_note (key := key) ht
  unfold readE
  rw [ht]
  simp only
  rw [hv]
  simp only
  rw [if_neg (by rw [hkb]; simp)]
  by_cases h2 : t.level = 2
  · rw [if_pos h2]
    rcases ha : aowP (noteE E i t key) i key with ⟨b, E2⟩
    have hc2 : E2.ce = E.ce := by
      have := ce_aow (noteE E i t key) i key
      rw [ha] at this
      exact this.trans hce
    rw [show aowP (E.setTx i (noteReadP t key ((E.wr (verP E key (seesP E t)).1.1).getD 0))) i key = (b, E2) from ha]
    cases b with
    | true => exact ⟨_, rfl, by rw [hc2]; exact h, hP2 E2 h2 ha, .inl ⟨rfl, hc2⟩, by rw [hc2]; exact Nat.le_refl _⟩
    | false =>
      obtain ⟨u, hu, e⟩ : ∃ u, E2.txs[i]? = some u ∧ cor u = cor t := cs_of (by rw [hc2]; exact cs_get ht)
      have hus : u.state = 0 := by have := congrArg Cor.state e; exact this.trans hs
      have hT2 : E2.T = E.T := congrArg CE.T hc2
      obtain ⟨E', e1, e2, e3, e4⟩ := lose_ok (E := E2) (why := 13) hG (by rw [hc2]; exact h) hu (by rw [hus]; rfl) (by rw [hT2]; exact hP3 E2 h2 ha)
      simp only [e1, Option.map_some]
      exact ⟨_, rfl, e2, e3, .inr rfl, by rw [hc2] at e4; show E'.ce.live ≤ _; omega⟩
  · rw [if_neg h2]
    exact ⟨_, rfl, by rw [show (E.setTx i (noteReadP t key ((E.wr (verP E key (seesP E t)).1.1).getD 0))).ce = E.ce from hce]; exact h, hP1 h2, .inl ⟨rfl, hce⟩, by rw [show (E.setTx i (noteReadP t key ((E.wr (verP E key (seesP E t)).1.1).getD 0))).ce = E.ce from hce]; exact Nat.le_refl _⟩

theorem want_get (ht : E.txs[i]? = some t) (T' : Tab) : (wantE E i t key val T').txs[i]? = some { t with wk := key, wv := val } := setTx_get ht
theorem want_ce (E : Eng) (i : Nat) (t : Tx) (key val : Int) (T' : Tab) : (wantE E i t key val T').ce = { E.ce with cs := E.ce.cs.set i { cor t with wk := key, wv := val }, T := T' } := by
  unfold wantE
  simp [Eng.setTx, Eng.ce, List.map_set, cor]
theorem write_ok (hG : Goes a0 K0 Φ) (h : Mid a0 K0 E.ce noQ) (ht : E.txs[i]? = some t) (hs : t.state = 0) (hk : 0 ≤ key ∧ key < 10) (hv : -1099511627776 ≤ val ∧ val ≤ 1099511627776) (hq : Ranked E.T q)
    (hP1 : Φ (overE (loseE (wantE E i t key val E.T) i 11) i 3) (outQ E.T i))
    (hP2 : Φ ((wantE E i t key val (updT E.T key (E.T key ++ [(i : Int) + 1]))).setTx i { t with wk := key, wv := val, state := 1 }) noQ)
    (hP3 : ∀ T' E2, (T' = E.T ∨ T' = updT E.T key [(i : Int) + 1]) → putE (wantE E i t key val T') i = (0, E2) → Φ E2 noQ)
    (hP4 : ∀ T' why E2, (T' = E.T ∨ T' = updT E.T key [(i : Int) + 1]) → (why = 10 ∨ why = 13) → putE (wantE E i t key val T') i = (why, E2) → Φ (overE (loseE E2 i why) i 3) (outQ T' i)) :
    ∃ R, writeE 7 q E i key val = some R ∧ Mid a0 K0 R.2.ce noQ ∧ Φ R.2 noQ ∧ R.2.ce.live ≤ E.ce.live ∧
      ((R.1 = (false, 11)) ∨ (R.1 = (false, 0) ∧ R.2 = (wantE E i t key val (updT E.T key (E.T key ++ [(i : Int) + 1]))).setTx i { t with wk := key, wv := val, state := 1 }) ∨ (R.1 = (true, 0) ∧ ∃ T', putE (wantE E i t key val T') i = (0, R.2)) ∨ R.1 = (false, 10) ∨ R.1 = (false, 13)) := by
  have hl : liveB t.state = true := live_iff.2 (.inl hs)
  have hi : i < E.txs.length := (List.getElem?_eq_some_iff.1 ht).1
  have hlen : E.ce.cs.length = E.txs.length := by simp [Eng.ce]
  have h200 := h.reg.len
  have hW := h.want (k := key) (v := val) (cs_get ht) hs hk hv
  have hwa := h.loc.open_waits (cs_get ht) hs
  have hgd : Good (askP E.T q ((i : Int) + 1) key).2.2 := h.loc.good.ask hq ((i : Int) + 1) key (by omega)
  have key' : ∀ T', (T' = E.T ∨ T' = updT E.T key [(i : Int) + 1]) → Mid a0 K0 (wantE E i t key val T').ce noQ → holdsP T' key = (i : Int) + 1 →
      ∃ R, (writeR (endF 7) (wantE E i t key val T') i).map (fun R => ((decide (R.1 = 0), R.1), R.2)) = some R ∧ Mid a0 K0 R.2.ce noQ ∧ Φ R.2 noQ ∧ R.2.ce.live ≤ E.ce.live ∧ ((R.1 = (true, 0) ∧ putE (wantE E i t key val T') i = (0, R.2)) ∨ R.1 = (false, 10) ∨ R.1 = (false, 13)) := by
    intro T' hT' hM' hh
    have hg := want_get (key := key) (val := val) ht T'
    have hlv : (wantE E i t key val T').ce.live = E.ce.live := by rw [want_ce]; exact count_live (cs_get ht) hl hl
    rcases hp : putE (wantE E i t key val T') i with ⟨why, E2⟩
    have hcg := cs_get hg
    rcases ce_put hg hp with ⟨rfl, rfl, _, _⟩ | ⟨hy, hn, he⟩
    · obtain ⟨E', e1, e2, e3, e4⟩ := lose_ok (E := wantE E i t key val T') (why := 10) hG hM' hg hl (hP4 T' 10 _ hT' (.inl rfl) hp)
      refine ⟨((false, 10), E'), ?_, e2, e3, by show E'.ce.live ≤ _; omega, .inr (.inl rfl)⟩
      unfold writeR
      rw [hp]
      simp [e1]
    · have hM2 : Mid a0 K0 E2.ce noQ := by rw [he]; exact hM'.putOpen hcg hs hh hn
      have hl2 : E2.ce.live = E.ce.live := by
        rw [← hlv, he]
        exact count_live hcg hl hl
      rcases hy with rfl | rfl
      · refine ⟨((true, 0), E2), ?_, hM2, hP3 T' E2 hT' hp, by show E2.ce.live ≤ _; omega, .inl ⟨rfl, rfl⟩⟩
        unfold writeR
        rw [hp]
        simp
      · obtain ⟨u, hu, e⟩ : ∃ u, E2.txs[i]? = some u ∧ cor u = _ := cs_of (by rw [he]; exact set_same hcg)
        have hus : u.state = 0 := by have := congrArg Cor.state e; exact this.trans hs
        have hT2 : E2.T = T' := congrArg CE.T he
        obtain ⟨E', e1, e2, e3, e4⟩ := lose_ok (E := E2) (why := 13) hG hM2 hu (by rw [hus]; rfl) (by rw [hT2]; exact hP4 T' 13 E2 hT' (.inr rfl) hp)
        refine ⟨((false, 13), E'), ?_, e2, e3, by show E'.ce.live ≤ _; omega, .inr (.inr rfl)⟩
        unfold writeR
        rw [hp]
        simp [e1]
  unfold writeE
  rw [ht]
  simp only
  rw [if_neg (by omega), if_neg (by omega)]
  rcases ask_cases (T := E.T) (q := q) (tx := (i : Int) + 1) hk (by omega) hwa with ⟨h1, e⟩ | ⟨h1, h2, e⟩ | ⟨h1, h2, e⟩ | ⟨h1, h2, e⟩
  · rw [e] at hgd ⊢
    simp only [ne_eq, not_true_eq_false, if_false, Bool.true_eq_false]
    have hM' : Mid a0 K0 (wantE E i t key val E.T).ce noQ := by rw [want_ce]; exact hW
    obtain ⟨R, r1, r2, r3, r4, r5⟩ := key' E.T (.inl rfl) hM' h1
    exact ⟨R, r1, r2, r3, r4, r5.elim (fun h => .inr (.inr (.inl ⟨h.1, _, h.2⟩))) (fun h => .inr (.inr (.inr h)))⟩
  · rw [e] at hgd ⊢
    simp only [ne_eq, not_true_eq_false, if_false, Bool.true_eq_false]
    have hM' : Mid a0 K0 (wantE E i t key val (updT E.T key [(i : Int) + 1])).ce noQ := by
      rw [want_ce]
      exact hW.take (set_same (cs_get ht)) hs h2 hgd
    obtain ⟨R, r1, r2, r3, r4, r5⟩ := key' _ (.inr rfl) hM' (by unfold holdsP; rw [updT_same]; rfl)
    exact ⟨R, r1, r2, r3, r4, r5.elim (fun h => .inr (.inr (.inl ⟨h.1, _, h.2⟩))) (fun h => .inr (.inr (.inr h)))⟩
  · rw [e] at hgd ⊢
    simp only [ne_eq, show ((11 : Int) = 0) = False from by simp, not_false_eq_true, if_true]
    have hM' : Mid a0 K0 (wantE E i t key val E.T).ce noQ := by rw [want_ce]; exact hW
    have hlv : (wantE E i t key val E.T).ce.live = E.ce.live := by rw [want_ce]; exact count_live (cs_get ht) hl hl
    obtain ⟨E', e1, e2, e3, e4⟩ := lose_ok (E := wantE E i t key val E.T) (why := 11) hG hM' (want_get ht _) hl hP1
    refine ⟨((false, 11), E'), ?_, e2, e3, by show E'.ce.live ≤ _; omega, .inl rfl⟩
    rw [show endF 7 (loseE { (E.setTx i { t with wk := key, wv := val }) with T := E.T } i 11) i 3 = some E' from e1]
    rfl
  · rw [e] at hgd ⊢
    simp only [ne_eq, not_true_eq_false, if_false, if_true]
    refine ⟨_, rfl, ?_, hP2, ?_, .inr (.inl ⟨rfl, rfl⟩)⟩
    · show Mid a0 K0 ((wantE E i t key val (updT E.T key (E.T key ++ [(i : Int) + 1]))).setTx i { t with wk := key, wv := val, state := 1 }).ce noQ
      rw [ce_set, want_ce]
      have := hW.stand (set_same (cs_get ht)) hs h2 hgd
      simp only [List.set_set] at this ⊢
      exact this
    · show ((wantE E i t key val (updT E.T key (E.T key ++ [(i : Int) + 1]))).setTx i { t with wk := key, wv := val, state := 1 }).ce.live ≤ _
      rw [ce_set, want_ce]
      simp only [List.set_set]
      exact Nat.le_of_eq (count_live (cs_get ht) hl (by rfl))
end

theorem goes_true (a0 : Int) (K0 : Int → Option Int) : Goes a0 K0 (fun _ _ => True) := ⟨fun _ _ _ _ _ _ _ _ => trivial, fun _ _ _ _ _ _ _ _ _ _ => trivial⟩
theorem goes_and {a0 : Int} {K0 : Int → Option Int} {Φ Ψ : Eng → (Nat → Prop) → Prop} (h : Goes a0 K0 Φ) (k : Goes a0 K0 Ψ) : Goes a0 K0 (fun E Q => Φ E Q ∧ Ψ E Q) :=
  ⟨fun E Q j E2 hM hP hq hp => ⟨h.ok E Q j E2 hM hP.1 hq hp, k.ok E Q j E2 hM hP.2 hq hp⟩, fun E Q j why E2 hM hP hq hp hy => ⟨h.bad E Q j why E2 hM hP.1 hq hp hy, k.bad E Q j why E2 hM hP.2 hq hp hy⟩⟩

end Go.Proofs.YtjefgmeejhakbaaGreatDoor

/- Plain: somebody may always go on; what is committed is what committed ones wrote, the last one of each key. -/
namespace Go.Proofs.YtjefgmeejhakbaaGreatDoor

section
variable {a0 : Int} {K0 : Int → Option Int} {E : Eng} {i : Nat} {t : Tx}
theorem holds_off {T : Tab} (h : Tidy0 T) : holdsP T (-1) = 0 := by
  unfold holdsP
  cases hT : T (-1) with
  | nil => rfl
  | cons a l => have := h.rng (-1) (by rw [hT]; exact nofun); omega
theorem Mid.waits_for (h : Mid a0 K0 E.ce noQ) (ht : E.txs[i]? = some t) (hs : t.state = 1) : ∃ (j : Nat) (u : Tx), waitsE E ((i : Int) + 1) = (j : Int) + 1 ∧ E.txs[j]? = some u ∧ liveB u.state = true := by
  rcases h.loc.wait i _ (cs_get ht) hs with h1 | h1
  · exact h1.elim
  · have hT := h.loc.good.tidy
    have hw := waits_of_mem hT h1
    have hm := head_mem (tail_ne h1)
    obtain ⟨j, u, e, hu, hl⟩ := h.loc.mem _ _ hm
    obtain ⟨v, hv, rfl⟩ := cs_of hu
    refine ⟨j, v, ?_, hv, hl⟩
    unfold waitsE
    rw [show waitsP E.T ((i : Int) + 1) = _ from hw]
    exact e
theorem Mid.waits_not (h : Mid a0 K0 E.ce noQ) (ht : E.txs[i]? = some t) (hs : t.state ≠ 1) : waitsE E ((i : Int) + 1) = 0 := by
  have hT := h.loc.good.tidy
  have hw : waitsP E.T ((i : Int) + 1) = -1 := (waits_none_iff hT).2 (fun k hk => by
    obtain ⟨u, hu, h1, _⟩ := h.loc.tail k i hk
    rw [cs_get ht] at hu
    cases hu
    exact hs h1)
  unfold waitsE
  rw [hw]
  exact holds_off hT
theorem Mid.open_one (h : Mid a0 K0 E.ce noQ) : ∀ (i : Nat) (t : Tx), E.txs[i]? = some t → t.state = 1 → ∃ (j : Nat) (u : Tx), E.txs[j]? = some u ∧ u.state = 0 := by
  obtain ⟨r, hr⟩ := h.loc.good.rank
  have key : ∀ (n : Nat) (i : Nat) (t : Tx), r ((i : Int) + 1) ≤ n → E.txs[i]? = some t → t.state = 1 → ∃ (j : Nat) (u : Tx), E.txs[j]? = some u ∧ u.state = 0 := by
    intro n
    induction n with
    | zero =>
      intro i t hn ht hs
      rcases h.loc.wait i _ (cs_get ht) hs with h1 | h1
      · exact h1.elim
      · have := hr _ _ h1
        omega
    | succ n ih =>
      intro i t hn ht hs
      rcases h.loc.wait i _ (cs_get ht) hs with h1 | h1
      · exact h1.elim
      · have hlt := hr _ _ h1
        obtain ⟨j, u, e, hu, hl⟩ := h.loc.mem _ _ (head_mem (tail_ne h1))
        obtain ⟨v, hv, rfl⟩ := cs_of hu
        have e' : holdsP E.ce.T (cor t).wk = (j : Int) + 1 := e
        rw [e'] at hlt
        rcases live_iff.1 hl with h2 | h2
        · exact ⟨j, v, hv, h2⟩
        · exact ih j v (by omega) hv h2
  exact fun i t ht hs => key _ i t (Nat.le_refl _) ht hs
end

def lastW (V : Nat → Int → Option Int) (l : List Nat) (k : Int) : Option Nat := (l.filter (fun i => (V i k).isSome)).getLast?
theorem lastW_nil (V : Nat → Int → Option Int) (k : Int) : lastW V [] k = none := rfl
theorem lastW_snoc (V : Nat → Int → Option Int) (l : List Nat) (i : Nat) (k : Int) : lastW V (l ++ [i]) k = if (V i k).isSome then some i else lastW V l k := by
  unfold lastW
  rw [List.filter_append, List.filter_cons]
  cases (V i k).isSome <;> simp
theorem lastW_some {V : Nat → Int → Option Int} {l : List Nat} {k : Int} {i : Nat} (h : lastW V l k = some i) : i ∈ l ∧ (V i k).isSome = true := by
  unfold lastW at h
  exact List.mem_filter.1 (List.mem_of_getLast? h)
theorem fullFrom_last (V : Nat → Int → Option Int) (a : Int) : ∀ (n : Nat) (l : List Nat) (c : Int), l.length = n → ((fullFrom V a c l).getLast?).map (·.2) = (lastW V l a).bind (fun i => V i a) := by
  intro n
  induction n with
  | zero => intro l c h; rw [List.eq_nil_of_length_eq_zero h]; rfl
  | succ n ih =>
    intro l0 c h0
    obtain ⟨l, x, rfl⟩ : ∃ l x, l0 = l ++ [x] := ⟨l0.dropLast, l0.getLast (fun e => by rw [e] at h0; simp at h0), (List.dropLast_concat_getLast _).symm⟩
    have hm : l.length = n := by simpa using h0
    rw [fullFrom_append, lastW_snoc]
    cases hv : V x a with
    | none => simp [fullFrom, hv, ih l c hm]
    | some y => simp [fullFrom, hv]
theorem lastW_filter (V : Nat → Int → Option Int) (l : List Nat) (k : Int) (p : Nat → Bool) (hp : ∀ i ∈ l, (V i k).isSome = true → p i = true) : lastW V (l.filter p) k = lastW V l k := by
  unfold lastW
  rw [List.filter_filter]
  congr 1
  refine List.filter_congr (fun i hi => ?_)
  cases hv : (V i k).isSome with
  | false => simp
  | true => rw [hp i hi hv]; rfl

section
variable {a0 : Int} {K0 : Int → Option Int} {E : Eng} {Q : Nat → Prop}
theorem Mid.now (h : Mid a0 (fun _ => none) E.ce Q) {k : Nat} (hk : k < 10) : (rdP E.last (E.ks[k]?.getD [])).map (·.2) = (lastW E.ce.v E.com k).bind (fun i => E.ce.v i k) := by
  obtain ⟨d, h1, h3, h4⟩ := h.com.kss k hk
  have h3' : E.ks[k]? = some ((full a0 (fun _ => none) E.ce k).drop d) := h3
  rw [h3']
  simp only [Option.getD_some]
  rw [rdP_drop _ _ _ (h4 E.last (.inl (Int.le_refl _))), rdP_last, List.filter_eq_self.2 (fun p hp => by have := (full_le h.com hp).2; exact decide_eq_true (show p.1 ≤ E.last from this))]
  unfold full
  simp only [List.nil_append]
  rw [fullFrom_last _ _ _ _ _ rfl]
  congr 1
  unfold CE.cw
  refine lastW_filter _ _ _ _ (fun i hi hv => ?_)
  obtain ⟨u, hu, _⟩ := (h.com.coms i).1 hi
  have hvk := (h.reg.fair i u hu).vk
  rw [← CE.v_some hu] at hvk
  simp only [ne_eq, decide_eq_true_eq]
  exact wrote_of hvk (a := k) (fun e => by rw [e] at hv; cases hv)
end

end Go.Proofs.YtjefgmeejhakbaaGreatDoor

/- The tale of interleafkeep: plain, and how it lies in memory. -/
namespace Go.Proofs.YtjefgmeejhakbaaGreatDoor
open Go.RowKit

structure Tal where
  level : List Int
  snap : List (List (Int × Int))
  own : List (Int → Option Int)
  reads : List (List (Int × Int))
  begun : List Int
  over : List Int
  steps : Int
  n : Int
  broken : Bool
structure TalL where
  b : Nat
  row : Nat → Value
  sn : List Value
  om : List Nat
  rd : List Value
inductive TTag where
  | b : TTag
  | row : Nat → TTag
  | sn : Nat → TTag
  | om : Nat → TTag
  | rd : Nat → TTag
def rowT : Nat → TypeId
  | 1 => 23
  | 2 => 69
  | 3 => 73
  | _ => 3
def mapV (b : Nat) : Value := .map (some b)
def TalL.rowX (L : TalL) (t : Tal) : Nat → List Value
  | 0 => intsV t.level
  | 1 => L.sn
  | 2 => L.om.map mapV
  | 3 => L.rd
  | 4 => intsV t.begun
  | _ => intsV t.over
def talCells (s : Nat) (row : Nat → Value) (steps n : Int) (broken : Bool) : Array Value := #[ptrV s, row 0, row 1, row 2, row 3, row 4, row 5, .int .i64 steps, .int .i64 n, .bool broken]
structure TTagged (L : TalL) (ρ : Nat → TTag) : Prop where
  b : ρ L.b = .b
  row : ∀ j g, j < 6 → (L.row j).ownBlock = some g → ρ g = .row j
  sn : ∀ (i : Nat) (v : Value) (g : Nat), L.sn[i]? = some v → v.ownBlock = some g → ρ g = .sn i
  om : ∀ (i g : Nat), L.om[i]? = some g → ρ g = .om i
  rd : ∀ (i : Nat) (v : Value) (g : Nat), L.rd[i]? = some v → v.ownBlock = some g → ρ g = .rd i
def TalL.own (L : TalL) (g : Nat) : Prop := g = L.b ∨ (∃ j, j < 6 ∧ (L.row j).ownBlock = some g) ∨ (∃ (i : Nat) (v : Value), L.sn[i]? = some v ∧ v.ownBlock = some g) ∨ (∃ i : Nat, L.om[i]? = some g) ∨ ∃ (i : Nat) (v : Value), L.rd[i]? = some v ∧ v.ownBlock = some g
structure TLen (L : TalL) (t : Tal) (N : Nat) : Prop where
  level : t.level.length = N
  snap : t.snap.length = N
  own : t.own.length = N
  reads : t.reads.length = N
  begun : t.begun.length = N
  over : t.over.length = N
  sn : L.sn.length = N
  om : L.om.length = N
  rd : L.rd.length = N
structure TalAt (w : World) (s : Nat) (L : TalL) (t : Tal) (N : Nat) : Prop where
  blk : w.heap[L.b]? = some (.cells (talCells s L.row t.steps t.n t.broken) 67 (0, 0))
  rows : ∀ j, j < 6 → w.ownsRow 0 (rowT j) 1 (L.row j) N (L.rowX t j)
  sn : ∀ (i : Nat) (v : Value) (l : List (Int × Int)), L.sn[i]? = some v → t.snap[i]? = some l → w.ownsRow 0 78 2 v l.length (vrow l)
  om : ∀ (i b : Nat) (f : Int → Option Int), L.om[i]? = some b → t.own[i]? = some f → IMap w b 10 (fun k => (f k).map (Value.int .i64)) ∧ ∀ k, f k ≠ none → 0 ≤ k ∧ k < 10
  rd : ∀ (i : Nat) (v : Value) (l : List (Int × Int)), L.rd[i]? = some v → t.reads[i]? = some l → w.ownsRow 0 75 2 v l.length (vrow l)
  len : TLen L t N
  tag : ∃ ρ, TTagged L ρ

section
variable {w w' : World} {s N : Nat} {L : TalL} {t : Tal}
theorem TalAt.getS (h : TalAt w s L t N) {i : Nat} (hi : i < N) : ∃ v l, L.sn[i]? = some v ∧ t.snap[i]? = some l :=
  ⟨L.sn[i]'(by have := h.len.sn; omega), t.snap[i]'(by have := h.len.snap; omega), List.getElem?_eq_getElem _, List.getElem?_eq_getElem _⟩
theorem TalAt.getO (h : TalAt w s L t N) {i : Nat} (hi : i < N) : ∃ b f, L.om[i]? = some b ∧ t.own[i]? = some f :=
  ⟨L.om[i]'(by have := h.len.om; omega), t.own[i]'(by have := h.len.own; omega), List.getElem?_eq_getElem _, List.getElem?_eq_getElem _⟩
theorem TalAt.getR (h : TalAt w s L t N) {i : Nat} (hi : i < N) : ∃ v l, L.rd[i]? = some v ∧ t.reads[i]? = some l :=
  ⟨L.rd[i]'(by have := h.len.rd; omega), t.reads[i]'(by have := h.len.reads; omega), List.getElem?_eq_getElem _, List.getElem?_eq_getElem _⟩
theorem TalAt.own_lt (h : TalAt w s L t N) {g : Nat} (hg : L.own g) : g < w.heap.size := by
  rcases hg with rfl | ⟨j, hj, hg⟩ | ⟨i, v, hv, hg⟩ | ⟨i, hi⟩ | ⟨i, v, hv, hg⟩
  · exact (Array.getElem?_eq_some_iff.1 h.blk).1
  · exact owns_lt (h.rows j hj) hg
  · obtain ⟨_, l, _, hl⟩ := h.getS (i := i) (by have := (List.getElem?_eq_some_iff.1 hv).1; have := h.len.sn; omega)
    exact owns_lt (h.sn i v l hv hl) hg
  · obtain ⟨_, f, _, hf⟩ := h.getO (i := i) (by have := (List.getElem?_eq_some_iff.1 hi).1; have := h.len.om; omega)
    exact (h.om i g f hi hf).1.lt
  · obtain ⟨_, l, _, hl⟩ := h.getR (i := i) (by have := (List.getElem?_eq_some_iff.1 hv).1; have := h.len.rd; omega)
    exact owns_lt (h.rd i v l hv hl) hg
theorem TalAt.same (h : TalAt w s L t N) (hs : ∀ g, L.own g → w'.heap[g]? = w.heap[g]?) : TalAt w' s L t N :=
  ⟨(hs _ (.inl rfl)).trans h.blk, fun j hj => owns_same (h.rows j hj) (fun g hg => hs g (.inr (.inl ⟨j, hj, hg⟩))), fun i v l hv hl => owns_same (h.sn i v l hv hl) (fun g hg => hs g (.inr (.inr (.inl ⟨i, v, hv, hg⟩)))),
    fun i b f hb hf => ⟨(h.om i b f hb hf).1.same (hs b (.inr (.inr (.inr (.inl ⟨i, hb⟩))))), (h.om i b f hb hf).2⟩, fun i v l hv hl => owns_same (h.rd i v l hv hl) (fun g hg => hs g (.inr (.inr (.inr (.inr ⟨i, v, hv, hg⟩))))), h.len, h.tag⟩
theorem TalAt.below (h : TalAt w s L t N) (hB : Below w.heap.size w w') : TalAt w' s L t N := h.same (fun g hg => hB.block g (h.own_lt hg))
theorem TalAt.cell (h : TalAt w s L t N) (o : Nat) : w.cell? ⟨L.b, o, none⟩ = (talCells s L.row t.steps t.n t.broken)[o]? := cell_of_row w L.b o _ _ (0, 0) h.blk
theorem TalAt.free (h : TalAt w s L t N) (o : Nat) : w.frozen? ⟨L.b, o, none⟩ = false := by simp [World.frozen?, h.blk]

theorem TalAt.head (h : TalAt w s L t N) {steps n : Int} {broken : Bool} (hb : w'.heap[L.b]? = some (.cells (talCells s L.row steps n broken) 67 (0, 0))) (hs : ∀ g, L.own g → g ≠ L.b → w'.heap[g]? = w.heap[g]?) : TalAt w' s L { t with steps := steps, n := n, broken := broken } N := by
  obtain ⟨ρ, T⟩ := h.tag
  refine ⟨hb, fun j hj => ?_, fun i v l hv hl => owns_same (h.sn i v l hv hl) (fun g hg => hs g (.inr (.inr (.inl ⟨i, v, hv, hg⟩))) (fun e => ?_)),
    fun i b f hb hf => ⟨(h.om i b f hb hf).1.same (hs b (.inr (.inr (.inr (.inl ⟨i, hb⟩)))) (fun e => ?_)), (h.om i b f hb hf).2⟩, fun i v l hv hl => owns_same (h.rd i v l hv hl) (fun g hg => hs g (.inr (.inr (.inr (.inr ⟨i, v, hv, hg⟩)))) (fun e => ?_)), ⟨h.len.level, h.len.snap, h.len.own, h.len.reads, h.len.begun, h.len.over, h.len.sn, h.len.om, h.len.rd⟩, ρ, T⟩
  · have : L.rowX { t with steps := steps, n := n, broken := broken } j = L.rowX t j := by unfold TalL.rowX; split <;> rfl
    rw [this]
    exact owns_same (h.rows j hj) (fun g hg => hs g (.inr (.inl ⟨j, hj, hg⟩)) (fun e => by have := T.row j g hj hg; rw [e, T.b] at this; cases this))
  · have := T.sn i v g hv hg; rw [e, T.b] at this; cases this
  · have := T.om i b hb; rw [e, T.b] at this; cases this
  · have := T.rd i v g hv hg; rw [e, T.b] at this; cases this
end

structure Gr where
  w : World
  P : Nat → Prop
structure Gr.Kept (G : Gr) (w : World) : Prop where
  os : w.os = G.w.os
  tape : w.tape = G.w.tape
  output : w.output = G.w.output
  size : G.w.heap.size ≤ w.heap.size
  lt : ∀ g, G.P g → g < G.w.heap.size
  block : ∀ g, G.P g → w.heap[g]? = G.w.heap[g]?
structure TaleAt (w0 : Gr) (w : World) (L : EnL) (E : Eng) (TL : TalL) (t : Tal) : Prop where
  en : EnAt w L E
  tal : TalAt w L.s TL t E.txs.length
  apart : ∀ g, TL.own g → ¬ L.own g
  newE : ∀ g, L.own g → ¬ w0.P g
  newT : ∀ g, TL.own g → ¬ w0.P g
  kept : w0.Kept w
section
variable {w0 : Gr} {w w' : World} {L L' : EnL} {E E' : Eng} {TL : TalL} {t : Tal}
theorem Gr.Kept.go (h : w0.Kept w) {o o' : Nat → Prop} (hK : KeptO o o' w w') (hn : ∀ g, o g → ¬ w0.P g) : w0.Kept w' :=
  ⟨hK.os.trans h.os, hK.tape.trans h.tape, hK.output.trans h.output, Nat.le_trans h.size hK.size, h.lt, fun g hg => (hK.block g (Nat.lt_of_lt_of_le (h.lt g hg) h.size) (fun e => hn g e hg)).trans (h.block g hg)⟩
theorem Gr.Kept.new (h : w0.Kept w) {g : Nat} (hg : w.heap.size ≤ g) : ¬ w0.P g := fun hp => by have := h.lt g hp; have := h.size; omega
theorem TaleAt.below (h : TaleAt w0 w L E TL t) (hB : Below w.heap.size w w') : TaleAt w0 w' L E TL t :=
  ⟨h.en.below hB, h.tal.below hB, h.apart, h.newE, h.newT, h.kept.go (KeptO.of_below (o := fun _ => False) hB) (fun _ hf => hf.elim)⟩
theorem TaleAt.drewN (h : TaleAt w0 w L E TL t) (q : Nat) : TaleAt w0 (w.drewN q) L E TL t := h.below (below_drewN (Below.refl _ w) q)
theorem TaleAt.engine (h : TaleAt w0 w L E TL t) (hE : EnAt w' L' E') (hK : KeptO L.own L'.own w w') (hs : L'.s = L.s) (hl : E'.txs.length = E.txs.length) : TaleAt w0 w' L' E' TL t :=
  ⟨hE, by rw [hs, hl]; exact h.tal.same (fun g hg => hK.block g (h.tal.own_lt hg) (h.apart g hg)), fun g hg hg' => (hK.sub g hg').elim (h.apart g hg) (fun e => by have := h.tal.own_lt hg; omega),
    fun g hg => (hK.sub g hg).elim (h.newE g) (fun e => h.kept.new e), h.newT, h.kept.go hK h.newE⟩
theorem TaleAt.tale (h : TaleAt w0 w L E TL t) {TL' : TalL} {t' : Tal} (hT : TalAt w' L.s TL' t' E.txs.length) (hK : KeptO TL.own TL'.own w w') : TaleAt w0 w' L E TL' t' :=
  ⟨h.en.same (fun g hg => hK.block g (h.en.own_lt hg) (fun e => h.apart g e hg)), hT, fun g hg hg' => (hK.sub g hg).elim (fun e => h.apart g e hg') (fun e => by have := h.en.own_lt hg'; omega), h.newE,
    fun g hg => (hK.sub g hg).elim (h.newT g) (fun e => h.kept.new e), h.kept.go hK h.newT⟩
def ground (w : World) (L : EnL) (TL : TalL) : Gr := ⟨w, fun g => g < w.heap.size ∧ ¬ L.own g ∧ ¬ TL.own g⟩
theorem TaleAt.reground (h : TaleAt w0 w L E TL t) : TaleAt (ground w L TL) w L E TL t :=
  ⟨h.en, h.tal, h.apart, fun _ hg hp => hp.2.1 hg, fun _ hg hp => hp.2.2 hg, ⟨rfl, rfl, rfl, Nat.le_refl _, fun _ hp => hp.1, fun _ _ => rfl⟩⟩
theorem TaleAt.cell (h : TaleAt w0 w L E TL t) {g o : Nat} {v : Value} (hp : w0.P g) (hc : w0.w.cell? ⟨g, o, none⟩ = some v) : w.cell? ⟨g, o, none⟩ = some v := (World.cell?_of_block (a := ⟨g, o, none⟩) (h.kept.block g hp)).trans hc
end

end Go.Proofs.YtjefgmeejhakbaaGreatDoor

/- Plain: what one act makes of an engine and its tale. -/
namespace Go.Proofs.YtjefgmeejhakbaaGreatDoor

def ofP (l : List (Int × Int)) (k : Int) : Int := match l.find? (fun p => p.1 == k) with
  | some p => p.2
  | none => -1
def overB (E : Eng) (i : Nat) : Bool := match E.txs[i]? with
  | some t => decide (2 ≤ t.state)
  | none => false
def overTo (E : Eng) (steps : Int) (j : Nat) (l : List Int) : List Int := l.mapIdx (fun i o => if i < j ∧ o = 0 ∧ overB E i = true then steps else o)
def stepT (t : Tal) : Tal := { t with steps := t.steps + 1 }
def beginT (E : Eng) (t : Tal) (level : Int) : Tal := { t with level := t.level ++ [level], snap := t.snap ++ [allE E], own := t.own ++ [fun _ => none], reads := t.reads ++ [[]], begun := t.begun ++ [t.steps], over := t.over ++ [0] }
def endT (E : Eng) (t : Tal) : Tal := { t with over := overTo E t.steps t.over.length t.over }
def ownT (t : Tal) (x : Nat) : Int → Option Int := t.own[x]?.getD (fun _ => none)
def wantT (E : Eng) (t : Tal) (x : Nat) (key : Int) : Int := if t.level[x]?.getD 0 = 0 then ofP (allE E) key else ofP (t.snap[x]?.getD []) key
def readV (r : Int × Int) : Int := if r.2 = 8 then -1 else r.1
def readT (E : Eng) (t : Tal) (x : Nat) (key : Int) (r : Int × Int) : Tal :=
  if r.2 ≠ 0 ∧ r.2 ≠ 8 then t else match ownT t x key with
  | some v => { t with broken := t.broken || readV r != v }
  | none => { t with broken := t.broken || readV r != wantT E t x key, reads := t.reads.set x ((t.reads[x]?.getD []) ++ [(key, readV r)]) }
def nextT (t : Tal) : Tal := { t with n := t.n + 1 }
def writeT (t : Tal) (x : Nat) (key : Int) (r : Bool × Int) (o : Bool) : Tal :=
  if r.2 ≠ 0 then t else { t with own := t.own.set x (updT (ownT t x) key (some t.n)), broken := t.broken || r.1 != o }
def openB (E : Eng) (i : Nat) : Bool := match E.txs[i]? with
  | some t => decide (t.state = 0)
  | none => false

inductive Does (lv : Int) : Eng → Tal → Eng → Tal → Prop where
  | same (E : Eng) (t : Tal) : Does lv E t E (stepT t)
  | begin (E : Eng) (t : Tal) (level : Int) (h : (level = 0 ∨ level = 1 ∨ level = 2) ∧ (0 ≤ lv → level = lv)) (hl : E.txs.length < 200) (ho : (liveOnes E).length < 6) : Does lv E t { E with txs := E.txs ++ [newTx level E.last] } (beginT E (stepT t) level)
  | sweep (E : Eng) (t : Tal) : Does lv E t (sweepE E) (stepT t)
  | shut (E : Eng) (t : Tal) : Does lv E t E (endT E (stepT t))
  | read (E : Eng) (t : Tal) (x : Nat) (u : Tx) (key : Int) (R : (Int × Int) × Eng) (hu : E.txs[x]? = some u) (hs : u.state = 0) (hk : 0 ≤ key ∧ key < 4) (hR : readE 7 E x key = some R) : Does lv E t R.2 (endT R.2 (readT E (stepT t) x key R.1))
  | wshut (E : Eng) (t : Tal) : Does lv E t E (endT E (nextT (stepT t)))
  | write (E : Eng) (t : Tal) (x : Nat) (u : Tx) (key : Int) (q : Int → Nat) (R : (Bool × Int) × Eng) (hu : E.txs[x]? = some u) (hs : u.state = 0) (hk : 0 ≤ key ∧ key < 4) (hq : Ranked E.T q) (hR : writeE 7 q E x key (t.n + 1) = some R) : Does lv E t R.2 (endT R.2 (writeT (nextT (stepT t)) x key R.1 (openB R.2 x)))
  | commit (E : Eng) (t : Tal) (x : Nat) (u : Tx) (R : Int × Eng) (hu : E.txs[x]? = some u) (hs : u.state = 0) (hR : commitE 7 E x = some R) : Does lv E t R.2 (endT R.2 (stepT t))
  | abort (E : Eng) (t : Tal) (x : Nat) (u : Tx) (E' : Eng) (hu : E.txs[x]? = some u) (hs : liveB u.state = true) (hR : endF 7 (loseE E x 0) x 3 = some E') : Does lv E t E' (endT E' (stepT t))

end Go.Proofs.YtjefgmeejhakbaaGreatDoor

/- The tale when one more transaction is begun. -/
namespace Go.Proofs.YtjefgmeejhakbaaGreatDoor
open Go.RowKit

def newX (level steps : Int) (av : Value) (m : Nat) : Nat → Value
  | 0 => .int .i64 level
  | 1 => av
  | 2 => mapV m
  | 3 => .slice none 0 0
  | 4 => .int .i64 steps
  | _ => .int .i64 0
def moreL (L : TalL) (row' : Nat → Value) (av : Value) (m : Nat) : TalL := ⟨L.b, row', L.sn ++ [av], L.om ++ [m], L.rd ++ [.slice none 0 0]⟩
theorem moreX (L : TalL) (E : Eng) (t : Tal) (row' : Nat → Value) (av : Value) (m : Nat) (level : Int) (j : Nat) (hj : j < 6) : (moreL L row' av m).rowX (beginT E t level) j = L.rowX t j ++ [newX level t.steps av m j] := by
  obtain rfl | rfl | rfl | rfl | rfl | rfl : j = 0 ∨ j = 1 ∨ j = 2 ∨ j = 3 ∨ j = 4 ∨ j = 5 := by omega
  all_goals simp [TalL.rowX, moreL, beginT, newX, intsV, mapV]
theorem getElem?_snoc {α : Type} {l : List α} {x y : α} {i : Nat} (h : (l ++ [x])[i]? = some y) : (i < l.length ∧ l[i]? = some y) ∨ (i = l.length ∧ y = x) := by
  rw [List.getElem?_append] at h
  split at h
  · rename_i hi
    exact .inl ⟨hi, h⟩
  · rename_i hi
    rw [List.getElem?_singleton] at h
    split at h
    · injection h with h
      exact .inr ⟨by omega, h.symm⟩
    · cases h

open Classical in
theorem TalAt.more {w w' : World} {s N : Nat} {L : TalL} {t : Tal} (h : TalAt w s L t N) {E : Eng} {level : Int} {row' : Nat → Value} {av : Value} {m : Nat}
    (hb : w'.heap[L.b]? = some (.cells (talCells s row' t.steps t.n t.broken) 67 (0, 0)))
    (hrow : ∀ j, j < 6 → w'.ownsRow 0 (rowT j) 1 (row' j) (N + 1) (L.rowX t j ++ [newX level t.steps av m j]) ∧ ∀ g, (row' j).ownBlock = some g → (L.row j).ownBlock = some g ∨ w.heap.size ≤ g)
    (hd : ∀ i j g, i < 6 → j < 6 → (row' i).ownBlock = some g → (row' j).ownBlock = some g → i = j)
    (hav : w'.ownsRow 0 78 2 av (allE E).length (vrow (allE E))) (hav2 : ∀ g, av.ownBlock = some g → ¬ L.own g ∧ g < w.heap.size)
    (hm : IMap w' m 10 (fun _ => none)) (hm2 : w.heap.size ≤ m)
    (hs : ∀ g, g < w.heap.size → g ≠ L.b → (∀ j, j < 6 → (L.row j).ownBlock ≠ some g) → w'.heap[g]? = w.heap[g]?) :
    TalAt w' s (moreL L row' av m) (beginT E t level) (N + 1) ∧ (∀ g, (moreL L row' av m).own g → L.own g ∨ w.heap.size ≤ g ∨ av.ownBlock = some g) ∧ ∀ g, g < w.heap.size → ¬ L.own g → w'.heap[g]? = w.heap[g]? := by
  obtain ⟨ρ, T⟩ := h.tag
  have hl := h.len
  have hkeep : ∀ g, L.own g → g ≠ L.b → (∀ j, ρ g ≠ .row j) → w'.heap[g]? = w.heap[g]? := fun g hg hne hn => hs g (h.own_lt hg) hne (fun j hj e => hn j (T.row j g hj e))
  have o_sn : ∀ {i : Nat} {v : Value} {g : Nat}, L.sn[i]? = some v → v.ownBlock = some g → L.own g := fun h1 h2 => .inr (.inr (.inl ⟨_, _, h1, h2⟩))
  have o_om : ∀ {i g : Nat}, L.om[i]? = some g → L.own g := fun h1 => .inr (.inr (.inr (.inl ⟨_, h1⟩)))
  have o_rd : ∀ {i : Nat} {v : Value} {g : Nat}, L.rd[i]? = some v → v.ownBlock = some g → L.own g := fun h1 h2 => .inr (.inr (.inr (.inr ⟨_, _, h1, h2⟩)))
  have o_row : ∀ {j g : Nat}, j < 6 → (L.row j).ownBlock = some g → L.own g := fun h1 h2 => .inr (.inl ⟨_, h1, h2⟩)
  have hrm : ∀ j, j < 6 → (row' j).ownBlock ≠ some m := fun j hj e => by
    obtain ⟨cur, hc⟩ := owns_typ (hrow j hj).1 e
    exact hm.ne hc rfl
  refine ⟨⟨hb, fun j hj => ?_, fun i v l hv hl' => ?_, fun i b f hbm hf => ?_, fun i v l hv hl' => ?_, ?_, ?_⟩, fun g hg => ?_, fun g hg hn => ?_⟩
  · rw [moreX L E t row' av m level j hj]
    exact (hrow j hj).1
  · rcases getElem?_snoc hv with ⟨hi, hv⟩ | ⟨hi, rfl⟩
    · rcases getElem?_snoc hl' with ⟨_, hl'⟩ | ⟨hi', _⟩
      · refine owns_same (h.sn i v l hv hl') (fun g hg => hkeep g (o_sn hv hg) (fun e => ?_) (fun j e => ?_))
        · have := T.sn i v g hv hg; rw [e, T.b] at this; cases this
        · rw [T.sn i v g hv hg] at e; cases e
      · have := hl.sn; have := hl.snap; omega
    · rcases getElem?_snoc hl' with ⟨hi', _⟩ | ⟨_, rfl⟩
      · have := hl.sn; have := hl.snap; omega
      · exact hav
  · rcases getElem?_snoc hbm with ⟨hi, hbm⟩ | ⟨hi, rfl⟩
    · rcases getElem?_snoc hf with ⟨_, hf⟩ | ⟨hi', _⟩
      · have h1 := h.om i b f hbm hf
        refine ⟨h1.1.same (hkeep b (o_om hbm) (fun e => ?_) (fun j e => ?_)), h1.2⟩
        · have := T.om i b hbm; rw [e, T.b] at this; cases this
        · rw [T.om i b hbm] at e; cases e
      · have := hl.om; have := hl.own; omega
    · rcases getElem?_snoc hf with ⟨hi', _⟩ | ⟨_, rfl⟩
      · have := hl.om; have := hl.own; omega
      · exact ⟨hm, fun k hk => (hk rfl).elim⟩
  · rcases getElem?_snoc hv with ⟨hi, hv⟩ | ⟨hi, rfl⟩
    · rcases getElem?_snoc hl' with ⟨_, hl'⟩ | ⟨hi', _⟩
      · refine owns_same (h.rd i v l hv hl') (fun g hg => hkeep g (o_rd hv hg) (fun e => ?_) (fun j e => ?_))
        · have := T.rd i v g hv hg; rw [e, T.b] at this; cases this
        · rw [T.rd i v g hv hg] at e; cases e
      · have := hl.rd; have := hl.reads; omega
    · rcases getElem?_snoc hl' with ⟨hi', _⟩ | ⟨_, rfl⟩
      · have := hl.rd; have := hl.reads; omega
      · exact ⟨rfl, .inl ⟨rfl, rfl⟩⟩
  · exact ⟨by simp [beginT, hl.level], by simp [beginT, hl.snap], by simp [beginT, hl.own], by simp [beginT, hl.reads], by simp [beginT, hl.begun], by simp [beginT, hl.over], by simp [moreL, hl.sn], by simp [moreL, hl.om], by simp [moreL, hl.rd]⟩
  · refine ⟨fun g => if g < w.heap.size then (if av.ownBlock = some g then .sn N else ρ g) else if g = m then .om N else if hx : ∃ j, j < 6 ∧ (row' j).ownBlock = some g then .row hx.choose else .b, ?_⟩
    have hold : ∀ g, L.own g → (if g < w.heap.size then (if av.ownBlock = some g then TTag.sn N else ρ g) else if g = m then TTag.om N else if hx : ∃ j, j < 6 ∧ (row' j).ownBlock = some g then TTag.row hx.choose else TTag.b) = ρ g := fun g hg => by
      rw [if_pos (h.own_lt hg), if_neg (fun e => (hav2 g e).1 hg)]
    refine ⟨(hold L.b (.inl rfl)).trans T.b, fun j g hj hg => ?_, fun i v g hv hg => ?_, fun i g hi => ?_, fun i v g hv hg => ?_⟩
    · rcases (hrow j hj).2 g hg with h1 | h1
      · exact (hold g (o_row hj h1)).trans (T.row j g hj h1)
      · have hx : ∃ j, j < 6 ∧ (row' j).ownBlock = some g := ⟨j, hj, hg⟩
        show (if g < w.heap.size then _ else _) = _
        rw [if_neg (by omega), if_neg (fun e => hrm j hj (by rw [← e]; exact hg)), dif_pos hx]
        have := hx.choose_spec
        rw [hd _ _ g this.1 hj this.2 hg]
    · rcases getElem?_snoc hv with ⟨hi, hv⟩ | ⟨hi, rfl⟩
      · exact (hold g (o_sn hv hg)).trans (T.sn i v g hv hg)
      · show (if g < w.heap.size then _ else _) = _
        rw [if_pos (hav2 g hg).2, if_pos hg, hi, hl.sn]
    · rcases getElem?_snoc hi with ⟨_, hi⟩ | ⟨hi', rfl⟩
      · exact (hold g (o_om hi)).trans (T.om i g hi)
      · show (if g < w.heap.size then _ else _) = _
        rw [if_neg (by omega), if_pos rfl, hi', hl.om]
    · rcases getElem?_snoc hv with ⟨hi, hv⟩ | ⟨hi, rfl⟩
      · exact (hold g (o_rd hv hg)).trans (T.rd i v g hv hg)
      · cases hg
  · rcases hg with hg | ⟨j, hj, hg⟩ | ⟨i, v, hv, hg⟩ | ⟨i, hi⟩ | ⟨i, v, hv, hg⟩
    · exact .inl (.inl hg)
    · rcases (hrow j hj).2 g hg with h1 | h1
      · exact .inl (o_row hj h1)
      · exact .inr (.inl h1)
    · rcases getElem?_snoc hv with ⟨_, hv⟩ | ⟨_, rfl⟩
      · exact .inl (o_sn hv hg)
      · exact .inr (.inr hg)
    · rcases getElem?_snoc hi with ⟨_, hi⟩ | ⟨_, rfl⟩
      · exact .inl (o_om hi)
      · exact .inr (.inl hm2)
    · rcases getElem?_snoc hv with ⟨_, hv⟩ | ⟨_, rfl⟩
      · exact .inl (o_rd hv hg)
      · cases hg
  · exact hs g hg (fun e => hn (.inl e)) (fun j hj e => hn (o_row hj e))

end Go.Proofs.YtjefgmeejhakbaaGreatDoor

/- Plain: what was committed stays so. -/
namespace Go.Proofs.YtjefgmeejhakbaaGreatDoor

structure Later (C C' : CE) : Prop where
  keep : ∀ (i : Nat) (t : Cor), C.cs[i]? = some t → ∃ t', C'.cs[i]? = some t' ∧ t'.level = t.level ∧ t'.start = t.start ∧ (liveB t.state = false → t' = t)
  com : ∃ l, C'.com = C.com ++ l
theorem Later.refl (C : CE) : Later C C := ⟨fun _ t h => ⟨t, h, rfl, rfl, fun _ => rfl⟩, [], by simp⟩
theorem Later.trans {A B C : CE} (h : Later A B) (k : Later B C) : Later A C := by
  obtain ⟨l1, e1⟩ := h.com
  obtain ⟨l2, e2⟩ := k.com
  refine ⟨fun i t ht => ?_, l1 ++ l2, by rw [e2, e1, List.append_assoc]⟩
  obtain ⟨t1, h1, h2, h3, h4⟩ := h.keep i t ht
  obtain ⟨t2, k1, k2, k3, k4⟩ := k.keep i t1 h1
  exact ⟨t2, k1, k2.trans h2, k3.trans h3, fun hl => by
    have e := h4 hl
    rw [e] at k4
    exact k4 hl⟩
theorem Later.set {C C' : CE} {i : Nat} {t t' : Cor} (ht : C.cs[i]? = some t) (hl : liveB t.state = true) (h1 : t'.level = t.level) (h2 : t'.start = t.start) (hc : C'.cs = C.cs.set i t') (hm : C'.com = C.com) : Later C C' := by
  refine ⟨fun j u hu => ?_, [], by simp [hm]⟩
  rw [hc]
  by_cases e : j = i
  · subst e
    rw [ht] at hu
    cases hu
    exact ⟨t', set_same ht, h1, h2, fun h => by rw [hl] at h; cases h⟩
  · exact ⟨u, by rw [set_ne e]; exact hu, rfl, rfl, fun _ => rfl⟩
theorem Later.of_eq {C C' : CE} (h1 : C'.cs = C.cs) (h2 : C'.com = C.com) : Later C C' := ⟨fun i t ht => ⟨t, by rw [h1]; exact ht, rfl, rfl, fun _ => rfl⟩, [], by simp [h2]⟩

section
variable {a0 : Int} {K0 : Int → Option Int} {C C' : CE}
theorem Later.v (h : Later C C') (hC : Com a0 K0 C) {i : Nat} (hi : i ∈ C.com) : C'.v i = C.v i := by
  obtain ⟨t, ht, h2⟩ := (hC.coms i).1 hi
  obtain ⟨t', ht', _, _, h3⟩ := h.keep i t ht
  rw [CE.v_some ht, CE.v_some ht', h3 (by rw [h2]; rfl)]
theorem Later.cw (h : Later C C') (hC : Com a0 K0 C) : ∃ l, C'.cw = C.cw ++ l := by
  obtain ⟨l, e⟩ := h.com
  refine ⟨l.filter (fun i => decide (writesP (C'.v i) ≠ [])), ?_⟩
  unfold CE.cw
  rw [e, List.filter_append]
  congr 1
  exact List.filter_congr (fun i hi => by rw [h.v hC hi])
theorem Later.ful (h : Later C C') (hC : Com a0 K0 C) (a : Int) : ∃ l, full a0 K0 C' a = full a0 K0 C a ++ l ∧ ∀ p ∈ l, C.last < p.1 := by
  obtain ⟨l, e⟩ := h.cw hC
  refine ⟨fullFrom C'.v a (a0 + 1 + C.cw.length) l, ?_, fun p hp => ?_⟩
  · unfold full
    rw [e, fullFrom_append, ← List.append_assoc]
    congr 2
    exact fullFrom_congr _ _ a _ _ (fun i hi => by rw [h.v hC (List.mem_filter.1 hi).1])
  · obtain ⟨j, i, _, e2, _⟩ := (fullFrom_mem _ _ _ _ p.1 p.2).1 hp
    have := hC.lastc
    omega
theorem Later.rd (h : Later C C') (hC : Com a0 K0 C) (a : Int) {u : Int} (hu : u ≤ C.last) : rdP u (full a0 K0 C' a) = rdP u (full a0 K0 C a) := by
  obtain ⟨l, e, hl⟩ := h.ful hC a
  have h0 : l.filter (fun p => decide (p.1 ≤ u)) = [] := List.filter_eq_nil_iff.2 (fun p hp => by have := hl p hp; simp; omega)
  rw [rdP_last, rdP_last, e, List.filter_append, h0, List.append_nil]
theorem Later.last (h : Later C C') (hC : Com a0 K0 C) (hC' : Com a0 K0 C') : C.last ≤ C'.last := by
  obtain ⟨l, e⟩ := h.cw hC
  rw [hC.lastc, hC'.lastc, e]
  simp
  omega
theorem Later.wr (h : Later C C') (hC : Com a0 K0 C) (hC' : Com a0 K0 C') {c : Int} (hc : c ≤ C.last) : C'.wr c = C.wr c := by
  obtain ⟨l, e⟩ := h.cw hC
  rw [hC.wrc, hC'.wrc, e]
  split
  · have := hC.lastc
    rw [List.getElem?_append_left (by omega)]
  · rfl
end

theorem later_put {E E2 : Eng} {j : Nat} {t : Tx} (ht : E.txs[j]? = some t) (hl : liveB t.state = true) {why : Int} (hp : putE (wakeE E j) j = (why, E2)) : Later E.ce E2.ce ∧ ∃ u, E2.txs[j]? = some u ∧ u.state = 0 := by
  have hw : (wakeE E j).txs[j]? = some { t with state := 0 } := by unfold wakeE; rw [Eng.upd_some ht]; exact setTx_get ht
  have hwc : (wakeE E j).ce = { E.ce with cs := E.ce.cs.set j { cor t with state := 0 } } := by unfold wakeE; rw [ce_upd ht]; rfl
  rcases ce_put hw hp with ⟨rfl, rfl, _, _⟩ | ⟨hy, hn, he⟩
  · exact ⟨Later.set (t' := { cor t with state := 0 }) (cs_get ht) hl rfl rfl (by rw [hwc]) (by rw [hwc]), _, hw, rfl⟩
  · have hcs : E2.ce.cs = E.ce.cs.set j { cor t with state := 0, vals := updT t.vals t.wk (some t.wv) } := by
      rw [he, hwc]
      simp [cor]
    obtain ⟨u, hu, e⟩ := cs_of (E := E2) (i := j) (by rw [hcs]; exact set_same (cs_get ht))
    exact ⟨Later.set (t' := { cor t with state := 0, vals := updT t.vals t.wk (some t.wv) }) (cs_get ht) hl rfl rfl hcs (by rw [he, hwc]), u, hu, by have := congrArg Cor.state e; exact this⟩
theorem later_gone {E : Eng} {i : Nat} {t : Tx} (ht : E.txs[i]? = some t) (hl : liveB t.state = true) (why : Int) : Later E.ce (overE (loseE E i why) i 3).ce := by
  obtain ⟨u, hu, e⟩ := lose_get (why := why) ht
  rw [ce_over hu, e, ce_lose]
  exact Later.set (t' := { cor t with state := 3 }) (cs_get ht) hl rfl rfl rfl rfl
theorem later_commit {E : Eng} {i : Nat} {t : Tx} (ht : E.txs[i]? = some t) (hl : liveB t.state = true) : Later E.ce (overE { (installE E i) with com := E.com ++ [i] } i 2).ce := by
  have h1 : (installE E i).txs = E.txs := by
    unfold installE
    split
    · split <;> rfl
    · rfl
  have ht' : ({ (installE E i) with com := E.com ++ [i] } : Eng).txs[i]? = some t := by show (installE E i).txs[i]? = _; rw [h1]; exact ht
  rw [ce_over ht']
  refine ⟨fun j u hu => ?_, [i], rfl⟩
  show ∃ t', (((installE E i).txs.map cor).set i { cor t with state := 2 })[j]? = some t' ∧ _
  rw [h1]
  by_cases e : j = i
  · subst e
    rw [cs_get ht] at hu
    cases hu
    exact ⟨_, set_same (cs_get ht), rfl, rfl, fun h => by rw [show (cor t).state = t.state from rfl, hl] at h; cases h⟩
  · exact ⟨u, by rw [set_ne e]; exact hu, rfl, rfl, fun _ => rfl⟩
theorem later_begin (E : Eng) (x : Tx) : Later E.ce ({ E with txs := E.txs ++ [x] } : Eng).ce := by
  refine ⟨fun i t ht => ?_, [], by simp [Eng.ce]⟩
  obtain ⟨u, hu, rfl⟩ := cs_of ht
  refine ⟨cor u, cs_get ?_, rfl, rfl, fun _ => rfl⟩
  show (E.txs ++ [x])[i]? = some u
  rw [List.getElem?_append_left (List.getElem?_eq_some_iff.1 hu).1]
  exact hu
theorem goes_later (a0 : Int) (K0 : Int → Option Int) (C : CE) : Goes a0 K0 (fun E _ => Later C E.ce) := by
  refine ⟨fun E Q j E2 hM hP hq hp => ?_, fun E Q j why E2 hM hP hq hp hy => ?_⟩
  · obtain ⟨u, hu, h1, _⟩ := hM.loc.pend j hq
    obtain ⟨t, ht, rfl⟩ := cs_of hu
    exact hP.trans (later_put ht (live_iff.2 (.inr h1)) hp).1
  · obtain ⟨u, hu, h1, _⟩ := hM.loc.pend j hq
    obtain ⟨t, ht, rfl⟩ := cs_of hu
    obtain ⟨h2, v, hv, h3⟩ := later_put ht (live_iff.2 (.inr h1)) hp
    exact (hP.trans h2).trans (later_gone hv (live_iff.2 (.inl h3)) why)

def OwnOk (own : Nat → Int → Option Int) (C : CE) : Prop := ∀ (i : Nat) (t : Cor), C.cs[i]? = some t → liveB t.state = true → own i = if t.state = 1 then updT t.vals t.wk (some t.wv) else t.vals
theorem own_other {own : Nat → Int → Option Int} {C C' : CE} {i : Nat} {t' : Cor} (h : OwnOk own C) (hc : C'.cs = C.cs.set i t') (ht : liveB t'.state = true → own i = if t'.state = 1 then updT t'.vals t'.wk (some t'.wv) else t'.vals) : OwnOk own C' := by
  intro j u hu hl
  rw [hc] at hu
  rcases set_cases hu with ⟨rfl, rfl⟩ | ⟨_, hu⟩
  · exact ht hl
  · exact h j u hu hl
theorem own_gone {own : Nat → Int → Option Int} {E : Eng} {i : Nat} {t : Tx} (ht : E.txs[i]? = some t) (h : OwnOk own E.ce) (why : Int) : OwnOk own (overE (loseE E i why) i 3).ce := by
  obtain ⟨u, hu, e⟩ := lose_get (why := why) ht
  rw [ce_over hu, e, ce_lose]
  exact own_other (t' := { cor t with state := 3 }) h rfl (fun h => by cases h)
theorem own_put {own : Nat → Int → Option Int} {E E2 : Eng} {j : Nat} {t : Tx} (ht : E.txs[j]? = some t) (hs : t.state = 1) (h : OwnOk own E.ce) {why : Int} (hp : putE (wakeE E j) j = (why, E2)) : (∃ u, E2.txs[j]? = some u ∧ u.state = 0) ∧ (∀ m, m ≠ j → E2.ce.cs[m]? = E.ce.cs[m]?) ∧ (why = 0 → OwnOk own E2.ce) := by
  have hw : (wakeE E j).txs[j]? = some { t with state := 0 } := by unfold wakeE; rw [Eng.upd_some ht]; exact setTx_get ht
  have hwc : (wakeE E j).ce = { E.ce with cs := E.ce.cs.set j { cor t with state := 0 } } := by unfold wakeE; rw [ce_upd ht]; rfl
  have hown := h j _ (cs_get ht) (live_iff.2 (.inr hs))
  rcases ce_put hw hp with ⟨rfl, rfl, _, _⟩ | ⟨hy, hn, he⟩
  · exact ⟨⟨_, hw, rfl⟩, fun m hm => by rw [hwc]; exact set_ne hm, fun h => by omega⟩
  · have hcs : E2.ce.cs = E.ce.cs.set j { cor t with state := 0, vals := updT t.vals t.wk (some t.wv) } := by
      rw [he, hwc]
      simp [cor]
    obtain ⟨u, hu, e⟩ := cs_of (E := E2) (i := j) (by rw [hcs]; exact set_same (cs_get ht))
    refine ⟨⟨u, hu, by have := congrArg Cor.state e; exact this⟩, fun m hm => by rw [hcs]; exact set_ne hm, fun _ => own_other h hcs (fun _ => ?_)⟩
    rw [hown, if_pos (show (cor t).state = 1 from hs), if_neg (show ¬ (0 : Int) = 1 by omega)]
    rfl
theorem own_gone2 {own : Nat → Int → Option Int} {E E2 : Eng} {j : Nat} {u : Tx} (hu : E2.txs[j]? = some u) (h : OwnOk own E.ce) (hk : ∀ m, m ≠ j → E2.ce.cs[m]? = E.ce.cs[m]?) (why : Int) : OwnOk own (overE (loseE E2 j why) j 3).ce := by
  obtain ⟨v, hv, e⟩ := lose_get (why := why) hu
  rw [ce_over hv, e, ce_lose]
  intro m t hm hl
  rcases set_cases hm with ⟨_, rfl⟩ | ⟨hne, hm⟩
  · cases hl
  · exact h m t ((hk m hne).symm.trans hm) hl
theorem goes_own (a0 : Int) (K0 : Int → Option Int) (own : Nat → Int → Option Int) : Goes a0 K0 (fun E _ => OwnOk own E.ce) := by
  refine ⟨fun E Q j E2 hM hP hq hp => ?_, fun E Q j why E2 hM hP hq hp hy => ?_⟩
  · obtain ⟨u, hu, h1, _⟩ := hM.loc.pend j hq
    obtain ⟨t, ht, rfl⟩ := cs_of hu
    exact (own_put ht h1 hP hp).2.2 rfl
  · obtain ⟨u, hu, h1, _⟩ := hM.loc.pend j hq
    obtain ⟨t, ht, rfl⟩ := cs_of hu
    obtain ⟨⟨v, hv, _⟩, hk, _⟩ := own_put ht h1 hP hp
    exact own_gone2 hv hP hk why

def ReadsTo (n : Nat) (E : Eng) : Prop := ∀ t ∈ E.txs, t.reads.length ≤ n

end Go.Proofs.YtjefgmeejhakbaaGreatDoor

/- Plain: an engine and its tale go on as they should: what each one reads is what it should. -/
namespace Go.Proofs.YtjefgmeejhakbaaGreatDoor

def valOr (o : Option (Int × Int)) : Int := match o with
  | some p => p.2
  | none => -1
theorem find_allK (f : Nat → Option (Int × Int)) (k : Int) : ∀ m : Nat, (allK f m).find? (fun p => p.1 == k) = if 0 ≤ k ∧ k < m then (f k.toNat).map (fun p => (k, p.2)) else none
  | 0 => by rw [if_neg (by omega)]; rfl
  | m + 1 => by
    rw [allK, List.find?_append, find_allK f k m]
    by_cases h1 : 0 ≤ k ∧ k < m
    · rw [if_pos h1, if_pos (by omega)]
      cases hf : f k.toNat with
      | some p => rfl
      | none =>
        simp only [Option.map_none, Option.none_or]
        cases hm : f m with
        | none => rfl
        | some p =>
          have : ((m : Int) == k) = false := by simp; omega
          simp [this]
    · rw [if_neg h1]
      by_cases h2 : k = m
      · subst h2
        rw [if_pos (by omega)]
        simp only [Int.toNat_natCast, Option.none_or]
        cases hm : f m with
        | none => rfl
        | some p => simp
      · rw [if_neg (by omega)]
        simp only [Option.none_or]
        cases hm : f m with
        | none => rfl
        | some p =>
          have : ((m : Int) == k) = false := by simp; omega
          simp [this]
theorem of_all (E : Eng) {k : Int} (hk : 0 ≤ k ∧ k < 10) : ofP (allE E) k = valOr (rdP E.last (E.ks[k.toNat]?.getD [])) := by
  unfold ofP allE
  rw [find_allK, if_pos (by omega)]
  cases rdP E.last (E.ks[k.toNat]?.getD []) <;> rfl
theorem of_writes {V : Int → Option Int} (hV : ∀ k, V k ≠ none → 0 ≤ k ∧ k < 10) (k : Int) : (writesP V).find? (fun p => p.1 == k) = (V k).map (fun x => (k, x)) := by
  unfold writesP
  rw [List.find?_map]
  have key : ∀ l : List Int, l.find? (fun x => x == k) = if k ∈ l then some k else none := by
    intro l
    induction l with
    | nil => rfl
    | cons x r ih =>
      rw [List.find?_cons]
      by_cases e : x = k
      · subst e; simp
      · have : (x == k) = false := by simpa using e
        rw [this, ih]
        have e' : ¬ k = x := fun h => e h.symm
        simp [e']
  show Option.map _ ((keysOf V).find? (fun x => x == k)) = _
  rw [key]
  cases hv : V k with
  | none => rw [if_neg (fun hm => by rw [mem_keysOf hV, hv] at hm; cases hm)]; rfl
  | some x => rw [if_pos ((mem_keysOf hV k).2 (by rw [hv]; rfl))]; simp [hv]

abbrev full0 (C : CE) (a : Int) : List (Int × Int) := full 0 (fun _ => none) C a
abbrev Mid0 (E : Eng) : Prop := Mid 0 (fun _ => none) E.ce noQ
theorem Mid.rd_full {a0 : Int} {K0 : Int → Option Int} {E : Eng} {Q : Nat → Prop} (h : Mid a0 K0 E.ce Q) {k u : Int} (hk : 0 ≤ k ∧ k < 10) (hu : E.ce.Sees u) : rdP u (E.ks[k.toNat]?.getD []) = rdP u (full a0 K0 E.ce k) := by
  obtain ⟨d, h1, h3, h4⟩ := h.com.kss k.toNat (by omega)
  have hk' : ((k.toNat : Nat) : Int) = k := by omega
  rw [hk'] at h1 h3 h4
  have h3' : E.ks[k.toNat]? = some ((full a0 K0 E.ce k).drop d) := h3
  rw [h3']
  exact rdP_drop _ _ _ (h4 u hu)

structure Tells (E : Eng) (t : Tal) : Prop where
  mid : Mid0 E
  llev : t.level.length = E.txs.length
  lsnap : t.snap.length = E.txs.length
  lown : t.own.length = E.txs.length
  lreads : t.reads.length = E.txs.length
  lbegun : t.begun.length = E.txs.length
  lover : t.over.length = E.txs.length
  lev : ∀ (i : Nat) (u : Tx), E.txs[i]? = some u → t.level[i]? = some u.level
  own : OwnOk (ownT t) E.ce
  snap : ∀ (i : Nat) (u : Tx), E.txs[i]? = some u → ∀ k, 0 ≤ k ∧ k < 10 → ofP (t.snap[i]?.getD []) k = valOr (rdP u.start (full0 E.ce k))
  ok : t.broken = false
  num : 0 ≤ t.n ∧ t.n ≤ t.steps
  ovr : ∀ o ∈ t.over, o ≤ t.steps
  ovp : ∀ o ∈ t.over, 0 ≤ o
  ovn : ∀ (k : Nat) (u : Tx), E.txs[k]? = some u → 2 ≤ u.state → 0 < t.over[k]?.getD 0
  bgn : ∀ o ∈ t.begun, 0 < o ∧ o ≤ t.steps
  ord : ∀ (i k : Nat) (u : Tx) (c : Int), E.txs[i]? = some u → E.wr c = some ((k : Int) + 1) → c ≤ u.start → t.over[k]?.getD 0 < t.begun[i]?.getD 0
  mono : ∀ (i k : Nat) (u v : Tx), k ≤ i → E.txs[k]? = some v → E.txs[i]? = some u → v.start ≤ u.start
  late : ∀ (c : Int) (i : Nat) (u : Tx), E.wr c = some ((i : Int) + 1) → E.txs[i]? = some u → u.start < c
  rds : ∀ (i : Nat) (u : Tx) (l : List (Int × Int)), E.txs[i]? = some u → u.level ≠ 0 → t.reads[i]? = some l → ∀ p ∈ l, (0 ≤ p.1 ∧ p.1 < 10) ∧ p.2 = valOr (rdP u.start (full0 E.ce p.1))

section
variable {E E' : Eng} {t t' : Tal}
theorem later_len {C C' : CE} (h : Later C C') : C.cs.length ≤ C'.cs.length := by
  rcases Nat.eq_zero_or_pos C.cs.length with h0 | h0
  · omega
  · obtain ⟨u, hu, _⟩ := h.keep (C.cs.length - 1) C.cs[C.cs.length - 1] (List.getElem?_eq_getElem _)
    have := (List.getElem?_eq_some_iff.1 hu).1
    omega
theorem Later.tx (h : Later E.ce E'.ce) (hl : E'.txs.length = E.txs.length) {i : Nat} {u' : Tx} (hu : E'.txs[i]? = some u') : ∃ u, E.txs[i]? = some u ∧ u'.level = u.level ∧ u'.start = u.start := by
  have hi : i < E.txs.length := by rw [← hl]; exact (List.getElem?_eq_some_iff.1 hu).1
  have hu0 : E.txs[i]? = some E.txs[i] := List.getElem?_eq_getElem hi
  obtain ⟨c, hc, h1, h2, _⟩ := h.keep i _ (cs_get hu0)
  rw [cs_get hu] at hc
  cases hc
  exact ⟨_, hu0, h1, h2⟩
theorem over_le {E : Eng} {s : Int} {j : Nat} {l : List Int} (h : ∀ o ∈ l, o ≤ s) : ∀ o ∈ overTo E s j l, o ≤ s := fun o ho => by
  unfold overTo at ho
  obtain ⟨i, hi, rfl⟩ := List.mem_mapIdx.1 ho
  split
  · exact Int.le_refl _
  · exact h _ (List.getElem_mem _)
theorem over_get (E : Eng) (s : Int) (j : Nat) (l : List Int) (i : Nat) : (overTo E s j l)[i]? = (l[i]?).map (fun o => if i < j ∧ o = 0 ∧ overB E i = true then s else o) := by
  unfold overTo
  rw [List.getElem?_mapIdx]
theorem Tells.go (h : Tells E t) (hM : Mid0 E') (hL : Later E.ce E'.ce) (hlen : E'.txs.length = E.txs.length) {own' : List (Int → Option Int)} {reads' : List (List (Int × Int))} {n' : Int} (hown : OwnOk (fun i => own'[i]?.getD (fun _ => none)) E'.ce) (ho : own'.length = t.own.length) (hr : reads'.length = t.reads.length)
    (hrd : ∀ (i : Nat) (u : Tx) (l : List (Int × Int)), E.txs[i]? = some u → u.level ≠ 0 → reads'[i]? = some l → ∀ p ∈ l, (0 ≤ p.1 ∧ p.1 < 10) ∧ p.2 = valOr (rdP u.start (full0 E.ce p.1))) (hn : 0 ≤ n' ∧ n' ≤ t.steps + 1) (hlate : ∀ c, E.last < c → E'.wr c ≠ none → ∀ (i : Nat) (u : Tx), E.txs[i]? = some u → u.start < c) :
    Tells E' (endT E' { t with own := own', reads := reads', n := n', steps := t.steps + 1, broken := false }) := by
  have hC := h.mid.com
  have hC' := hM.com
  have hst : ∀ (i : Nat) (u : Tx), E.txs[i]? = some u → u.start ≤ E.ce.last := fun i u hu => (hC.start i _ (cs_get hu)).2
  have hwr : ∀ c, c ≤ E.last → E'.wr c = E.wr c := fun c hc => hL.wr hC hC' hc
  refine ⟨hM, h.llev.trans hlen.symm, h.lsnap.trans hlen.symm, ho.trans (h.lown.trans hlen.symm), hr.trans (h.lreads.trans hlen.symm), h.lbegun.trans hlen.symm, ?_, fun i u hu => ?_, hown, fun i u hu k hk => ?_, rfl, hn, ?_, ?_, fun k u hu h2 => ?_, fun o ho => ?_, fun i k u c hu hc hcs => ?_, fun i k u v hki hv hu => ?_, fun c i u hc hu => ?_, fun i u l hu hlv hl p hp => ?_⟩
  · show (overTo E' (t.steps + 1) t.over.length t.over).length = _
    unfold overTo
    rw [List.length_mapIdx]
    exact h.lover.trans hlen.symm
  · obtain ⟨v, hv, e1, _⟩ := hL.tx hlen hu
    rw [e1]
    exact h.lev i v hv
  · obtain ⟨v, hv, _, e2⟩ := hL.tx hlen hu
    rw [e2]
    show ofP (t.snap[i]?.getD []) k = _
    rw [h.snap i v hv k hk, hL.rd hC k (hst i v hv)]
  · exact over_le (fun o ho => by have := h.ovr o ho; show o ≤ t.steps + 1; omega)
  · intro o ho
    have hnum := h.num
    obtain ⟨i, hi, rfl⟩ := List.mem_mapIdx.1 (show o ∈ t.over.mapIdx _ from ho)
    split
    · show 0 ≤ t.steps + 1
      omega
    · exact h.ovp _ (List.getElem_mem _)
  · show 0 < (overTo E' (t.steps + 1) t.over.length t.over)[k]?.getD 0
    have hk : k < t.over.length := by rw [h.lover, ← hlen]; exact (List.getElem?_eq_some_iff.1 hu).1
    rw [over_get, List.getElem?_eq_getElem hk]
    simp only [Option.map_some, Option.getD_some]
    have hov : overB E' k = true := by unfold overB; rw [hu]; simpa using h2
    have hnum := h.num
    by_cases ho : t.over[k] = 0
    · rw [if_pos ⟨hk, ho, hov⟩]; omega
    · rw [if_neg (fun hc => ho hc.2.1)]
      have hpos := h.ovp t.over[k] (List.getElem_mem _)
      omega
  · have := h.bgn o ho
    exact ⟨this.1, by show o ≤ t.steps + 1; omega⟩
  · obtain ⟨v, hv, _, e2⟩ := hL.tx hlen hu
    rw [e2] at hcs
    have hle : c ≤ E.last := Int.le_trans hcs (hst i v hv)
    rw [hwr c hle] at hc
    have h1 := h.ord i k v c hv hc hcs
    show (overTo E' (t.steps + 1) t.over.length t.over)[k]?.getD 0 < t.begun[i]?.getD 0
    rw [over_get]
    cases hk : t.over[k]? with
    | none => rw [hk] at h1; exact h1
    | some o =>
      rw [hk] at h1
      simp only [Option.map_some, Option.getD_some] at h1 ⊢
      split
      · rename_i hx
        obtain ⟨w, hw, hw2⟩ := (hC.coms k).1 (List.mem_filter.1 (hC.wr_com hc)).1
        obtain ⟨x, hx2, e⟩ := cs_of hw
        have h3 : x.state = 2 := by have := congrArg Cor.state e; exact this.trans hw2
        have := h.ovn k x hx2 (by omega)
        rw [hk] at this
        simp only [Option.getD_some] at this
        omega
      · exact h1
  · obtain ⟨u0, hu0, _, e1⟩ := hL.tx hlen hu
    obtain ⟨v0, hv0, _, e2⟩ := hL.tx hlen hv
    rw [e1, e2]
    exact h.mono i k u0 v0 hki hv0 hu0
  · obtain ⟨v, hv, _, e2⟩ := hL.tx hlen hu
    rw [e2]
    by_cases hle : c ≤ E.last
    · rw [hwr c hle] at hc
      exact h.late c i v hc hv
    · exact hlate c (by omega) (by rw [hc]; exact nofun) i v hv
  · obtain ⟨v, hv, e1, e2⟩ := hL.tx hlen hu
    rw [e1] at hlv
    rw [e2, hL.rd hC p.1 (hst i v hv)]
    exact hrd i v l hv hlv hl p hp
end

end Go.Proofs.YtjefgmeejhakbaaGreatDoor

/- The writers of all keys in memory; (*writers).add. -/
namespace Go.Proofs.YtjefgmeejhakbaaGreatDoor
open Go.RowKit

def updN {α : Type} (f : Nat → α) (k : Nat) (v : α) : Nat → α := fun j => if j = k then v else f j
theorem updN_same {α : Type} (f : Nat → α) (k : Nat) (v : α) : updN f k v k = v := by simp [updN]
theorem updN_other {α : Type} (f : Nat → α) {k j : Nat} (v : α) (h : j ≠ k) : updN f k v j = f j := by simp [updN, h]

def keyCells (av : Nat → Value) (mv : Nat → Option Nat) : Array Value := Array.ofFn (n := 20) (fun i => if i.val % 2 = 0 then av (i.val / 2) else .map (mv (i.val / 2)))
theorem keyCells_size (av : Nat → Value) (mv : Nat → Option Nat) : (keyCells av mv).size = 20 := by simp [keyCells]
theorem keyCells_even (av : Nat → Value) (mv : Nat → Option Nat) {k : Nat} (hk : k < 10) : (keyCells av mv)[k * 2]? = some (av k) := by
  simp [keyCells, show k * 2 < 20 by omega]
theorem keyCells_odd (av : Nat → Value) (mv : Nat → Option Nat) {k : Nat} (hk : k < 10) : (keyCells av mv)[k * 2 + 1]? = some (.map (mv k)) := by
  simp [keyCells, show k * 2 + 1 < 20 by omega, show (k * 2 + 1) / 2 = k by omega, show (k * 2 + 1) % 2 = 1 by omega]
theorem keyCells_get (av : Nat → Value) (mv : Nat → Option Nat) (i : Nat) : (keyCells av mv)[i]? = if i < 20 then some (if i % 2 = 0 then av (i / 2) else .map (mv (i / 2))) else none := by
  unfold keyCells
  rw [Array.getElem?_ofFn]
  by_cases h : i < 20 <;> simp [h]
theorem keyCells_setA (av : Nat → Value) (mv : Nat → Option Nat) (k : Nat) (a : Value) : (keyCells av mv).setIfInBounds (k * 2) a = keyCells (updN av k a) mv := by
  apply Array.ext_getElem?
  intro i
  rw [Array.getElem?_setIfInBounds, keyCells_get, keyCells_get, keyCells_size]
  unfold updN
  by_cases e : k * 2 = i
  · subst e
    by_cases h : k * 2 < 20 <;> simp [h]
  · rw [if_neg e]
    by_cases h : i < 20
    · rw [if_pos h, if_pos h]
      by_cases e2 : i % 2 = 0
      · rw [if_pos e2, if_pos e2, if_neg (by omega)]
      · rw [if_neg e2, if_neg e2]
    · rw [if_neg h, if_neg h]
theorem keyCells_setM (av : Nat → Value) (mv : Nat → Option Nat) (k : Nat) (m : Option Nat) : (keyCells av mv).setIfInBounds (k * 2 + 1) (.map m) = keyCells av (updN mv k m) := by
  apply Array.ext_getElem?
  intro i
  rw [Array.getElem?_setIfInBounds, keyCells_get, keyCells_get, keyCells_size]
  unfold updN
  by_cases e : k * 2 + 1 = i
  · subst e
    by_cases h : k * 2 + 1 < 20
    · rw [if_pos rfl, if_pos h, if_pos h, if_neg (by omega), if_pos (by omega)]
    · rw [if_pos rfl, if_neg h, if_neg h]
  · rw [if_neg e]
    by_cases h : i < 20
    · rw [if_pos h, if_pos h]
      by_cases e2 : i % 2 = 0
      · rw [if_pos e2, if_pos e2]
      · rw [if_neg e2, if_neg e2, if_neg (by omega)]
    · rw [if_neg h, if_neg h]

structure KeysAt (w : World) (K : Nat) (av : Nat → Value) (mv : Nat → Option Nat) (S : Nat → List Int) : Prop where
  blk : w.heap[K]? = some (.cells (keyCells av mv) 133 (0, 0))
  row : ∀ k, k < 10 → w.ownsRow 0 3 1 (av k) (S k).length (intsV (S k))
  map : ∀ k, k < 10 → MapIs w (mv k) (S k).length (firstV (S k))
  nil : ∀ k, k < 10 → (mv k = none ↔ S k = [])
  ap : ∀ i j g, i < 10 → j < 10 → (av i).ownBlock = some g → (av j).ownBlock = some g → i = j
  am : ∀ i j b, i < 10 → j < 10 → mv i = some b → mv j = some b → i = j
def keysOwn (K : Nat) (av : Nat → Value) (mv : Nat → Option Nat) (b : Nat) : Prop := b = K ∨ ∃ k, k < 10 ∧ ((av k).ownBlock = some b ∨ mv k = some b)

section
variable {w w' : World} {K : Nat} {av : Nat → Value} {mv : Nat → Option Nat} {S : Nat → List Int}
theorem KeysAt.lt (h : KeysAt w K av mv S) : K < w.heap.size := (Array.getElem?_eq_some_iff.1 h.blk).1
theorem KeysAt.rowIs (h : KeysAt w K av mv S) {k g : Nat} (hk : k < 10) (hg : (av k).ownBlock = some g) : ∃ cur, w.heap[g]? = some (.cells cur 3 (0, 0)) := by
  rcases (h.row k hk).2 with ⟨e, _⟩ | ⟨g', cap, cur, e, _, hc, _⟩
  · rw [e] at hg; cases hg
  · rw [e] at hg; cases hg; exact ⟨cur, hc⟩
theorem KeysAt.rowNe (h : KeysAt w K av mv S) {k : Nat} (hk : k < 10) : (av k).ownBlock ≠ some K := fun e => by
  obtain ⟨cur, hc⟩ := h.rowIs hk e
  rw [h.blk] at hc
  simp at hc
theorem KeysAt.mapNe (h : KeysAt w K av mv S) {k : Nat} (hk : k < 10) : mv k ≠ some K := (h.map k hk).ne h.blk
theorem KeysAt.mapRow (h : KeysAt w K av mv S) {k j g : Nat} (hk : k < 10) (hj : j < 10) (hg : (av k).ownBlock = some g) : mv j ≠ some g := by
  obtain ⟨cur, hc⟩ := h.rowIs hk hg
  exact (h.map j hj).ne hc
theorem KeysAt.own_lt (h : KeysAt w K av mv S) {b : Nat} (hb : keysOwn K av mv b) : b < w.heap.size := by
  rcases hb with rfl | ⟨k, hk, e | e⟩
  · exact h.lt
  · exact ((h.row k hk).lt b e).2
  · exact (h.map k hk).lt e
theorem KeysAt.same (h : KeysAt w K av mv S) (hs : ∀ b, keysOwn K av mv b → w'.heap[b]? = w.heap[b]?) : KeysAt w' K av mv S :=
  ⟨(hs K (.inl rfl)).trans h.blk, fun k hk => owns_same (h.row k hk) (fun g e => hs g (.inr ⟨k, hk, .inl e⟩)), fun k hk => (h.map k hk).same (fun b e => hs b (.inr ⟨k, hk, .inr e⟩)), h.nil, h.ap, h.am⟩
theorem KeysAt.below (h : KeysAt w K av mv S) (hB : Below w.heap.size w w') : KeysAt w' K av mv S := h.same (fun b hb => hB.block b (h.own_lt hb))
theorem KeysAt.c0 (h : KeysAt w K av mv S) {k : Nat} (hk : k < 10) : w.cell? ⟨K, k * 2, none⟩ = some (av k) := (cell_of_row w K (k * 2) _ _ (0, 0) h.blk).trans (keyCells_even av mv hk)
theorem KeysAt.c1 (h : KeysAt w K av mv S) {k : Nat} (hk : k < 10) : w.cell? ⟨K, k * 2 + 1, none⟩ = some (.map (mv k)) := (cell_of_row w K (k * 2 + 1) _ _ (0, 0) h.blk).trans (keyCells_odd av mv hk)
theorem KeysAt.free (h : KeysAt w K av mv S) (j : Nat) : w.frozen? ⟨K, j, none⟩ = false := by simp [World.frozen?, h.blk]
theorem KeysAt.at (h : KeysAt w K av mv S) {k : Nat} (hk : k < 10) : WrAt w K (k * 2) (av k) (mv k) (S k) := ⟨h.c0 hk, h.c1 hk, h.row k hk, h.map k hk⟩
theorem KeysAt.turn (h : KeysAt w K av mv S) {k : Nat} (hk : k < 10) {a : Value} {m : Option Nat} {s : List Int} (hb : w'.heap[K]? = some (.cells (keyCells (updN av k a) (updN mv k m)) 133 (0, 0)))
    (ho : w'.ownsRow 0 3 1 a s.length (intsV s)) (hm : MapIs w' m s.length (firstV s)) (hn : m = none ↔ s = [])
    (hf : ∀ b, b < w.heap.size → b ≠ K → (av k).ownBlock ≠ some b → mv k ≠ some b → w'.heap[b]? = w.heap[b]?) (hsz : w.heap.size ≤ w'.heap.size) (hos : w'.os = w.os ∧ w'.tape = w.tape ∧ w'.output = w.output)
    (ha : ∀ g, a.ownBlock = some g → (av k).ownBlock = some g ∨ w.heap.size ≤ g) (hmm : ∀ b, m = some b → mv k = some b ∨ w.heap.size ≤ b) :
    KeysAt w' K (updN av k a) (updN mv k m) (updN S k s) ∧ KeptO (keysOwn K av mv) (keysOwn K (updN av k a) (updN mv k m)) w w' := by
  refine ⟨⟨hb, fun j hj => ?_, fun j hj => ?_, fun j hj => ?_, fun i j g hi hj h1 h2 => ?_, fun i j b hi hj h1 h2 => ?_⟩, ⟨hos.1, hos.2.1, hos.2.2, hsz, fun b hbl hno => ?_, fun b hb => ?_⟩⟩
  · by_cases e : j = k
    · subst e; rw [updN_same, updN_same]; exact ho
    · rw [updN_other _ _ e, updN_other _ _ e]
      refine owns_same (h.row j hj) (fun g hg => hf g ((h.row j hj).lt g hg).2 (fun e2 => h.rowNe hj (e2 ▸ hg)) (fun e2 => e (h.ap j k g hj hk hg e2)) (h.mapRow hj hk hg))
  · by_cases e : j = k
    · subst e; rw [updN_same, updN_same]; exact hm
    · rw [updN_other _ _ e, updN_other _ _ e]
      refine (h.map j hj).same (fun b hb => hf b ((h.map j hj).lt hb) (fun e2 => h.mapNe hj (e2 ▸ hb)) (fun e2 => h.mapRow hk hj e2 hb) (fun e2 => e (h.am j k b hj hk hb e2)))
  · by_cases e : j = k
    · subst e; rw [updN_same, updN_same]; exact hn
    · rw [updN_other _ _ e, updN_other _ _ e]; exact h.nil j hj
  · by_cases e1 : i = k
    · by_cases e2 : j = k
      · omega
      · subst e1
        rw [updN_same] at h1
        rw [updN_other _ _ e2] at h2
        rcases ha g h1 with h3 | h3
        · exact (h.ap j i g hj hk h2 h3).symm
        · have := ((h.row j hj).lt g h2).2; omega
    · by_cases e2 : j = k
      · subst e2
        rw [updN_same] at h2
        rw [updN_other _ _ e1] at h1
        rcases ha g h2 with h3 | h3
        · exact h.ap i j g hi hk h1 h3
        · have := ((h.row i hi).lt g h1).2; omega
      · rw [updN_other _ _ e1] at h1
        rw [updN_other _ _ e2] at h2
        exact h.ap i j g hi hj h1 h2
  · by_cases e1 : i = k
    · by_cases e2 : j = k
      · omega
      · subst e1
        rw [updN_same] at h1
        rw [updN_other _ _ e2] at h2
        rcases hmm b h1 with h3 | h3
        · exact (h.am j i b hj hk h2 h3).symm
        · have := (h.map j hj).lt h2; omega
    · by_cases e2 : j = k
      · subst e2
        rw [updN_same] at h2
        rw [updN_other _ _ e1] at h1
        rcases hmm b h2 with h3 | h3
        · exact h.am i j b hi hk h1 h3
        · have := (h.map i hi).lt h1; omega
      · rw [updN_other _ _ e1] at h1
        rw [updN_other _ _ e2] at h2
        exact h.am i j b hi hj h1 h2
  · exact hf b hbl (fun e => hno (.inl e)) (fun e => hno (.inr ⟨k, hk, .inl e⟩)) (fun e => hno (.inr ⟨k, hk, .inr e⟩))
  · rcases hb with e | ⟨j, hj, e | e⟩
    · exact .inl (.inl e)
    · by_cases ej : j = k
      · subst ej
        rw [updN_same] at e
        rcases ha b e with e | e
        · exact .inl (.inr ⟨j, hj, .inl e⟩)
        · exact .inr e
      · rw [updN_other _ _ ej] at e
        exact .inl (.inr ⟨j, hj, .inl e⟩)
    · by_cases ej : j = k
      · subst ej
        rw [updN_same] at e
        rcases hmm b e with e | e
        · exact .inl (.inr ⟨j, hj, .inr e⟩)
        · exact .inr e
      · rw [updN_other _ _ ej] at e
        exact .inl (.inr ⟨j, hj, .inr e⟩)
end

def wAdd (s : List Int) (x : Int) : List Int := if s.getLast? = some x then s else s ++ [x]

end Go.Proofs.YtjefgmeejhakbaaGreatDoor

/- From rows of one's own to the sort's words, and back. -/
namespace Go.Proofs.YtjefgmeejhakbaaGreatDoor
open Go.RowKit Go.Shelf Go.Lib Go.Sort

theorem putCells_id_size (F c : Array Value) : (putCells id 0 F c).size = c.size := by simp [putCells]
theorem putCells_take {F c : Array Value} (h : F.size ≤ c.size) : (putCells id 0 F c).toList.take F.size = F.toList := by
  apply List.ext_getElem?
  intro i
  rw [List.getElem?_take]
  by_cases hi : i < F.size
  · rw [if_pos hi]
    simp [putCells, hi, show i < c.size by omega]
  · rw [if_neg hi]
    simp [show F.size ≤ i by omega]
theorem heap_putRow_same {w : World} {g : Nat} {cur F : Array Value} {e : TypeId} (h : w.heap[g]? = some (.cells cur e (0, 0))) : (putRow id w g 0 F).heap[g]? = some (.cells (putCells id 0 F cur) e (0, 0)) := by
  simp [putRow, mapBlock, Array.getElem?_modify, h, onCells]
theorem heap_putRow_other {w : World} {g b : Nat} {F : Array Value} (h : b ≠ g) : (putRow id w g 0 F).heap[b]? = w.heap[b]? := by
  simp only [putRow, mapBlock, Array.getElem?_modify]
  rw [if_neg (fun e => h e.symm)]
theorem put_owns {w : World} {N : Nat} {e : TypeId} {size g n cap : Nat} {xs : List Value} (h : w.ownsRow N e size (.slice (some ⟨g, 0, none⟩) n cap) n xs) {F : Array Value} (hF : F.size = n * size) (q : Nat) (os : Array Obj) :
    (grow (putRow id (Sort.ahead w q) g 0 F) os).ownsRow N e size (.slice (some ⟨g, 0, none⟩) n cap) n F.toList ∧ w.grownBy (grow (putRow id (Sort.ahead w q) g 0 F) os) (some g) := by
  rcases h.2 with ⟨e1, _⟩ | ⟨g', cap', cur, e1, hb, hg, h1, h2, h3, h4⟩
  · cases e1
  · cases e1
    have hgl : g < w.heap.size := (Array.getElem?_eq_some_iff.1 hg).1
    have hg2 : (Sort.ahead w q).heap[g]? = some (.cells cur e (0, 0)) := hg
    refine ⟨⟨by simpa using hF, .inr ⟨g, cap, _, rfl, hb, (heap_grow_old _ os (by simpa using hgl)).trans (heap_putRow_same hg2), h1, h2, (putCells_id_size F cur).trans h3, ?_⟩⟩, ⟨rfl, rfl, rfl, by simp [Sort.ahead], fun b hbl hne => ?_⟩⟩
    · rw [← hF]
      exact putCells_take (by rw [hF, h3]; exact Nat.mul_le_mul_right size h1)
    · exact (heap_grow_old _ os (by simpa [Sort.ahead] using hbl)).trans (heap_putRow_other (fun e => hne (by rw [e])))
theorem holds_of_owns {w : World} {N : Nat} {e : TypeId} {size g n cap : Nat} {F : Array Value} (h : w.ownsRow N e size (.slice (some ⟨g, 0, none⟩) n cap) n F.toList) : Holds id w g 0 F := by
  intro j hj
  have hc := h.cells (g := g) rfl j F[j]! (by simp [hj])
  rw [addr_add] at hc
  rw [Nat.zero_add]
  refine ⟨hc, ?_⟩
  rcases h.2 with ⟨e1, _⟩ | ⟨g', cap', cur, e1, _, hg, _⟩
  · cases e1
  · cases e1
    simp [World.frozen?, hg]

def encW (x : Int × Int) : List Value := [.int .i64 x.1, .int .i64 x.2]
theorem flatW (d : Array (Int × Int)) : (flatK encW 2 d).toList = vrow d.toList := by
  apply List.ext_getElem?
  intro t
  have hl : (vrow d.toList).length = d.size * 2 := by rw [vrow_length, Array.length_toList]
  by_cases ht : t < d.size * 2
  · have hj : t / 2 < d.size := by omega
    obtain ⟨⟨a, b⟩, hab⟩ : ∃ x, d[t / 2]? = some x := ⟨d[t / 2], Array.getElem?_eq_getElem hj⟩
    have e1 : d[t / 2]! = (a, b) := by rw [getElem!_def, hab]
    obtain ⟨v1, v2⟩ := vrow_get d.toList (t / 2) a b (by rw [Array.getElem?_toList]; exact hab)
    have hf : (flatK encW 2 d)[t]? = some (encW d[t / 2]!)[t % 2]! := by
      rw [← get_flatK encW 2 d t ht, getElem!_pos _ t (by rw [size_flatK]; exact ht)]
      exact Array.getElem?_eq_getElem (by rw [size_flatK]; exact ht)
    rw [Array.getElem?_toList, hf, e1]
    rcases Nat.mod_two_eq_zero_or_one t with e | e
    · rw [e, show t = t / 2 * 2 by omega, v1]; rfl
    · rw [e, show t = t / 2 * 2 + 1 by omega, v2]; rfl
  · rw [List.getElem?_eq_none (by rw [Array.length_toList, size_flatK]; omega), List.getElem?_eq_none (by omega)]

theorem putRow_ints (w : World) (g : Nat) (d : Array Int) : putRow (Value.int .i64) w g 0 d = putRow id w g 0 (intsV d.toList).toArray := by
  unfold putRow
  refine mapBlock_congr _ _ _ _ fun c _ _ _ => ?_
  unfold putCells
  apply Array.ext_getElem?
  intro k
  rw [Array.getElem?_mapIdx, Array.getElem?_mapIdx]
  congr 1
  funext x
  have hz : (intsV d.toList).toArray.size = d.size := by simp [intsV]
  rw [hz]
  by_cases h : 0 ≤ k ∧ k < 0 + d.size
  · rw [if_pos h, if_pos h]
    have hk : k < d.size := by omega
    simp [intsV, hk]
  · rw [if_neg h, if_neg h]

end Go.Proofs.YtjefgmeejhakbaaGreatDoor
