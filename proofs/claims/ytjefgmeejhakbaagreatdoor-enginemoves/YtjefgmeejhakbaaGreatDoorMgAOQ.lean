/- EnStep EnStepB EnMovesP KtMem AnyInv: put together for a claim. -/
import Derived.Test.YtjefgmeejhakbaaGreatDoorMgANQ
import Derived.Deep.RegionHeld3
import Derived.Deep.Draws
/- Plain: what an engine's methods make of it, all that is asked of them being so. -/
namespace Go.Proofs.YtjefgmeejhakbaaGreatDoor
section
variable {a0 : Int} {K0 : Int → Option Int} {E E2 : Eng} {C : CE} {Q : Nat → Prop} {i j : Nat} {t : Tx} {why : Int}
theorem nodup_lt : ∀ (n : Nat) (l : List Nat), l.Nodup → (∀ x ∈ l, x < n) → l.length ≤ n
  | 0, [], _, _ => Nat.le_refl _
  | 0, x :: r, _, h => absurd (h x (List.mem_cons_self ..)) (by omega)
  | n + 1, l, hn, h => by
    have h1 := nodup_lt n (l.filter (fun x => x != n)) (hn.filter _) (fun x hx => by
      have h2 := List.mem_filter.1 hx
      have h3 := h x h2.1
      have h4 : x ≠ n := by simpa using h2.2
      omega)
    have h2 : l.length ≤ (l.filter (fun x => x != n)).length + 1 := by
      clear h1 h
      induction l with
      | nil => simp
      | cons x r ih =>
        have hn' := List.nodup_cons.1 hn
        have := ih hn'.2
        rw [List.filter_cons]
        by_cases e : x = n
        · subst e
          have : r.filter (fun y => y != x) = r := List.filter_eq_self.2 (fun y hy => by simp; rintro rfl; exact hn'.1 hy)
          simp [this]
        · rw [if_pos (by simpa using e)]
          simp only [List.length_cons]
          omega
    omega
theorem Mid.com_len (h : Mid a0 K0 C Q) : C.com.length ≤ 200 := by
  refine Nat.le_trans (nodup_lt C.cs.length _ h.com.comn (fun x hx => ?_)) h.reg.len
  obtain ⟨u, hu, _⟩ := (h.com.coms x).1 hx
  exact (List.getElem?_eq_some_iff.1 hu).1
theorem Mid.cw_len (h : Mid a0 K0 C Q) : C.cw.length ≤ 200 := Nat.le_trans (List.length_filter_le _ _) h.com_len
theorem Mid.last_le (h : Mid a0 K0 C Q) : 0 ≤ C.last ∧ C.last + 1 ≤ 1099511627776 := by
  have := h.com.lastc
  have := h.cw_len
  have := h.com.zero
  omega
theorem fullFrom_len (V : Nat → Int → Option Int) (a : Int) : ∀ (l : List Nat) (c : Int), (fullFrom V a c l).length ≤ l.length
  | [], _ => by simp [fullFrom]
  | i :: r, c => by
    have := fullFrom_len V a r (c + 1)
    rw [fullFrom]
    cases V i a <;> simp <;> omega
theorem Mid.full_len (h : Mid a0 K0 C Q) (a : Int) : (full a0 K0 C a).length ≤ 201 := by
  have h1 := fullFrom_len C.v a C.cw (a0 + 1)
  have h2 := h.cw_len
  unfold full
  rw [List.length_append]
  cases K0 a <;> simp <;> omega
theorem Mid.ks_of (h : Mid a0 K0 C Q) {l : List (Int × Int)} (hl : l ∈ C.ks) : ∃ (a d : Nat), a < 10 ∧ l = (full a0 K0 C a).drop d := by
  obtain ⟨a, ha, e⟩ := List.mem_iff_getElem.1 hl
  have h10 := h.com.ksl
  obtain ⟨d, _, h3, _⟩ := h.com.kss a (by omega)
  rw [List.getElem?_eq_getElem ha, e] at h3
  injection h3 with h3
  exact ⟨a, d, by omega, h3⟩
theorem Mid.fits (h : Mid a0 K0 E.ce Q) : Fits E := by
  refine ⟨fun l hl => ?_, fun l hl p hp => ?_⟩
  · obtain ⟨a, d, _, rfl⟩ := h.ks_of (C := E.ce) hl
    have := h.full_len (a : Int)
    rw [List.length_drop]
    omega
  · obtain ⟨a, d, _, rfl⟩ := h.ks_of (C := E.ce) hl
    have h1 := full_le h.com (List.mem_of_mem_drop hp)
    have := h.last_le
    have := h.com.zero
    unfold I64
    omega
theorem Mid.open_wr (h : Mid a0 K0 E.ce Q) (ht : E.txs[i]? = some t) (hl : liveB t.state = true) (a : Int) : E.wr a ≠ some ((i : Int) + 1) := fun e => by
  have h1 := h.com.wr_com (j := i) (c := a) e
  obtain ⟨u, hu, h2⟩ := (h.com.coms i).1 (List.mem_filter.1 h1).1
  rw [cs_get ht] at hu
  cases hu
  rcases live_iff.1 hl with e | e <;> simp [cor] at h2 <;> omega
theorem Mid.fine (h : Mid a0 K0 E.ce Q) (ht : E.txs[i]? = some t) : FineV t := fun k v hv => (h.reg.fair i _ (cs_get ht)).fin k v hv
theorem Mid.inst_ks (h : Mid a0 K0 E.ce Q) (i : Nat) : ∀ l ∈ (installE E i).ks, l.length ≤ 100000 := by
  have h1 := h.fits.len
  intro l hl
  unfold installE at hl
  split at hl
  · rename_i t ht
    split at hl
    · exact h1 l hl
    · have := instP_bound (E.last + 1) (writesP t.vals) E.ks 201 (fun l hl => by
        obtain ⟨a, d, _, rfl⟩ := h.ks_of (C := E.ce) hl
        have := h.full_len (a : Int)
        rw [List.length_drop]
        omega) l hl
      have := writesP_len t.vals
      omega
  · exact h1 l hl
theorem Mid.begin (h : Mid a0 K0 E.ce Q) {level : Int} (hlv : level = 0 ∨ level = 1 ∨ level = 2) (hl : E.txs.length < 200) (ho : E.ce.live < 6) : Mid a0 K0 ({ E with txs := E.txs ++ [newTx level E.last] } : Eng).ce Q := by
  have e : ({ E with txs := E.txs ++ [newTx level E.last] } : Eng).ce = { E.ce with cs := E.ce.cs ++ [cor (newTx level E.last)] } := by simp [Eng.ce]
  rw [e]
  refine ⟨h.loc.more rfl (fun _ => rfl), ⟨fun j u hu => ?_, ?_, by simp [Eng.ce]; omega⟩, h.com.more rfl (fun _ => rfl) rfl⟩
  · rw [List.getElem?_append] at hu
    split at hu
    · exact h.reg.fair j u hu
    · rw [List.getElem?_singleton] at hu
      split at hu
      · injection hu with hu
        rw [← hu]
        exact ⟨hlv, (by show (0 : Int) ≤ 0 ∧ (0 : Int) ≤ 3; omega), fun k hk => (hk rfl).elim, fun k v hk => (by cases hk), by simp [cor, newTx]⟩
      · cases hu
  · rw [List.countP_append]
    have h1 : [cor (newTx level E.last)].countP (fun t => liveB t.state) = 1 := rfl
    have h2 : E.ce.cs.countP (fun t => liveB t.state) = E.ce.live := rfl
    omega
theorem leastOf_le (E : Eng) : ∀ (js : List Nat) (m : Int), leastOf E js m ≤ m ∧ ∀ j ∈ js, ∀ t, E.txs[j]? = some t → t.level ≠ 0 → leastOf E js m ≤ t.start
  | [], m => ⟨Int.le_refl _, fun j hj => by cases hj⟩
  | j :: r, m => by
    have hstep : leastOf E (j :: r) m = leastOf E r (match E.txs[j]? with | some t => if t.level ≠ 0 then min m t.start else m | none => m) := rfl
    have h1 := leastOf_le E r (match E.txs[j]? with | some t => if t.level ≠ 0 then min m t.start else m | none => m)
    have h2 : (match E.txs[j]? with | some t => if t.level ≠ 0 then min m t.start else m | none => m) ≤ m := by
      split
      · split
        · exact Int.min_le_left _ _
        · exact Int.le_refl _
      · exact Int.le_refl _
    rw [hstep]
    refine ⟨Int.le_trans h1.1 h2, fun x hx t ht hlv => ?_⟩
    rcases List.mem_cons.1 hx with rfl | hx
    · refine Int.le_trans h1.1 ?_
      rw [ht]
      simp only [hlv, ne_eq, not_false_eq_true, if_true]
      exact Int.min_le_right _ _
    · exact h1.2 x hx t ht hlv
theorem mem_live {E : Eng} {i : Nat} {t : Tx} (ht : E.txs[i]? = some t) (hl : liveB t.state = true) : i ∈ liveOnes E := by
  unfold liveOnes thoseP
  have := (List.getElem?_eq_some_iff.1 ht).1
  refine List.mem_filter.2 ⟨List.mem_range.2 this, ?_⟩
  rw [ht]
  exact hl
theorem least_sees (E : Eng) {u : Int} (hu : E.ce.Sees u) : leastE E ≤ u := by
  unfold leastE
  have h1 := leastOf_le E (liveOnes E) E.last
  rcases hu with hu | ⟨j, x, hx, hxl, hxv, hxs⟩
  · exact Int.le_trans h1.1 hu
  · obtain ⟨t, ht, rfl⟩ := cs_of hx
    exact Int.le_trans (h1.2 j (mem_live ht hxl) t ht hxv) hxs
theorem Mid.sweep (h : Mid a0 K0 E.ce Q) : Mid a0 K0 (sweepE E).ce Q := ⟨h.loc, h.reg, h.com.sweep (fun _ hv => least_sees E hv)⟩
theorem live_len (E : Eng) : (liveOnes E).length = E.ce.live := by
  have key : ∀ (m : Nat) (l : List Tx), l.length = m → ((List.range l.length).filter (fun i => match l[i]? with | some t => liveB t.state | none => false)).length = l.countP (fun t => liveB t.state) := by
    intro m
    induction m with
    | zero => intro l h; rw [List.eq_nil_of_length_eq_zero h]; rfl
    | succ m ih =>
      intro l0 h0
      obtain ⟨l, x, rfl⟩ : ∃ l x, l0 = l ++ [x] := ⟨l0.dropLast, l0.getLast (fun e => by rw [e] at h0; simp at h0), (List.dropLast_concat_getLast _).symm⟩
      have hm : l.length = m := by simpa using h0
      rw [List.length_append, List.length_singleton, List.range_succ, List.filter_append, List.length_append, List.countP_append]
      have h1 : (List.range l.length).filter (fun i => match (l ++ [x])[i]? with | some t => liveB t.state | none => false) = (List.range l.length).filter (fun i => match l[i]? with | some t => liveB t.state | none => false) := by
        refine List.filter_congr (fun i hi => ?_)
        rw [List.getElem?_append_left (List.mem_range.1 hi)]
      rw [h1, ih l hm]
      congr 1
      rw [List.filter_cons]
      simp only [List.getElem?_append_right (Nat.le_refl _), Nat.sub_self, List.getElem?_cons_zero, List.filter_nil]
      rw [List.countP_cons]
      cases liveB x.state <;> simp
  unfold liveOnes thoseP CE.live Eng.ce
  rw [List.countP_map]
  exact key _ E.txs rfl
theorem Mid.commitE (h : Mid a0 K0 E.ce Q) (hq : ¬ Q i) (ht : E.txs[i]? = some t) (hl : liveB t.state = true) : Mid a0 K0 (overE { (installE E i) with com := E.com ++ [i] } i 2).ce (fun j => Q j ∨ outQ E.T i j) ∧ (overE { (installE E i) with com := E.com ++ [i] } i 2).ce.live + 1 = E.ce.live := by
  have hf := h.reg.fair i _ (cs_get ht)
  have hlast := h.last_le
  have hrg : Reg (E.ce.cs.set i { cor t with state := 2 }) := h.reg.set (cs_get ht) hl ⟨hf.lev, (by show (0 : Int) ≤ 2 ∧ (2 : Int) ≤ 3; omega), hf.vk, hf.fin, hf.wan⟩
  have hlo := h.loc.over (i := i) (t' := { cor t with state := 2 }) hq (by rfl)
  have hct := count_over (t' := { cor t with state := 2 }) (cs_get ht) hl (by rfl)
  by_cases hw : writesP t.vals = []
  · have hI : installE E i = E := by unfold installE; rw [ht]; simp [hw]
    rw [hI, ce_over (E := { E with com := E.com ++ [i] }) ht]
    exact ⟨⟨hlo, hrg, h.com.commit0 (cs_get ht) hl (by rfl) (by rfl) (by rfl) (by rfl) hw hf.vk _⟩, hct⟩
  · have hI : installE E i = { E with last := E.last + 1, ks := instP (E.last + 1) (writesP t.vals) E.ks, wr := updT E.wr (E.last + 1) (some ((i : Int) + 1)), nw := E.nw + 1 } := by
      unfold installE
      rw [ht]
      simp only
      rw [if_neg (fun hc => hc.elim hw (fun hc => by have : E.ce.last = E.last := rfl; omega))]
    rw [hI, ce_over (E := { E with last := E.last + 1, ks := instP (E.last + 1) (writesP t.vals) E.ks, wr := updT E.wr (E.last + 1) (some ((i : Int) + 1)), nw := E.nw + 1, com := E.com ++ [i] }) ht]
    exact ⟨⟨hlo, hrg, h.com.commitW h.loc.hold (cs_get ht) hl (by rfl) (by rfl) (by rfl) (by rfl) hw h.reg.fair _⟩, hct⟩
end
structure Goes (a0 : Int) (K0 : Int → Option Int) (Φ : Eng → (Nat → Prop) → Prop) : Prop where
  ok : ∀ (E : Eng) (Q : Nat → Prop) (j : Nat) (E2 : Eng), Mid a0 K0 E.ce Q → Φ E Q → Q j → putE (wakeE E j) j = (0, E2) → Φ E2 (fun m => Q m ∧ m ≠ j)
  bad : ∀ (E : Eng) (Q : Nat → Prop) (j : Nat) (why : Int) (E2 : Eng), Mid a0 K0 E.ce Q → Φ E Q → Q j → putE (wakeE E j) j = (why, E2) → (why = 10 ∨ why = 13) → Φ (overE (loseE E2 j why) j 3) (fun m => (Q m ∧ m ≠ j) ∨ outQ E.T j m)
abbrev noQ : Nat → Prop := fun _ => False
theorem noQ_or (T : Tab) (i : Nat) : (fun j => noQ j ∨ outQ T i j) = outQ T i := by funext j; simp [noQ]
section
variable {a0 : Int} {K0 : Int → Option Int} {Φ : Eng → (Nat → Prop) → Prop} {E : Eng} {i : Nat} {t : Tx} {why : Int}
theorem lose_ok (hG : Goes a0 K0 Φ) (h : Mid a0 K0 E.ce noQ) (ht : E.txs[i]? = some t) (hl : liveB t.state = true) (hP : Φ (overE (loseE E i why) i 3) (outQ E.T i)) :
    ∃ E', endF 7 (loseE E i why) i 3 = some E' ∧ Mid a0 K0 E'.ce noQ ∧ Φ E' noQ ∧ E'.ce.live < E.ce.live := by
  obtain ⟨hM, hc⟩ := h.goneE (why := why) ht hl (fun h => h)
  rw [noQ_or] at hM
  obtain ⟨E', e1, e2, e3, e4⟩ := end_ok' hG.ok hG.bad (lose_T E i why) h.loc hM hP
  exact ⟨E', e1, e2, e3, by omega⟩
theorem inst_T (E : Eng) (i : Nat) : (installE E i).T = E.T := by
  unfold installE
  split
  · split <;> rfl
  · rfl
theorem commit_ok (hG : Goes a0 K0 Φ) (h : Mid a0 K0 E.ce noQ) (ht : E.txs[i]? = some t) (hl : liveB t.state = true) (hb : ¬ Between t.ahead t.behind) (hP : Φ (overE { (installE E i) with com := E.com ++ [i] } i 2) (outQ E.T i)) :
    ∃ E', commitE 7 E i = some (0, E') ∧ Mid a0 K0 E'.ce noQ ∧ Φ E' noQ ∧ E'.ce.live < E.ce.live := by
  obtain ⟨hM, hc⟩ := h.commitE (i := i) (fun h => h) ht hl
  rw [noQ_or] at hM
  obtain ⟨E', e1, e2, e3, e4⟩ := end_ok' (E := { (installE E i) with com := E.com ++ [i] }) hG.ok hG.bad (inst_T E i) h.loc hM hP
  refine ⟨E', ?_, e2, e3, by omega⟩
  unfold commitE
  rw [ht]
  simp only
  rw [if_neg (by rw [betB_false hb]; simp), e1]
  rfl
theorem commit_bad (hG : Goes a0 K0 Φ) (h : Mid a0 K0 E.ce noQ) (ht : E.txs[i]? = some t) (hl : liveB t.state = true) (hb : Between t.ahead t.behind) (hP : Φ (overE (loseE E i 13) i 3) (outQ E.T i)) :
    ∃ E', commitE 7 E i = some (13, E') ∧ Mid a0 K0 E'.ce noQ ∧ Φ E' noQ ∧ E'.ce.live < E.ce.live := by
  obtain ⟨E', e1, e2⟩ := lose_ok hG h ht hl hP
  refine ⟨E', ?_, e2⟩
  unfold commitE
  rw [ht]
  simp only
  rw [if_pos (betB_true.2 hb), e1]
  rfl
end
end Go.Proofs.YtjefgmeejhakbaaGreatDoor

/- Plain: what Read and Write make of an engine. -/
namespace Go.Proofs.YtjefgmeejhakbaaGreatDoor
section
variable {a0 : Int} {K0 : Int → Option Int} {C : CE} {Q : Nat → Prop} {i : Nat} {t : Cor} {k v : Int}
theorem Com.tab (h : Com a0 K0 C) (T' : Tab) : Com a0 K0 { C with T := T' } := ⟨h.comn, h.coms, h.start, h.zero, h.lastc, h.nwc, h.wrc, h.ksl, h.kss, h.fuw⟩
theorem Mid.want (h : Mid a0 K0 C Q) (ht : C.cs[i]? = some t) (hs : t.state = 0) (hk : 0 ≤ k ∧ k < 10) (hv : -1099511627776 ≤ v ∧ v ≤ 1099511627776) : Mid a0 K0 { C with cs := C.cs.set i { t with wk := k, wv := v } } Q := by
  have hf := h.reg.fair i t ht
  have hl : liveB t.state = true := live_iff.2 (.inl hs)
  exact ⟨h.loc.put (k0 := 0) ht hs hs (fun k hk => .inl hk), h.reg.set ht hl ⟨hf.lev, hf.sta, hf.vk, hf.fin, hk, hv⟩, h.com.set ht hl (by show t.state ≠ 2; omega) (by rfl) (by rfl) C.T (fun a c m hlv _ hva hc hvm hlt => h.com.none_since ht hl a c m hlv hva hc hvm hlt)⟩
theorem Mid.take (h : Mid a0 K0 C Q) (ht : C.cs[i]? = some t) (hs : t.state = 0) (hk : C.T k = []) (hg : Good (updT C.T k [(i : Int) + 1])) : Mid a0 K0 { C with T := updT C.T k [(i : Int) + 1] } Q :=
  ⟨h.loc.take ht (live_iff.2 (.inl hs)) hk hg, h.reg, h.com.tab _⟩
theorem Mid.stand (h : Mid a0 K0 C Q) (ht : C.cs[i]? = some t) (hs : t.state = 0) (hk : C.T t.wk ≠ []) (hg : Good (updT C.T t.wk (C.T t.wk ++ [(i : Int) + 1]))) : Mid a0 K0 { C with cs := C.cs.set i { t with state := 1 }, T := updT C.T t.wk (C.T t.wk ++ [(i : Int) + 1]) } Q := by
  have hf := h.reg.fair i t ht
  have hl : liveB t.state = true := live_iff.2 (.inl hs)
  exact ⟨h.loc.stand ht hs hk hg rfl rfl rfl, h.reg.set ht hl ⟨hf.lev, (by show (0 : Int) ≤ 1 ∧ (1 : Int) ≤ 3; omega), hf.vk, hf.fin, hf.wan⟩, h.com.set ht hl (by show (1 : Int) ≠ 2; omega) (by rfl) (by rfl) _ (fun a c m hlv _ hva hc hvm hlt => h.com.none_since ht hl a c m hlv hva hc hvm hlt)⟩
theorem Mid.putOpen (h : Mid a0 K0 C Q) (ht : C.cs[i]? = some t) (hs : t.state = 0) (hh : holdsP C.T t.wk = (i : Int) + 1) (hn : ¬ (t.level ≠ 0 ∧ ((C.ks[t.wk.toNat]?.getD []).drop (lat (C.ks[t.wk.toNat]?.getD []) t.start + 1).toNat).map (·.1) ≠ [])) :
    Mid a0 K0 { C with cs := C.cs.set i { t with vals := updT t.vals t.wk (some t.wv) } } Q := by
  have hf := h.reg.fair i t ht
  have hl : liveB t.state = true := live_iff.2 (.inl hs)
  refine ⟨h.loc.put (k0 := t.wk) ht hs hs (fun k hk => ?_), h.reg.set ht hl ⟨hf.lev, hf.sta, fun k hk => ?_, fun k v hk => ?_, hf.wan⟩, h.com.put ht hl (t' := { t with vals := updT t.vals t.wk (some t.wv) }) hl (by rfl) (by rfl) hf.wan.1 (by rfl) C.T hn⟩
  · by_cases e : k = t.wk
    · exact .inr ⟨e, hh⟩
    · left
      simpa [updT_other _ _ e] using hk
  · by_cases e : k = t.wk
    · rw [e]; exact hf.wan.1
    · exact hf.vk k (by simpa [updT_other _ _ e] using hk)
  · by_cases e : k = t.wk
    · subst e
      simp only [updT_same] at hk
      injection hk with hk
      rw [← hk]
      exact hf.wan.2
    · exact hf.fin k v (by simpa [updT_other _ _ e] using hk)
theorem Loc.open_waits {T : Tab} {cs : List Cor} (h : Loc T cs Q) (ht : cs[i]? = some t) (hs : t.state = 0) : waitsP T ((i : Int) + 1) = -1 :=
  (waits_none_iff h.good.tidy).2 (fun k hk => by
    obtain ⟨u, hu, h1, _⟩ := h.tail k i hk
    rw [ht] at hu
    cases hu
    omega)
end
theorem ask_cases {T : Tab} {q : Int → Nat} {tx key : Int} (hk : 0 ≤ key ∧ key < 10) (hx : 1 ≤ tx) (hw : waitsP T tx = -1) :
    (holdsP T key = tx ∧ askP T q tx key = (true, 0, T)) ∨ (holdsP T key ≠ tx ∧ T key = [] ∧ askP T q tx key = (true, 0, updT T key [tx])) ∨
    (holdsP T key ≠ tx ∧ T key ≠ [] ∧ askP T q tx key = (false, 11, T)) ∨ (holdsP T key ≠ tx ∧ T key ≠ [] ∧ askP T q tx key = (false, 0, updT T key (T key ++ [tx]))) := by
  unfold askP
  rw [if_neg (by rw [Classical.not_not]; omega), if_neg (by omega)]
  by_cases h1 : holdsP T key = tx
  · rw [if_pos h1]; exact .inl ⟨h1, rfl⟩
  · rw [if_neg h1]
    by_cases h2 : T key = []
    · rw [if_pos h2]; exact .inr (.inl ⟨h1, h2, rfl⟩)
    · rw [if_neg h2]
      by_cases h3 : reachP T tx (q (holdsP T key) + 1) (holdsP T key) = true
      · rw [if_pos h3]; exact .inr (.inr (.inl ⟨h1, h2, rfl⟩))
      · rw [if_neg h3]; exact .inr (.inr (.inr ⟨h1, h2, rfl⟩))
def wantE (E : Eng) (i : Nat) (t : Tx) (key val : Int) (T' : Tab) : Eng := { (E.setTx i { t with wk := key, wv := val }) with T := T' }
def noteE (E : Eng) (i : Nat) (t : Tx) (key : Int) : Eng := E.setTx i (noteReadP t key ((E.wr (verP E key (seesP E t)).1.1).getD 0))
section
variable {a0 : Int} {K0 : Int → Option Int} {Φ : Eng → (Nat → Prop) → Prop} {E : Eng} {i : Nat} {t : Tx} {key val : Int} {q : Int → Nat}
theorem ce_note (ht : E.txs[i]? = some t) : (noteE E i t key).ce = E.ce := by
  unfold noteE
  exact ce_set_id ht (by rfl)
theorem read_ok (hG : Goes a0 K0 Φ) (h : Mid a0 K0 E.ce noQ) (ht : E.txs[i]? = some t) (hs : t.state = 0) (hk : 0 ≤ key ∧ key < 10) (hv : t.vals key = none)
    (hP1 : t.level ≠ 2 → Φ (noteE E i t key) noQ) (hP2 : ∀ E2, t.level = 2 → aowP (noteE E i t key) i key = (true, E2) → Φ E2 noQ)
    (hP3 : ∀ E2, t.level = 2 → aowP (noteE E i t key) i key = (false, E2) → Φ (overE (loseE E2 i 13) i 3) (outQ E.T i)) :
    ∃ R, readE 7 E i key = some R ∧ Mid a0 K0 R.2.ce noQ ∧ Φ R.2 noQ ∧ ((R.1 = ((verP E key (seesP E t)).1.2, (verP E key (seesP E t)).2) ∧ R.2.ce = E.ce) ∨ R.1 = (0, 13)) ∧ R.2.ce.live ≤ E.ce.live := by
  have hkb : keyB key = true := by simp [keyB]; omega
  have hce := ce_note (key := key) ht
  unfold readE
  rw [ht]
  simp only
  rw [hv]
  simp only
  rw [if_neg (by rw [hkb]; simp)]
  by_cases h2 : t.level = 2
  · rw [if_pos h2]
    rcases ha : aowP (noteE E i t key) i key with ⟨b, E2⟩
    have hc2 : E2.ce = E.ce := by
      have := ce_aow (noteE E i t key) i key
      rw [ha] at this
      exact this.trans hce
    rw [show aowP (E.setTx i (noteReadP t key ((E.wr (verP E key (seesP E t)).1.1).getD 0))) i key = (b, E2) from ha]
    cases b with
    | true => exact ⟨_, rfl, by rw [hc2]; exact h, hP2 E2 h2 ha, .inl ⟨rfl, hc2⟩, by rw [hc2]; exact Nat.le_refl _⟩
    | false =>
      obtain ⟨u, hu, e⟩ : ∃ u, E2.txs[i]? = some u ∧ cor u = cor t := cs_of (by rw [hc2]; exact cs_get ht)
      have hus : u.state = 0 := by have := congrArg Cor.state e; exact this.trans hs
      have hT2 : E2.T = E.T := congrArg CE.T hc2
      obtain ⟨E', e1, e2, e3, e4⟩ := lose_ok (E := E2) (why := 13) hG (by rw [hc2]; exact h) hu (by rw [hus]; rfl) (by rw [hT2]; exact hP3 E2 h2 ha)
      simp only [e1, Option.map_some]
      exact ⟨_, rfl, e2, e3, .inr rfl, by rw [hc2] at e4; show E'.ce.live ≤ _; omega⟩
  · rw [if_neg h2]
    exact ⟨_, rfl, by rw [show (E.setTx i (noteReadP t key ((E.wr (verP E key (seesP E t)).1.1).getD 0))).ce = E.ce from hce]; exact h, hP1 h2, .inl ⟨rfl, hce⟩, by rw [show (E.setTx i (noteReadP t key ((E.wr (verP E key (seesP E t)).1.1).getD 0))).ce = E.ce from hce]; exact Nat.le_refl _⟩
theorem want_get (ht : E.txs[i]? = some t) (T' : Tab) : (wantE E i t key val T').txs[i]? = some { t with wk := key, wv := val } := setTx_get ht
theorem want_ce (E : Eng) (i : Nat) (t : Tx) (key val : Int) (T' : Tab) : (wantE E i t key val T').ce = { E.ce with cs := E.ce.cs.set i { cor t with wk := key, wv := val }, T := T' } := by
  unfold wantE
  simp [Eng.setTx, Eng.ce, List.map_set, cor]
theorem write_ok (hG : Goes a0 K0 Φ) (h : Mid a0 K0 E.ce noQ) (ht : E.txs[i]? = some t) (hs : t.state = 0) (hk : 0 ≤ key ∧ key < 10) (hv : -1099511627776 ≤ val ∧ val ≤ 1099511627776) (hq : Ranked E.T q)
    (hP1 : Φ (overE (loseE (wantE E i t key val E.T) i 11) i 3) (outQ E.T i))
    (hP2 : Φ ((wantE E i t key val (updT E.T key (E.T key ++ [(i : Int) + 1]))).setTx i { t with wk := key, wv := val, state := 1 }) noQ)
    (hP3 : ∀ T' E2, (T' = E.T ∨ T' = updT E.T key [(i : Int) + 1]) → putE (wantE E i t key val T') i = (0, E2) → Φ E2 noQ)
    (hP4 : ∀ T' why E2, (T' = E.T ∨ T' = updT E.T key [(i : Int) + 1]) → (why = 10 ∨ why = 13) → putE (wantE E i t key val T') i = (why, E2) → Φ (overE (loseE E2 i why) i 3) (outQ T' i)) :
    ∃ R, writeE 7 q E i key val = some R ∧ Mid a0 K0 R.2.ce noQ ∧ Φ R.2 noQ ∧ R.2.ce.live ≤ E.ce.live ∧
      ((R.1 = (false, 11)) ∨ (R.1 = (false, 0) ∧ R.2 = (wantE E i t key val (updT E.T key (E.T key ++ [(i : Int) + 1]))).setTx i { t with wk := key, wv := val, state := 1 }) ∨ (R.1 = (true, 0) ∧ ∃ T', putE (wantE E i t key val T') i = (0, R.2)) ∨ R.1 = (false, 10) ∨ R.1 = (false, 13)) := by
  have hl : liveB t.state = true := live_iff.2 (.inl hs)
  have hi : i < E.txs.length := (List.getElem?_eq_some_iff.1 ht).1
  have hlen : E.ce.cs.length = E.txs.length := by simp [Eng.ce]
  have h200 := h.reg.len
  have hW := h.want (k := key) (v := val) (cs_get ht) hs hk hv
  have hwa := h.loc.open_waits (cs_get ht) hs
  have hgd : Good (askP E.T q ((i : Int) + 1) key).2.2 := h.loc.good.ask hq ((i : Int) + 1) key (by omega)
  have key' : ∀ T', (T' = E.T ∨ T' = updT E.T key [(i : Int) + 1]) → Mid a0 K0 (wantE E i t key val T').ce noQ → holdsP T' key = (i : Int) + 1 →
      ∃ R, (writeR (endF 7) (wantE E i t key val T') i).map (fun R => ((decide (R.1 = 0), R.1), R.2)) = some R ∧ Mid a0 K0 R.2.ce noQ ∧ Φ R.2 noQ ∧ R.2.ce.live ≤ E.ce.live ∧ ((R.1 = (true, 0) ∧ putE (wantE E i t key val T') i = (0, R.2)) ∨ R.1 = (false, 10) ∨ R.1 = (false, 13)) := by
    intro T' hT' hM' hh
    have hg := want_get (key := key) (val := val) ht T'
    have hlv : (wantE E i t key val T').ce.live = E.ce.live := by rw [want_ce]; exact count_live (cs_get ht) hl hl
    rcases hp : putE (wantE E i t key val T') i with ⟨why, E2⟩
    have hcg := cs_get hg
    rcases ce_put hg hp with ⟨rfl, rfl, _, _⟩ | ⟨hy, hn, he⟩
    · obtain ⟨E', e1, e2, e3, e4⟩ := lose_ok (E := wantE E i t key val T') (why := 10) hG hM' hg hl (hP4 T' 10 _ hT' (.inl rfl) hp)
      refine ⟨((false, 10), E'), ?_, e2, e3, by show E'.ce.live ≤ _; omega, .inr (.inl rfl)⟩
      unfold writeR
      rw [hp]
      simp [e1]
    · have hM2 : Mid a0 K0 E2.ce noQ := by rw [he]; exact hM'.putOpen hcg hs hh hn
      have hl2 : E2.ce.live = E.ce.live := by
        rw [← hlv, he]
        exact count_live hcg hl hl
      rcases hy with rfl | rfl
      · refine ⟨((true, 0), E2), ?_, hM2, hP3 T' E2 hT' hp, by show E2.ce.live ≤ _; omega, .inl ⟨rfl, rfl⟩⟩
        unfold writeR
        rw [hp]
        simp
      · obtain ⟨u, hu, e⟩ : ∃ u, E2.txs[i]? = some u ∧ cor u = _ := cs_of (by rw [he]; exact set_same hcg)
        have hus : u.state = 0 := by have := congrArg Cor.state e; exact this.trans hs
        have hT2 : E2.T = T' := congrArg CE.T he
        obtain ⟨E', e1, e2, e3, e4⟩ := lose_ok (E := E2) (why := 13) hG hM2 hu (by rw [hus]; rfl) (by rw [hT2]; exact hP4 T' 13 E2 hT' (.inr rfl) hp)
        refine ⟨((false, 13), E'), ?_, e2, e3, by show E'.ce.live ≤ _; omega, .inr (.inr rfl)⟩
        unfold writeR
        rw [hp]
        simp [e1]
  unfold writeE
  rw [ht]
  simp only
  rw [if_neg (by omega), if_neg (by omega)]
  rcases ask_cases (T := E.T) (q := q) (tx := (i : Int) + 1) hk (by omega) hwa with ⟨h1, e⟩ | ⟨h1, h2, e⟩ | ⟨h1, h2, e⟩ | ⟨h1, h2, e⟩
  · rw [e] at hgd ⊢
    simp only [ne_eq, not_true_eq_false, if_false, Bool.true_eq_false]
    have hM' : Mid a0 K0 (wantE E i t key val E.T).ce noQ := by rw [want_ce]; exact hW
    obtain ⟨R, r1, r2, r3, r4, r5⟩ := key' E.T (.inl rfl) hM' h1
    exact ⟨R, r1, r2, r3, r4, r5.elim (fun h => .inr (.inr (.inl ⟨h.1, _, h.2⟩))) (fun h => .inr (.inr (.inr h)))⟩
  · rw [e] at hgd ⊢
    simp only [ne_eq, not_true_eq_false, if_false, Bool.true_eq_false]
    have hM' : Mid a0 K0 (wantE E i t key val (updT E.T key [(i : Int) + 1])).ce noQ := by
      rw [want_ce]
      exact hW.take (set_same (cs_get ht)) hs h2 hgd
    obtain ⟨R, r1, r2, r3, r4, r5⟩ := key' _ (.inr rfl) hM' (by unfold holdsP; rw [updT_same]; rfl)
    exact ⟨R, r1, r2, r3, r4, r5.elim (fun h => .inr (.inr (.inl ⟨h.1, _, h.2⟩))) (fun h => .inr (.inr (.inr h)))⟩
  · rw [e] at hgd ⊢
    simp only [ne_eq, show ((11 : Int) = 0) = False from by simp, not_false_eq_true, if_true]
    have hM' : Mid a0 K0 (wantE E i t key val E.T).ce noQ := by rw [want_ce]; exact hW
    have hlv : (wantE E i t key val E.T).ce.live = E.ce.live := by rw [want_ce]; exact count_live (cs_get ht) hl hl
    obtain ⟨E', e1, e2, e3, e4⟩ := lose_ok (E := wantE E i t key val E.T) (why := 11) hG hM' (want_get ht _) hl hP1
    refine ⟨((false, 11), E'), ?_, e2, e3, by show E'.ce.live ≤ _; omega, .inl rfl⟩
    rw [show endF 7 (loseE { (E.setTx i { t with wk := key, wv := val }) with T := E.T } i 11) i 3 = some E' from e1]
    rfl
  · rw [e] at hgd ⊢
    simp only [ne_eq, not_true_eq_false, if_false, if_true]
    refine ⟨_, rfl, ?_, hP2, ?_, .inr (.inl ⟨rfl, rfl⟩)⟩
    · show Mid a0 K0 ((wantE E i t key val (updT E.T key (E.T key ++ [(i : Int) + 1]))).setTx i { t with wk := key, wv := val, state := 1 }).ce noQ
      rw [ce_set, want_ce]
      have := hW.stand (set_same (cs_get ht)) hs h2 hgd
      simp only [List.set_set] at this ⊢
      exact this
    · show ((wantE E i t key val (updT E.T key (E.T key ++ [(i : Int) + 1]))).setTx i { t with wk := key, wv := val, state := 1 }).ce.live ≤ _
      rw [ce_set, want_ce]
      simp only [List.set_set]
      exact Nat.le_of_eq (count_live (cs_get ht) hl (by rfl))
end
theorem goes_true (a0 : Int) (K0 : Int → Option Int) : Goes a0 K0 (fun _ _ => True) := ⟨fun _ _ _ _ _ _ _ _ => trivial, fun _ _ _ _ _ _ _ _ _ _ => trivial⟩
theorem goes_and {a0 : Int} {K0 : Int → Option Int} {Φ Ψ : Eng → (Nat → Prop) → Prop} (h : Goes a0 K0 Φ) (k : Goes a0 K0 Ψ) : Goes a0 K0 (fun E Q => Φ E Q ∧ Ψ E Q) :=
  ⟨fun E Q j E2 hM hP hq hp => ⟨h.ok E Q j E2 hM hP.1 hq hp, k.ok E Q j E2 hM hP.2 hq hp⟩, fun E Q j why E2 hM hP hq hp hy => ⟨h.bad E Q j why E2 hM hP.1 hq hp hy, k.bad E Q j why E2 hM hP.2 hq hp hy⟩⟩
end Go.Proofs.YtjefgmeejhakbaaGreatDoor

/- Plain: somebody may always go on; what is committed is what committed ones wrote, the last one of each key. -/
namespace Go.Proofs.YtjefgmeejhakbaaGreatDoor
section
variable {a0 : Int} {K0 : Int → Option Int} {E : Eng} {i : Nat} {t : Tx}
theorem holds_off {T : Tab} (h : Tidy0 T) : holdsP T (-1) = 0 := by
  unfold holdsP
  cases hT : T (-1) with
  | nil => rfl
  | cons a l => have := h.rng (-1) (by rw [hT]; exact nofun); omega
theorem Mid.waits_for (h : Mid a0 K0 E.ce noQ) (ht : E.txs[i]? = some t) (hs : t.state = 1) : ∃ (j : Nat) (u : Tx), waitsE E ((i : Int) + 1) = (j : Int) + 1 ∧ E.txs[j]? = some u ∧ liveB u.state = true := by
  rcases h.loc.wait i _ (cs_get ht) hs with h1 | h1
  · exact h1.elim
  · have hT := h.loc.good.tidy
    have hw := waits_of_mem hT h1
    have hm := head_mem (tail_ne h1)
    obtain ⟨j, u, e, hu, hl⟩ := h.loc.mem _ _ hm
    obtain ⟨v, hv, rfl⟩ := cs_of hu
    refine ⟨j, v, ?_, hv, hl⟩
    unfold waitsE
    rw [show waitsP E.T ((i : Int) + 1) = _ from hw]
    exact e
theorem Mid.waits_not (h : Mid a0 K0 E.ce noQ) (ht : E.txs[i]? = some t) (hs : t.state ≠ 1) : waitsE E ((i : Int) + 1) = 0 := by
  have hT := h.loc.good.tidy
  have hw : waitsP E.T ((i : Int) + 1) = -1 := (waits_none_iff hT).2 (fun k hk => by
    obtain ⟨u, hu, h1, _⟩ := h.loc.tail k i hk
    rw [cs_get ht] at hu
    cases hu
    exact hs h1)
  unfold waitsE
  rw [hw]
  exact holds_off hT
theorem Mid.open_one (h : Mid a0 K0 E.ce noQ) : ∀ (i : Nat) (t : Tx), E.txs[i]? = some t → t.state = 1 → ∃ (j : Nat) (u : Tx), E.txs[j]? = some u ∧ u.state = 0 := by
  obtain ⟨r, hr⟩ := h.loc.good.rank
  have key : ∀ (n : Nat) (i : Nat) (t : Tx), r ((i : Int) + 1) ≤ n → E.txs[i]? = some t → t.state = 1 → ∃ (j : Nat) (u : Tx), E.txs[j]? = some u ∧ u.state = 0 := by
    intro n
    induction n with
    | zero =>
      intro i t hn ht hs
      rcases h.loc.wait i _ (cs_get ht) hs with h1 | h1
      · exact h1.elim
      · have := hr _ _ h1
        omega
    | succ n ih =>
      intro i t hn ht hs
      rcases h.loc.wait i _ (cs_get ht) hs with h1 | h1
      · exact h1.elim
      · have hlt := hr _ _ h1
        obtain ⟨j, u, e, hu, hl⟩ := h.loc.mem _ _ (head_mem (tail_ne h1))
        obtain ⟨v, hv, rfl⟩ := cs_of hu
        have e' : holdsP E.ce.T (cor t).wk = (j : Int) + 1 := e
        rw [e'] at hlt
        rcases live_iff.1 hl with h2 | h2
        · exact ⟨j, v, hv, h2⟩
        · exact ih j v (by omega) hv h2
  exact fun i t ht hs => key _ i t (Nat.le_refl _) ht hs
end
def lastW (V : Nat → Int → Option Int) (l : List Nat) (k : Int) : Option Nat := (l.filter (fun i => (V i k).isSome)).getLast?
theorem lastW_snoc (V : Nat → Int → Option Int) (l : List Nat) (i : Nat) (k : Int) : lastW V (l ++ [i]) k = if (V i k).isSome then some i else lastW V l k := by
  unfold lastW
  rw [List.filter_append, List.filter_cons]
  cases (V i k).isSome <;> simp
theorem lastW_some {V : Nat → Int → Option Int} {l : List Nat} {k : Int} {i : Nat} (h : lastW V l k = some i) : i ∈ l ∧ (V i k).isSome = true := by
  unfold lastW at h
  exact List.mem_filter.1 (List.mem_of_getLast? h)
theorem fullFrom_last (V : Nat → Int → Option Int) (a : Int) : ∀ (n : Nat) (l : List Nat) (c : Int), l.length = n → ((fullFrom V a c l).getLast?).map (·.2) = (lastW V l a).bind (fun i => V i a) := by
  intro n
  induction n with
  | zero => intro l c h; rw [List.eq_nil_of_length_eq_zero h]; rfl
  | succ n ih =>
    intro l0 c h0
    obtain ⟨l, x, rfl⟩ : ∃ l x, l0 = l ++ [x] := ⟨l0.dropLast, l0.getLast (fun e => by rw [e] at h0; simp at h0), (List.dropLast_concat_getLast _).symm⟩
    have hm : l.length = n := by simpa using h0
    rw [fullFrom_append, lastW_snoc]
    cases hv : V x a with
    | none => simp [fullFrom, hv, ih l c hm]
    | some y => simp [fullFrom, hv]
theorem lastW_filter (V : Nat → Int → Option Int) (l : List Nat) (k : Int) (p : Nat → Bool) (hp : ∀ i ∈ l, (V i k).isSome = true → p i = true) : lastW V (l.filter p) k = lastW V l k := by
  unfold lastW
  rw [List.filter_filter]
  congr 1
  refine List.filter_congr (fun i hi => ?_)
  cases hv : (V i k).isSome with
  | false => simp
  | true => rw [hp i hi hv]; rfl
section
variable {a0 : Int} {K0 : Int → Option Int} {E : Eng} {Q : Nat → Prop}
theorem Mid.now (h : Mid a0 (fun _ => none) E.ce Q) {k : Nat} (hk : k < 10) : (rdP E.last (E.ks[k]?.getD [])).map (·.2) = (lastW E.ce.v E.com k).bind (fun i => E.ce.v i k) := by
  obtain ⟨d, h1, h3, h4⟩ := h.com.kss k hk
  have h3' : E.ks[k]? = some ((full a0 (fun _ => none) E.ce k).drop d) := h3
  rw [h3']
  simp only [Option.getD_some]
  rw [rdP_drop _ _ _ (h4 E.last (.inl (Int.le_refl _))), rdP_last, List.filter_eq_self.2 (fun p hp => by have := (full_le h.com hp).2; exact decide_eq_true (show p.1 ≤ E.last from this))]
  unfold full
  simp only [List.nil_append]
  rw [fullFrom_last _ _ _ _ _ rfl]
  congr 1
  unfold CE.cw
  refine lastW_filter _ _ _ _ (fun i hi hv => ?_)
  obtain ⟨u, hu, _⟩ := (h.com.coms i).1 hi
  have hvk := (h.reg.fair i u hu).vk
  rw [← CE.v_some hu] at hvk
  simp only [ne_eq, decide_eq_true_eq]
  exact wrote_of hvk (a := k) (fun e => by rw [e] at hv; cases hv)
end
end Go.Proofs.YtjefgmeejhakbaaGreatDoor

/- The tale of interleafkeep: plain, and how it lies in memory. -/
namespace Go.Proofs.YtjefgmeejhakbaaGreatDoor
open Go.RowKit
structure Tal where
  level : List Int
  snap : List (List (Int × Int))
  own : List (Int → Option Int)
  reads : List (List (Int × Int))
  begun : List Int
  over : List Int
  steps : Int
  n : Int
  broken : Bool
structure TalL where
  b : Nat
  row : Nat → Value
  sn : List Value
  om : List Nat
  rd : List Value
inductive TTag where
  | b : TTag
  | row : Nat → TTag
  | sn : Nat → TTag
  | om : Nat → TTag
  | rd : Nat → TTag
def rowT : Nat → TypeId
  | 1 => 23
  | 2 => 69
  | 3 => 73
  | _ => 3
def mapV (b : Nat) : Value := .map (some b)
def TalL.rowX (L : TalL) (t : Tal) : Nat → List Value
  | 0 => intsV t.level
  | 1 => L.sn
  | 2 => L.om.map mapV
  | 3 => L.rd
  | 4 => intsV t.begun
  | _ => intsV t.over
def talCells (s : Nat) (row : Nat → Value) (steps n : Int) (broken : Bool) : Array Value := #[ptrV s, row 0, row 1, row 2, row 3, row 4, row 5, .int .i64 steps, .int .i64 n, .bool broken]
structure TTagged (L : TalL) (ρ : Nat → TTag) : Prop where
  b : ρ L.b = .b
  row : ∀ j g, j < 6 → (L.row j).ownBlock = some g → ρ g = .row j
  sn : ∀ (i : Nat) (v : Value) (g : Nat), L.sn[i]? = some v → v.ownBlock = some g → ρ g = .sn i
  om : ∀ (i g : Nat), L.om[i]? = some g → ρ g = .om i
  rd : ∀ (i : Nat) (v : Value) (g : Nat), L.rd[i]? = some v → v.ownBlock = some g → ρ g = .rd i
def TalL.own (L : TalL) (g : Nat) : Prop := g = L.b ∨ (∃ j, j < 6 ∧ (L.row j).ownBlock = some g) ∨ (∃ (i : Nat) (v : Value), L.sn[i]? = some v ∧ v.ownBlock = some g) ∨ (∃ i : Nat, L.om[i]? = some g) ∨ ∃ (i : Nat) (v : Value), L.rd[i]? = some v ∧ v.ownBlock = some g
structure TLen (L : TalL) (t : Tal) (N : Nat) : Prop where
  level : t.level.length = N
  snap : t.snap.length = N
  own : t.own.length = N
  reads : t.reads.length = N
  begun : t.begun.length = N
  over : t.over.length = N
  sn : L.sn.length = N
  om : L.om.length = N
  rd : L.rd.length = N
structure TalAt (w : World) (s : Nat) (L : TalL) (t : Tal) (N : Nat) : Prop where
  blk : w.heap[L.b]? = some (.cells (talCells s L.row t.steps t.n t.broken) 67 (0, 0))
  rows : ∀ j, j < 6 → w.ownsRow 0 (rowT j) 1 (L.row j) N (L.rowX t j)
  sn : ∀ (i : Nat) (v : Value) (l : List (Int × Int)), L.sn[i]? = some v → t.snap[i]? = some l → w.ownsRow 0 78 2 v l.length (vrow l)
  om : ∀ (i b : Nat) (f : Int → Option Int), L.om[i]? = some b → t.own[i]? = some f → IMap w b 10 (fun k => (f k).map (Value.int .i64)) ∧ ∀ k, f k ≠ none → 0 ≤ k ∧ k < 10
  rd : ∀ (i : Nat) (v : Value) (l : List (Int × Int)), L.rd[i]? = some v → t.reads[i]? = some l → w.ownsRow 0 75 2 v l.length (vrow l)
  len : TLen L t N
  tag : ∃ ρ, TTagged L ρ
section
variable {w w' : World} {s N : Nat} {L : TalL} {t : Tal}
theorem TalAt.getS (h : TalAt w s L t N) {i : Nat} (hi : i < N) : ∃ v l, L.sn[i]? = some v ∧ t.snap[i]? = some l :=
  ⟨L.sn[i]'(by have := h.len.sn; omega), t.snap[i]'(by have := h.len.snap; omega), List.getElem?_eq_getElem _, List.getElem?_eq_getElem _⟩
theorem TalAt.getO (h : TalAt w s L t N) {i : Nat} (hi : i < N) : ∃ b f, L.om[i]? = some b ∧ t.own[i]? = some f :=
  ⟨L.om[i]'(by have := h.len.om; omega), t.own[i]'(by have := h.len.own; omega), List.getElem?_eq_getElem _, List.getElem?_eq_getElem _⟩
theorem TalAt.getR (h : TalAt w s L t N) {i : Nat} (hi : i < N) : ∃ v l, L.rd[i]? = some v ∧ t.reads[i]? = some l :=
  ⟨L.rd[i]'(by have := h.len.rd; omega), t.reads[i]'(by have := h.len.reads; omega), List.getElem?_eq_getElem _, List.getElem?_eq_getElem _⟩
theorem TalAt.own_lt (h : TalAt w s L t N) {g : Nat} (hg : L.own g) : g < w.heap.size := by
  rcases hg with rfl | ⟨j, hj, hg⟩ | ⟨i, v, hv, hg⟩ | ⟨i, hi⟩ | ⟨i, v, hv, hg⟩
  · exact (Array.getElem?_eq_some_iff.1 h.blk).1
  · exact owns_lt (h.rows j hj) hg
  · obtain ⟨_, l, _, hl⟩ := h.getS (i := i) (by have := (List.getElem?_eq_some_iff.1 hv).1; have := h.len.sn; omega)
    exact owns_lt (h.sn i v l hv hl) hg
  · obtain ⟨_, f, _, hf⟩ := h.getO (i := i) (by have := (List.getElem?_eq_some_iff.1 hi).1; have := h.len.om; omega)
    exact (h.om i g f hi hf).1.lt
  · obtain ⟨_, l, _, hl⟩ := h.getR (i := i) (by have := (List.getElem?_eq_some_iff.1 hv).1; have := h.len.rd; omega)
    exact owns_lt (h.rd i v l hv hl) hg
theorem TalAt.same (h : TalAt w s L t N) (hs : ∀ g, L.own g → w'.heap[g]? = w.heap[g]?) : TalAt w' s L t N :=
  ⟨(hs _ (.inl rfl)).trans h.blk, fun j hj => owns_same (h.rows j hj) (fun g hg => hs g (.inr (.inl ⟨j, hj, hg⟩))), fun i v l hv hl => owns_same (h.sn i v l hv hl) (fun g hg => hs g (.inr (.inr (.inl ⟨i, v, hv, hg⟩)))),
    fun i b f hb hf => ⟨(h.om i b f hb hf).1.same (hs b (.inr (.inr (.inr (.inl ⟨i, hb⟩))))), (h.om i b f hb hf).2⟩, fun i v l hv hl => owns_same (h.rd i v l hv hl) (fun g hg => hs g (.inr (.inr (.inr (.inr ⟨i, v, hv, hg⟩))))), h.len, h.tag⟩
theorem TalAt.below (h : TalAt w s L t N) (hB : Below w.heap.size w w') : TalAt w' s L t N := h.same (fun g hg => hB.block g (h.own_lt hg))
theorem TalAt.cell (h : TalAt w s L t N) (o : Nat) : w.cell? ⟨L.b, o, none⟩ = (talCells s L.row t.steps t.n t.broken)[o]? := cell_of_row w L.b o _ _ (0, 0) h.blk
theorem TalAt.free (h : TalAt w s L t N) (o : Nat) : w.frozen? ⟨L.b, o, none⟩ = false := by simp [World.frozen?, h.blk]
theorem TalAt.head (h : TalAt w s L t N) {steps n : Int} {broken : Bool} (hb : w'.heap[L.b]? = some (.cells (talCells s L.row steps n broken) 67 (0, 0))) (hs : ∀ g, L.own g → g ≠ L.b → w'.heap[g]? = w.heap[g]?) : TalAt w' s L { t with steps := steps, n := n, broken := broken } N := by
  obtain ⟨ρ, T⟩ := h.tag
  refine ⟨hb, fun j hj => ?_, fun i v l hv hl => owns_same (h.sn i v l hv hl) (fun g hg => hs g (.inr (.inr (.inl ⟨i, v, hv, hg⟩))) (fun e => ?_)),
    fun i b f hb hf => ⟨(h.om i b f hb hf).1.same (hs b (.inr (.inr (.inr (.inl ⟨i, hb⟩)))) (fun e => ?_)), (h.om i b f hb hf).2⟩, fun i v l hv hl => owns_same (h.rd i v l hv hl) (fun g hg => hs g (.inr (.inr (.inr (.inr ⟨i, v, hv, hg⟩)))) (fun e => ?_)), ⟨h.len.level, h.len.snap, h.len.own, h.len.reads, h.len.begun, h.len.over, h.len.sn, h.len.om, h.len.rd⟩, ρ, T⟩
  · have : L.rowX { t with steps := steps, n := n, broken := broken } j = L.rowX t j := by unfold TalL.rowX; split <;> rfl
    rw [this]
    exact owns_same (h.rows j hj) (fun g hg => hs g (.inr (.inl ⟨j, hj, hg⟩)) (fun e => by have := T.row j g hj hg; rw [e, T.b] at this; cases this))
  · have := T.sn i v g hv hg; rw [e, T.b] at this; cases this
  · have := T.om i b hb; rw [e, T.b] at this; cases this
  · have := T.rd i v g hv hg; rw [e, T.b] at this; cases this
end
structure Gr where
  w : World
  P : Nat → Prop
structure Gr.Kept (G : Gr) (w : World) : Prop where
  os : w.os = G.w.os
  tape : w.tape = G.w.tape
  output : w.output = G.w.output
  size : G.w.heap.size ≤ w.heap.size
  lt : ∀ g, G.P g → g < G.w.heap.size
  block : ∀ g, G.P g → w.heap[g]? = G.w.heap[g]?
structure TaleAt (w0 : Gr) (w : World) (L : EnL) (E : Eng) (TL : TalL) (t : Tal) : Prop where
  en : EnAt w L E
  tal : TalAt w L.s TL t E.txs.length
  apart : ∀ g, TL.own g → ¬ L.own g
  newE : ∀ g, L.own g → ¬ w0.P g
  newT : ∀ g, TL.own g → ¬ w0.P g
  kept : w0.Kept w
section
variable {w0 : Gr} {w w' : World} {L L' : EnL} {E E' : Eng} {TL : TalL} {t : Tal}
theorem Gr.Kept.go (h : w0.Kept w) {o o' : Nat → Prop} (hK : KeptO o o' w w') (hn : ∀ g, o g → ¬ w0.P g) : w0.Kept w' :=
  ⟨hK.os.trans h.os, hK.tape.trans h.tape, hK.output.trans h.output, Nat.le_trans h.size hK.size, h.lt, fun g hg => (hK.block g (Nat.lt_of_lt_of_le (h.lt g hg) h.size) (fun e => hn g e hg)).trans (h.block g hg)⟩
theorem Gr.Kept.new (h : w0.Kept w) {g : Nat} (hg : w.heap.size ≤ g) : ¬ w0.P g := fun hp => by have := h.lt g hp; have := h.size; omega
theorem TaleAt.below (h : TaleAt w0 w L E TL t) (hB : Below w.heap.size w w') : TaleAt w0 w' L E TL t :=
  ⟨h.en.below hB, h.tal.below hB, h.apart, h.newE, h.newT, h.kept.go (KeptO.of_below (o := fun _ => False) hB) (fun _ hf => hf.elim)⟩
theorem TaleAt.drewN (h : TaleAt w0 w L E TL t) (q : Nat) : TaleAt w0 (w.drewN q) L E TL t := h.below (below_drewN (Below.refl _ w) q)
theorem TaleAt.engine (h : TaleAt w0 w L E TL t) (hE : EnAt w' L' E') (hK : KeptO L.own L'.own w w') (hs : L'.s = L.s) (hl : E'.txs.length = E.txs.length) : TaleAt w0 w' L' E' TL t :=
  ⟨hE, by rw [hs, hl]; exact h.tal.same (fun g hg => hK.block g (h.tal.own_lt hg) (h.apart g hg)), fun g hg hg' => (hK.sub g hg').elim (h.apart g hg) (fun e => by have := h.tal.own_lt hg; omega),
    fun g hg => (hK.sub g hg).elim (h.newE g) (fun e => h.kept.new e), h.newT, h.kept.go hK h.newE⟩
theorem TaleAt.tale (h : TaleAt w0 w L E TL t) {TL' : TalL} {t' : Tal} (hT : TalAt w' L.s TL' t' E.txs.length) (hK : KeptO TL.own TL'.own w w') : TaleAt w0 w' L E TL' t' :=
  ⟨h.en.same (fun g hg => hK.block g (h.en.own_lt hg) (fun e => h.apart g e hg)), hT, fun g hg hg' => (hK.sub g hg).elim (fun e => h.apart g e hg') (fun e => by have := h.en.own_lt hg'; omega), h.newE,
    fun g hg => (hK.sub g hg).elim (h.newT g) (fun e => h.kept.new e), h.kept.go hK h.newT⟩
def ground (w : World) (L : EnL) (TL : TalL) : Gr := ⟨w, fun g => g < w.heap.size ∧ ¬ L.own g ∧ ¬ TL.own g⟩
theorem TaleAt.reground (h : TaleAt w0 w L E TL t) : TaleAt (ground w L TL) w L E TL t :=
  ⟨h.en, h.tal, h.apart, fun _ hg hp => hp.2.1 hg, fun _ hg hp => hp.2.2 hg, ⟨rfl, rfl, rfl, Nat.le_refl _, fun _ hp => hp.1, fun _ _ => rfl⟩⟩
theorem TaleAt.cell (h : TaleAt w0 w L E TL t) {g o : Nat} {v : Value} (hp : w0.P g) (hc : w0.w.cell? ⟨g, o, none⟩ = some v) : w.cell? ⟨g, o, none⟩ = some v := (World.cell?_of_block (a := ⟨g, o, none⟩) (h.kept.block g hp)).trans hc
end
end Go.Proofs.YtjefgmeejhakbaaGreatDoor

/- A region that draws its order, by what each of its operations leaves: whatever order, what one left stays so when another one goes. -/
namespace Go.Proofs.YtjefgmeejhakbaaGreatDoor
open Go
def DoneAt (listed : Array Bool) (j : Nat) : Prop := listed.getD j false = true
theorem ready_spec {md : Region.Mode} {ops : Array Oper} {listed : Array Bool} {i : Nat} (h : i ∈ Region.ready md ops listed) :
    i < ops.size ∧ listed.getD i true = false ∧ ∀ o, ops[i]? = some o → ∀ e ∈ o.after, Region.binds md e = true → DoneAt listed e.on := by
  unfold Region.ready at h
  obtain ⟨h1, h2⟩ := List.mem_filter.1 h
  have h1 := List.mem_range.1 h1
  simp only [Bool.and_eq_true, Bool.not_eq_true'] at h2
  refine ⟨h1, h2.1, fun o ho e he hb => ?_⟩
  have h3 := h2.2
  rw [ho] at h3
  simp only [Option.map_some, Option.getD_some] at h3
  rw [Array.all_eq_true_iff_forall_mem] at h3
  have := h3 e he
  rw [hb] at this
  simpa [DoneAt] using this
theorem done_set {listed : Array Bool} {i j : Nat} (h : DoneAt (listed.setIfInBounds i true) j) : j = i ∨ DoneAt listed j := by
  unfold DoneAt at *
  by_cases e : j = i
  · exact .inl e
  · right
    simp only [Array.getD_eq_getD_getElem?] at *
    rw [Array.getElem?_setIfInBounds_ne (fun h => e h.symm)] at h
    exact h
theorem done_mono {listed : Array Bool} {i j : Nat} (h : DoneAt listed j) : DoneAt (listed.setIfInBounds i true) j := by
  unfold DoneAt at *
  simp only [Array.getD_eq_getD_getElem?] at *
  by_cases e : i = j
  · subst e
    cases hi : listed[i]? with
    | none => rw [hi] at h; cases h
    | some b =>
      have := (Array.getElem?_eq_some_iff.1 hi).1
      rw [Array.getElem?_setIfInBounds_self_of_lt this]
      rfl
  · rw [Array.getElem?_setIfInBounds_ne e]
    exact h
theorem done_self {listed : Array Bool} {i : Nat} (h : i < listed.size) : DoneAt (listed.setIfInBounds i true) i := by
  unfold DoneAt
  simp only [Array.getD_eq_getD_getElem?]
  rw [Array.getElem?_setIfInBounds_self_of_lt h]
  rfl
def leftOf (n : Nat) (listed : Array Bool) : Nat := ((List.range n).filter (fun i => !listed.getD i true)).length
theorem left_step {n i : Nat} {listed : Array Bool} (hi : i < n) (hs : n ≤ listed.size) (h : listed.getD i true = false) : leftOf n (listed.setIfInBounds i true) < leftOf n listed := by
  unfold leftOf
  have key : ∀ l : List Nat, l.Nodup → i ∈ l → (l.filter (fun j => !(listed.setIfInBounds i true).getD j true)).length < (l.filter (fun j => !listed.getD j true)).length := by
    intro l
    induction l with
    | nil => intro _ h; cases h
    | cons x r ih =>
      intro hn hm
      have hn' := List.nodup_cons.1 hn
      rw [List.filter_cons, List.filter_cons]
      by_cases e : x = i
      · subst e
        have h1 : (listed.setIfInBounds x true).getD x true = true := by
          rw [Array.getD_eq_getD_getElem?, Array.getElem?_setIfInBounds_self_of_lt (by omega)]; rfl
        rw [h1, h]
        have h2 : r.filter (fun j => !(listed.setIfInBounds x true).getD j true) = r.filter (fun j => !listed.getD j true) := List.filter_congr (fun j hj => by
          have : x ≠ j := fun e => hn'.1 (e ▸ hj)
          rw [Array.getD_eq_getD_getElem?, Array.getElem?_setIfInBounds_ne this, ← Array.getD_eq_getD_getElem?])
        rw [h2]
        simp
      · have h1 : (listed.setIfInBounds i true).getD x true = listed.getD x true := by
          rw [Array.getD_eq_getD_getElem?, Array.getElem?_setIfInBounds_ne (fun h => e h.symm), ← Array.getD_eq_getD_getElem?]
        rw [h1]
        have := ih hn'.2 (by rcases List.mem_cons.1 hm with h | h; exact (e h.symm).elim; exact h)
        split
        · simp only [List.length_cons]; omega
        · exact this
  exact key _ List.nodup_range (List.mem_range.2 hi)
section
variable {P : Program} {ops : Array Oper} {Q : Exit → Act → World → Prop}
theorem wpOp_imp {i : Nat} {K K' : Act → World → Prop} {a : Act} {w : World} (h : ∀ a w, K a w → K' a w) (hh : wpOp P ops Q i K a w) : wpOp P ops Q i K' a w := by
  unfold wpOp at *
  split
  · rename_i e
    rw [e] at hh
    exact h _ _ hh
  · rename_i o e
    rw [e] at hh
    simp only at hh ⊢
    split
    · rename_i hw
      rw [if_pos hw] at hh
      exact hh.imp (Oper.wp_mono h) id
    · rename_i hw
      rw [if_neg hw] at hh
      exact h _ _ hh
theorem wpAny_inv (Inv : Array Bool → Act → World → Prop) (hstep : ∀ (listed : Array Bool) (a : Act) (w : World) (i : Nat), Inv listed a w → i ∈ Region.ready .any ops listed → wpOp P ops Q i (Inv (listed.setIfInBounds i true)) a w)
    (hfin : ∀ (listed : Array Bool) (a : Act) (w : World), Inv listed a w → Region.ready .any ops listed = [] → Q .normal a w) :
    ∀ (fuel : Nat) (listed : Array Bool) (a : Act) (w : World), ops.size ≤ listed.size → leftOf ops.size listed ≤ fuel → Inv listed a w → wpAny P .any ops Q fuel listed a w := by
  intro fuel
  induction fuel with
  | zero =>
    intro listed a w hs hl hI
    have hr : Region.ready .any ops listed = [] := by
      cases hc : Region.ready .any ops listed with
      | nil => rfl
      | cons i r =>
        have h := ready_spec (md := .any) (ops := ops) (listed := listed) (i := i) (by rw [hc]; exact List.mem_cons_self ..)
        have := left_step h.1 hs h.2.1
        omega
    exact ⟨hr, hfin listed a w hI hr⟩
  | succ f ih =>
    intro listed a w hs hl hI
    refine ⟨hfin listed a w hI, fun i hi => ?_⟩
    have h := ready_spec hi
    have := left_step h.1 hs h.2.1
    exact wpOp_imp (fun a' w' hI' => ih _ a' w' (by simpa using hs) (by omega) hI') (hstep listed a w i hI hi)
theorem region_inv {id : Nat} {a : Act} {w : World} (hm : P.follows .mixedOrders = true) (Inv : Array Bool → Act → World → Prop)
    (hstart : Inv (Array.replicate ops.size false) a w.drew)
    (hstep : ∀ (listed : Array Bool) (a : Act) (w : World) (i : Nat), Inv listed a w → i ∈ Region.ready .any ops listed → wpOp P ops Q i (Inv (listed.setIfInBounds i true)) a w)
    (hfin : ∀ (listed : Array Bool) (a : Act) (w : World), Inv listed a w → Region.ready .any ops listed = [] → Q .normal a w) : (Code.region id ops true).wp P Q a w := by
  refine wp_region_any hm (wpAny_inv Inv hstep hfin _ _ a _ (by simp) ?_ hstart)
  unfold leftOf
  exact Nat.le_trans (List.length_filter_le _ _) (by simp)
def FixedAt (F : List (Nat × Value)) (a : Act) : Prop := ∀ q ∈ F, a.tmps.getD q.1 undef = q.2
def LeftAt (ops : Array Oper) (p : Nat → Value → World → Prop) (listed : Array Bool) (a : Act) (w : World) : Prop :=
  ∀ (j : Nat) (o : Oper) (d : Tmp), ops[j]? = some o → o.dst = some d → DoneAt listed j → p j (a.tmps.getD d undef) w
def apartB (ops : Array Oper) (F : List (Nat × Value)) (sz : Nat) : Bool :=
  let ds := ops.toList.filterMap (·.dst)
  ds.Nodup && ds.all (fun d => decide (d < sz) && F.all (fun q => q.1 != d)) 
theorem getD_put_ne {a : Act} {d e : Tmp} {v : Value} (h : d ≠ e) : (a.put (some e) v).tmps.getD d undef = a.tmps.getD d undef := by
  simp only [Act.put, Array.getD_eq_getD_getElem?]
  rw [Array.getElem?_setIfInBounds_ne (fun h' => h h'.symm)]
theorem getD_put_same {a : Act} {d : Tmp} {v : Value} (h : d < a.tmps.size) : (a.put (some d) v).tmps.getD d undef = v := by
  simp only [Act.put, Array.getD_eq_getD_getElem?]
  rw [Array.getElem?_setIfInBounds_self_of_lt h]
  rfl
theorem size_put {a : Act} {d : Option Tmp} {v : Value} : (a.put d v).tmps.size = a.tmps.size := by
  cases d <;> simp [Act.put]
theorem defers_put {a : Act} {d : Option Tmp} {v : Value} : (a.put d v).defers = a.defers := by
  cases d <;> rfl
theorem mem_filterMap_idx {l : List Oper} {d : Tmp} (hn : (l.filterMap (·.dst)).Nodup) {i j : Nat} {o o' : Oper} (hi : l[i]? = some o) (hj : l[j]? = some o') (h1 : o.dst = some d) (h2 : o'.dst = some d) : i = j := by
  induction l generalizing i j with
  | nil => cases hi
  | cons x r ih =>
    have hin : ∀ {k : Nat} {y : Oper}, r[k]? = some y → y.dst = some d → d ∈ r.filterMap (·.dst) := fun {k y} hk hy => List.mem_filterMap.2 ⟨y, List.mem_of_getElem? hk, hy⟩
    cases i with
    | zero =>
      cases j with
      | zero => rfl
      | succ j =>
        simp only [List.getElem?_cons_zero, Option.some.injEq] at hi
        subst hi
        rw [List.filterMap_cons, h1] at hn
        exact ((List.nodup_cons.1 hn).1 (hin (by simpa using hj) h2)).elim
    | succ i =>
      cases j with
      | zero =>
        simp only [List.getElem?_cons_zero, Option.some.injEq] at hj
        subst hj
        rw [List.filterMap_cons, h2] at hn
        exact ((List.nodup_cons.1 hn).1 (hin (by simpa using hi) h1)).elim
      | succ j =>
        congr 1
        refine ih ?_ (by simpa using hi) (by simpa using hj)
        rw [List.filterMap_cons] at hn
        split at hn
        · exact hn
        · exact (List.nodup_cons.1 hn).2
def ClosedAt (ops : Array Oper) (listed : Array Bool) : Prop := ∀ (i : Nat) (o : Oper), ops[i]? = some o → DoneAt listed i → ∀ e ∈ o.after, Region.binds .any e = true → DoneAt listed e.on
def backB (ops : Array Oper) : Bool := (List.range ops.size).all (fun i => match ops[i]? with
  | some o => o.after.toList.all (fun e => !Region.binds .any e || decide (e.on < i))
  | none => true)
theorem all_done (hb : backB ops = true) {listed : Array Bool} (hs : listed.size = ops.size) (hr : Region.ready .any ops listed = []) : ∀ i, i < ops.size → DoneAt listed i := by
  intro i
  induction i using Nat.strongRecOn with
  | _ i ih =>
    intro hi
    refine Classical.byContradiction (fun hn => ?_)
    have ho : ops[i]? = some ops[i] := Array.getElem?_eq_getElem hi
    unfold backB at hb
    have hbi := List.all_eq_true.1 hb i (List.mem_range.2 hi)
    rw [ho] at hbi
    simp only at hbi
    rw [List.all_eq_true] at hbi
    have : i ∈ Region.ready .any ops listed := by
      unfold Region.ready
      refine List.mem_filter.2 ⟨List.mem_range.2 hi, ?_⟩
      have h1 : listed.getD i true = false := by
        unfold DoneAt at hn
        rw [Array.getD_eq_getD_getElem?, Array.getElem?_eq_getElem (by omega)] at hn ⊢
        simpa using hn
      rw [h1, ho]
      simp only [Bool.not_false, Bool.true_and, Option.map_some, Option.getD_some]
      rw [Array.all_eq_true_iff_forall_mem]
      intro e he
      have h2 := hbi e (by simpa using he)
      cases hbd : Region.binds .any e with
      | false => rfl
      | true =>
        rw [hbd] at h2
        simp only [Bool.not_true, Bool.false_or, decide_eq_true_eq] at h2
        have := ih e.on h2 (by omega)
        unfold DoneAt at this
        rw [this]
        rfl
    rw [hr] at this
    cases this
theorem done_set_ne {listed : Array Bool} {i j : Nat} (h : j ≠ i) : DoneAt (listed.setIfInBounds i true) j ↔ DoneAt listed j := ⟨fun hd => (done_set hd).resolve_left h, done_mono⟩
instance (listed : Array Bool) (j : Nat) : Decidable (DoneAt listed j) := by unfold DoneAt; infer_instance
theorem not_done_replicate (n j : Nat) : ¬ DoneAt (Array.replicate n false) j := by
  unfold DoneAt
  rw [Array.getD_eq_getD_getElem?, Array.getElem?_replicate]
  split <;> simp
theorem region_plan {id : Nat} {a : Act} {w : World} (hm : P.follows .mixedOrders = true) (p : Nat → Value → World → Prop) (G : Array Bool → Act → World → Prop) (F : List (Nat × Value)) (sz : Nat)
    (hap : apartB ops F sz = true) (hbk : backB ops = true) (hG : G (Array.replicate ops.size false) a w.drew) (hF : FixedAt F a) (hsz : a.tmps.size = sz) (D : List Deferred) (hD : a.defers = D)
    (hstep : ∀ (i : Nat) (o : Oper) (listed : Array Bool) (a : Act) (w : World), i < ops.size → ops[i]? = some o → listed.size = ops.size → ClosedAt ops listed → (∀ e ∈ o.after, Region.binds .any e = true → DoneAt listed e.on) → ¬ DoneAt listed i → G listed a w → LeftAt ops p listed a w → FixedAt F a → a.tmps.size = sz →
      wpOp P ops Q i (fun a' w' => ∃ v, a' = a.put o.dst v ∧ p i v w' ∧ G (listed.setIfInBounds i true) a' w' ∧ ∀ (j : Nat) (u : Value), j ≠ i → DoneAt listed j → p j u w → p j u w') a w)
    (hfin : ∀ (listed : Array Bool) (a : Act) (w : World), (∀ i, i < ops.size → DoneAt listed i) → G listed a w → LeftAt ops p listed a w → FixedAt F a → a.tmps.size = sz → a.defers = D → Q .normal a w) : (Code.region id ops true).wp P Q a w := by
  unfold apartB at hap
  simp only [Bool.and_eq_true, decide_eq_true_eq, List.all_eq_true] at hap
  obtain ⟨hn, hd⟩ := hap
  refine region_inv hm (fun listed a w => listed.size = ops.size ∧ ClosedAt ops listed ∧ G listed a w ∧ LeftAt ops p listed a w ∧ FixedAt F a ∧ a.tmps.size = sz ∧ a.defers = D) ⟨by simp, fun i o _ hdn => (not_done_replicate _ _ hdn).elim, hG, fun j o d _ _ hdn => (not_done_replicate _ _ hdn).elim, hF, hsz, hD⟩ (fun listed a w i hI hi => ?_) (fun listed a w hI hr => hfin listed a w (all_done hbk hI.1 hr) hI.2.2.1 hI.2.2.2.1 hI.2.2.2.2.1 hI.2.2.2.2.2.1 hI.2.2.2.2.2.2)
  obtain ⟨h1, h2, h3⟩ := ready_spec hi
  obtain ⟨hls, hcl, hG', hL, hF', hsz', hD'⟩ := hI
  have ho : ops[i]? = some ops[i] := Array.getElem?_eq_getElem h1
  have hnd : ¬ DoneAt listed i := fun hc => by
    unfold DoneAt at hc
    have : i < listed.size := by omega
    rw [Array.getD_eq_getD_getElem?, Array.getElem?_eq_getElem this] at h2 hc
    simp only [Option.getD_some] at h2 hc
    rw [h2] at hc
    cases hc
  refine wpOp_imp ?_ (hstep i ops[i] listed a w h1 ho hls hcl (h3 _ ho) hnd hG' hL hF' hsz')
  rintro a' w' ⟨v, rfl, hp, hG2, hst⟩
  have hmem : ∀ d, (ops[i]).dst = some d → d ∈ ops.toList.filterMap (·.dst) := fun d e => List.mem_filterMap.2 ⟨ops[i], by simp, e⟩
  refine ⟨by simpa using hls, fun j o hjo hjd e he hb => ?_, hG2, fun j o d hjo hjd hdn => ?_, fun q hq => ?_, by rw [size_put]; exact hsz', by rw [defers_put]; exact hD'⟩
  · rcases done_set hjd with rfl | hjd
    · rw [ho] at hjo
      cases hjo
      exact done_mono (h3 _ ho e he hb)
    · exact done_mono (hcl j o hjo hjd e he hb)
  · by_cases e : j = i
    · subst e
      rw [ho] at hjo
      cases hjo
      have hlt := (hd d (hmem d hjd)).1
      rw [hjd, getD_put_same (by rw [hsz']; exact hlt)]
      exact hp
    · have hdj : DoneAt listed j := (done_set hdn).resolve_left e
      have hbase := hst j _ e hdj (hL j o d hjo hjd hdj)
      cases hid : (ops[i]).dst with
      | none => exact hbase
      | some d2 =>
        have hne : d ≠ d2 := fun e2 => e (mem_filterMap_idx hn (i := j) (j := i) (o' := ops[i]) (by simpa using hjo) (by simp [h1]) hjd (by rw [hid, e2]))
        rw [getD_put_ne hne]
        exact hbase
  · cases hid : (ops[i]).dst with
    | none => exact hF' q hq
    | some d2 =>
      have := (hd d2 (hmem d2 hid)).2 q hq
      rw [getD_put_ne (by simpa using this)]
      exact hF' q hq
theorem wpOp_val {i : Nat} {o : Oper} {a : Act} {w w' : World} {v : Value} {K : Act → World → Prop} (ho : ops[i]? = some o) (hg : o.guard = none) (hr : (execOp a.eval o).run P w = .ok (.value v) w') (h : K (a.put o.dst v) w') : wpOp P ops Q i K a w := by
  unfold wpOp
  rw [ho]
  simp only
  rw [if_pos (by simp [Region.wanted, hg])]
  left
  unfold Oper.wp
  rw [hr]
  exact h
theorem wpOp_skip {i : Nat} {o : Oper} {a : Act} {w w' : World} {K : Act → World → Prop} (ho : ops[i]? = some o) (hg : o.guard = none) (hr : (execOp a.eval o).run P w = .ok .skip w') (h : K (a.put o.dst undef) w') : wpOp P ops Q i K a w := by
  unfold wpOp
  rw [ho]
  simp only
  rw [if_pos (by simp [Region.wanted, hg])]
  left
  unfold Oper.wp
  rw [hr]
  exact h
theorem wpOp_law {i : Nat} {o : Oper} {a : Act} {w : World} {K : Act → World → Prop} (ho : ops[i]? = some o) (hg : o.guard = none) (h : if Region.wanted o (yielded ops a.tmps) = true then Oper.wp P o a w K Q else True) : wpOp P ops Q i K a w := by
  unfold wpOp
  rw [ho]
  simp only
  have hw : Region.wanted o (yielded ops a.tmps) = true := by simp [Region.wanted, hg]
  rw [if_pos hw] at h ⊢
  exact .inl h
end
end Go.Proofs.YtjefgmeejhakbaaGreatDoor
