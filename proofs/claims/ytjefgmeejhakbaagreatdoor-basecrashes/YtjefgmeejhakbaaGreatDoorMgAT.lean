/- KtTells KtOk KtPok KtBegin: put together for a claim. -/
import Derived.Test.YtjefgmeejhakbaaGreatDoorMgAR
/- Plain: an engine and its tale go on as they should: what each one reads is what it should. -/
namespace Go.Proofs.YtjefgmeejhakbaaGreatDoor

def valOr (o : Option (Int × Int)) : Int := match o with
  | some p => p.2
  | none => -1
theorem find_allK (f : Nat → Option (Int × Int)) (k : Int) : ∀ m : Nat, (allK f m).find? (fun p => p.1 == k) = if 0 ≤ k ∧ k < m then (f k.toNat).map (fun p => (k, p.2)) else none
  | 0 => by rw [if_neg (by omega)]; rfl
  | m + 1 => by
    rw [allK, List.find?_append, find_allK f k m]
    by_cases h1 : 0 ≤ k ∧ k < m
    · rw [if_pos h1, if_pos (by omega)]
      cases hf : f k.toNat with
      | some p => rfl
      | none =>
        simp only [Option.map_none, Option.none_or]
        cases hm : f m with
        | none => rfl
        | some p =>
          have : ((m : Int) == k) = false := by simp; omega
          simp [this]
    · rw [if_neg h1]
      by_cases h2 : k = m
      · subst h2
        rw [if_pos (by omega)]
        simp only [Int.toNat_natCast, Option.none_or]
        cases hm : f m with
        | none => rfl
        | some p => simp
      · rw [if_neg (by omega)]
        simp only [Option.none_or]
        cases hm : f m with
        | none => rfl
        | some p =>
          have : ((m : Int) == k) = false := by simp; omega
          simp [this]
theorem of_all (E : Eng) {k : Int} (hk : 0 ≤ k ∧ k < 10) : ofP (allE E) k = valOr (rdP E.last (E.ks[k.toNat]?.getD [])) := by
  unfold ofP allE
  rw [find_allK, if_pos (by omega)]
  cases rdP E.last (E.ks[k.toNat]?.getD []) <;> rfl
theorem of_writes {V : Int → Option Int} (hV : ∀ k, V k ≠ none → 0 ≤ k ∧ k < 10) (k : Int) : (writesP V).find? (fun p => p.1 == k) = (V k).map (fun x => (k, x)) := by
  unfold writesP
  rw [List.find?_map]
  have key : ∀ l : List Int, l.find? (fun x => x == k) = if k ∈ l then some k else none := by
    intro l
    induction l with
    | nil => rfl
    | cons x r ih =>
      rw [List.find?_cons]
      by_cases e : x = k
      · subst e; simp
      · have : (x == k) = false := by simpa using e
        rw [this, ih]
        have e' : ¬ k = x := fun h => e h.symm
        simp [e']
  show Option.map _ ((keysOf V).find? (fun x => x == k)) = _
  rw [key]
  cases hv : V k with
  | none => rw [if_neg (fun hm => by rw [mem_keysOf hV, hv] at hm; cases hm)]; rfl
  | some x => rw [if_pos ((mem_keysOf hV k).2 (by rw [hv]; rfl))]; simp [hv]

abbrev full0 (C : CE) (a : Int) : List (Int × Int) := full 0 (fun _ => none) C a
abbrev Mid0 (E : Eng) : Prop := Mid 0 (fun _ => none) E.ce noQ
/-- As of a time by which nothing that may be read was swept. -/
theorem Mid.rd_full {a0 : Int} {K0 : Int → Option Int} {E : Eng} {Q : Nat → Prop} (h : Mid a0 K0 E.ce Q) {k u : Int} (hk : 0 ≤ k ∧ k < 10) (hu : E.ce.Sees u) : rdP u (E.ks[k.toNat]?.getD []) = rdP u (full a0 K0 E.ce k) := by
  obtain ⟨d, h1, h3, h4⟩ := h.com.kss k.toNat (by omega)
  have hk' : ((k.toNat : Nat) : Int) = k := by omega
  rw [hk'] at h1 h3 h4
  have h3' : E.ks[k.toNat]? = some ((full a0 K0 E.ce k).drop d) := h3
  rw [h3']
  exact rdP_drop _ _ _ (h4 u hu)

/-- An engine and its tale. -/
structure Tells (E : Eng) (t : Tal) : Prop where
  mid : Mid0 E
  llev : t.level.length = E.txs.length
  lsnap : t.snap.length = E.txs.length
  lown : t.own.length = E.txs.length
  lreads : t.reads.length = E.txs.length
  lbegun : t.begun.length = E.txs.length
  lover : t.over.length = E.txs.length
  lev : ∀ (i : Nat) (u : Tx), E.txs[i]? = some u → t.level[i]? = some u.level
  own : OwnOk (ownT t) E.ce
  snap : ∀ (i : Nat) (u : Tx), E.txs[i]? = some u → ∀ k, 0 ≤ k ∧ k < 10 → ofP (t.snap[i]?.getD []) k = valOr (rdP u.start (full0 E.ce k))
  ok : t.broken = false
  num : 0 ≤ t.n ∧ t.n ≤ t.steps
  ovr : ∀ o ∈ t.over, o ≤ t.steps
  ovp : ∀ o ∈ t.over, 0 ≤ o
  ovn : ∀ (k : Nat) (u : Tx), E.txs[k]? = some u → 2 ≤ u.state → 0 < t.over[k]?.getD 0
  bgn : ∀ o ∈ t.begun, 0 < o ∧ o ≤ t.steps
  ord : ∀ (i k : Nat) (u : Tx) (c : Int), E.txs[i]? = some u → E.wr c = some ((k : Int) + 1) → c ≤ u.start → t.over[k]?.getD 0 < t.begun[i]?.getD 0
  mono : ∀ (i k : Nat) (u v : Tx), k ≤ i → E.txs[k]? = some v → E.txs[i]? = some u → v.start ≤ u.start
  late : ∀ (c : Int) (i : Nat) (u : Tx), E.wr c = some ((i : Int) + 1) → E.txs[i]? = some u → u.start < c
  rds : ∀ (i : Nat) (u : Tx) (l : List (Int × Int)), E.txs[i]? = some u → u.level ≠ 0 → t.reads[i]? = some l → ∀ p ∈ l, (0 ≤ p.1 ∧ p.1 < 10) ∧ p.2 = valOr (rdP u.start (full0 E.ce p.1))

section
variable {E E' : Eng} {t t' : Tal}
theorem later_len {C C' : CE} (h : Later C C') : C.cs.length ≤ C'.cs.length := by
  rcases Nat.eq_zero_or_pos C.cs.length with h0 | h0
  · omega
  · obtain ⟨u, hu, _⟩ := h.keep (C.cs.length - 1) C.cs[C.cs.length - 1] (List.getElem?_eq_getElem _)
    have := (List.getElem?_eq_some_iff.1 hu).1
    omega
theorem Later.tx (h : Later E.ce E'.ce) (hl : E'.txs.length = E.txs.length) {i : Nat} {u' : Tx} (hu : E'.txs[i]? = some u') : ∃ u, E.txs[i]? = some u ∧ u'.level = u.level ∧ u'.start = u.start := by
  have hi : i < E.txs.length := by rw [← hl]; exact (List.getElem?_eq_some_iff.1 hu).1
  have hu0 : E.txs[i]? = some E.txs[i] := List.getElem?_eq_getElem hi
  obtain ⟨c, hc, h1, h2, _⟩ := h.keep i _ (cs_get hu0)
  rw [cs_get hu] at hc
  cases hc
  exact ⟨_, hu0, h1, h2⟩
theorem over_le {E : Eng} {s : Int} {j : Nat} {l : List Int} (h : ∀ o ∈ l, o ≤ s) : ∀ o ∈ overTo E s j l, o ≤ s := fun o ho => by
  unfold overTo at ho
  obtain ⟨i, hi, rfl⟩ := List.mem_mapIdx.1 ho
  split
  · exact Int.le_refl _
  · exact h _ (List.getElem_mem _)
theorem over_get (E : Eng) (s : Int) (j : Nat) (l : List Int) (i : Nat) : (overTo E s j l)[i]? = (l[i]?).map (fun o => if i < j ∧ o = 0 ∧ overB E i = true then s else o) := by
  unfold overTo
  rw [List.getElem?_mapIdx]
/-- A step by which no transaction is begun, and what is told besides is told rightly. -/
theorem Tells.go (h : Tells E t) (hM : Mid0 E') (hL : Later E.ce E'.ce) (hlen : E'.txs.length = E.txs.length) {own' : List (Int → Option Int)} {reads' : List (List (Int × Int))} {n' : Int} (hown : OwnOk (fun i => own'[i]?.getD (fun _ => none)) E'.ce) (ho : own'.length = t.own.length) (hr : reads'.length = t.reads.length)
    (hrd : ∀ (i : Nat) (u : Tx) (l : List (Int × Int)), E.txs[i]? = some u → u.level ≠ 0 → reads'[i]? = some l → ∀ p ∈ l, (0 ≤ p.1 ∧ p.1 < 10) ∧ p.2 = valOr (rdP u.start (full0 E.ce p.1))) (hn : 0 ≤ n' ∧ n' ≤ t.steps + 1) (hlate : ∀ c, E.last < c → E'.wr c ≠ none → ∀ (i : Nat) (u : Tx), E.txs[i]? = some u → u.start < c) :
    Tells E' (endT E' { t with own := own', reads := reads', n := n', steps := t.steps + 1, broken := false }) := by
  have hC := h.mid.com
  have hC' := hM.com
  have hst : ∀ (i : Nat) (u : Tx), E.txs[i]? = some u → u.start ≤ E.ce.last := fun i u hu => (hC.start i _ (cs_get hu)).2
  have hwr : ∀ c, c ≤ E.last → E'.wr c = E.wr c := fun c hc => hL.wr hC hC' hc
  refine ⟨hM, h.llev.trans hlen.symm, h.lsnap.trans hlen.symm, ho.trans (h.lown.trans hlen.symm), hr.trans (h.lreads.trans hlen.symm), h.lbegun.trans hlen.symm, ?_, fun i u hu => ?_, hown, fun i u hu k hk => ?_, rfl, hn, ?_, ?_, fun k u hu h2 => ?_, fun o ho => ?_, fun i k u c hu hc hcs => ?_, fun i k u v hki hv hu => ?_, fun c i u hc hu => ?_, fun i u l hu hlv hl p hp => ?_⟩
  · show (overTo E' (t.steps + 1) t.over.length t.over).length = _
    unfold overTo
    rw [List.length_mapIdx]
    exact h.lover.trans hlen.symm
  · obtain ⟨v, hv, e1, _⟩ := hL.tx hlen hu
    rw [e1]
    exact h.lev i v hv
  · obtain ⟨v, hv, _, e2⟩ := hL.tx hlen hu
    rw [e2]
    show ofP (t.snap[i]?.getD []) k = _
    rw [h.snap i v hv k hk, hL.rd hC k (hst i v hv)]
  · exact over_le (fun o ho => by have := h.ovr o ho; show o ≤ t.steps + 1; omega)
  · intro o ho
    have hnum := h.num
    obtain ⟨i, hi, rfl⟩ := List.mem_mapIdx.1 (show o ∈ t.over.mapIdx _ from ho)
    split
    · show 0 ≤ t.steps + 1
      omega
    · exact h.ovp _ (List.getElem_mem _)
  · show 0 < (overTo E' (t.steps + 1) t.over.length t.over)[k]?.getD 0
    have hk : k < t.over.length := by rw [h.lover, ← hlen]; exact (List.getElem?_eq_some_iff.1 hu).1
    rw [over_get, List.getElem?_eq_getElem hk]
    simp only [Option.map_some, Option.getD_some]
    have hov : overB E' k = true := by unfold overB; rw [hu]; simpa using h2
    have hnum := h.num
    by_cases ho : t.over[k] = 0
    · rw [if_pos ⟨hk, ho, hov⟩]; omega
    · rw [if_neg (fun hc => ho hc.2.1)]
      have hpos := h.ovp t.over[k] (List.getElem_mem _)
      omega
  · have := h.bgn o ho
    exact ⟨this.1, by show o ≤ t.steps + 1; omega⟩
  · obtain ⟨v, hv, _, e2⟩ := hL.tx hlen hu
    rw [e2] at hcs
    have hle : c ≤ E.last := Int.le_trans hcs (hst i v hv)
    rw [hwr c hle] at hc
    have h1 := h.ord i k v c hv hc hcs
    show (overTo E' (t.steps + 1) t.over.length t.over)[k]?.getD 0 < t.begun[i]?.getD 0
    rw [over_get]
    cases hk : t.over[k]? with
    | none => rw [hk] at h1; exact h1
    | some o =>
      rw [hk] at h1
      simp only [Option.map_some, Option.getD_some] at h1 ⊢
      split
      · rename_i hx
        obtain ⟨w, hw, hw2⟩ := (hC.coms k).1 (List.mem_filter.1 (hC.wr_com hc)).1
        obtain ⟨x, hx2, e⟩ := cs_of hw
        have h3 : x.state = 2 := by have := congrArg Cor.state e; exact this.trans hw2
        have := h.ovn k x hx2 (by omega)
        rw [hk] at this
        simp only [Option.getD_some] at this
        omega
      · exact h1
  · obtain ⟨u0, hu0, _, e1⟩ := hL.tx hlen hu
    obtain ⟨v0, hv0, _, e2⟩ := hL.tx hlen hv
    rw [e1, e2]
    exact h.mono i k u0 v0 hki hv0 hu0
  · obtain ⟨v, hv, _, e2⟩ := hL.tx hlen hu
    rw [e2]
    by_cases hle : c ≤ E.last
    · rw [hwr c hle] at hc
      exact h.late c i v hc hv
    · exact hlate c (by omega) (by rw [hc]; exact nofun) i v hv
  · obtain ⟨v, hv, e1, e2⟩ := hL.tx hlen hu
    rw [e1] at hlv
    rw [e2, hL.rd hC p.1 (hst i v hv)]
    exact hrd i v l hv hlv hl p hp
end

end Go.Proofs.YtjefgmeejhakbaaGreatDoor

/- Plain: what is asked of a tale stays so. -/
namespace Go.Proofs.YtjefgmeejhakbaaGreatDoor

/-- Nobody has read more. -/
def RdLe (E E' : Eng) : Prop := ∀ u' ∈ E'.txs, ∃ u ∈ E.txs, u'.reads.length ≤ u.reads.length
theorem RdLe.refl (E : Eng) : RdLe E E := fun u hu => ⟨u, hu, Nat.le_refl _⟩
theorem RdLe.trans {A B C : Eng} (h : RdLe A B) (k : RdLe B C) : RdLe A C := fun u hu => by
  obtain ⟨v, hv, h1⟩ := k u hu
  obtain ⟨w, hw, h2⟩ := h v hv
  exact ⟨w, hw, by omega⟩
theorem RdLe.set {E : Eng} {i : Nat} {t t' : Tx} (ht : E.txs[i]? = some t) (h : t'.reads.length ≤ t.reads.length) : RdLe E (E.setTx i t') := fun u hu => by
  rcases List.mem_or_eq_of_mem_set hu with hu | rfl
  · exact ⟨u, hu, Nat.le_refl _⟩
  · exact ⟨t, List.mem_of_getElem? ht, h⟩
theorem RdLe.of_txs {E E' : Eng} (h : E'.txs = E.txs) : RdLe E E' := fun u hu => ⟨u, by rw [← h]; exact hu, Nat.le_refl _⟩
theorem rd_putAhead (E : Eng) (i j : Nat) : RdLe E (putAheadP E i j).2 := by
  unfold putAheadP
  split
  · rename_i t u ht hu
    intro v hv
    simp only [Eng.setTx] at hv
    rcases List.mem_or_eq_of_mem_set hv with hv | rfl
    · rcases List.mem_or_eq_of_mem_set hv with hv | rfl
      · exact ⟨v, hv, Nat.le_refl _⟩
      · exact ⟨t, List.mem_of_getElem? ht, Nat.le_refl _⟩
    · exact ⟨u, List.mem_of_getElem? hu, Nat.le_refl _⟩
  · exact RdLe.refl E
theorem rd_aheadAll (f : Nat → Nat × Nat) : ∀ (js : List Nat) (E : Eng), RdLe E (aheadAll f js E).2
  | [], E => RdLe.refl E
  | j :: r, E => by
    have h1 := rd_putAhead E (f j).1 (f j).2
    unfold aheadAll
    rcases hp : putAheadP E (f j).1 (f j).2 with ⟨b, E'⟩
    rw [hp] at h1
    cases b with
    | true => exact h1.trans (rd_aheadAll f r E')
    | false => exact h1
theorem rd_aheadEach (i : Nat) : ∀ (js : List Nat) (E : Eng), RdLe E (aheadEach i js E)
  | [], E => RdLe.refl E
  | j :: r, E => by
    unfold aheadEach
    exact (rd_putAhead E i j).trans (rd_aheadEach i r _)
theorem rd_aheadTimes (i : Nat) : ∀ (ts : List Int) (E : Eng), RdLe E (aheadTimes i ts E).2
  | [], E => RdLe.refl E
  | a :: r, E => by
    unfold aheadTimes
    split
    · rename_i j _
      have h1 := rd_putAhead E i j
      rcases hp : putAheadP E i j with ⟨b, E'⟩
      rw [hp] at h1
      cases b with
      | true => exact h1.trans (rd_aheadTimes i r E')
      | false => exact h1
    · exact rd_aheadTimes i r E
theorem rd_aow (E : Eng) (i : Nat) (key : Int) : RdLe E (aowP E i key).2 := by
  unfold aowP
  split
  · rename_i t _
    have h1 := rd_aheadTimes i (newerP E key t.start) E
    rcases hp : aheadTimes i (newerP E key t.start) E with ⟨b, E'⟩
    rw [hp] at h1
    cases b with
    | true => exact h1.trans (rd_aheadEach i _ E')
    | false => exact h1
  · exact RdLe.refl E
theorem rd_put (E : Eng) (j : Nat) : RdLe E (putE E j).2 := by
  unfold putE
  split
  · rename_i t ht
    split
    · exact RdLe.refl E
    · have h1 : RdLe E (E.setTx j { t with vals := updT t.vals t.wk (some t.wv) }) := RdLe.set ht (Nat.le_refl _)
      simp only
      split
      · have h2 := rd_aheadAll (fun m => (m, j)) (thoseP (E.setTx j { t with vals := updT t.vals t.wk (some t.wv) }) (hasReadB t.wk j)) (E.setTx j { t with vals := updT t.vals t.wk (some t.wv) })
        rcases hb : behindP (E.setTx j { t with vals := updT t.vals t.wk (some t.wv) }) j t.wk with ⟨b, E3⟩
        unfold behindP at hb
        rw [hb] at h2
        cases b <;> exact h1.trans h2
      · exact h1
  · exact RdLe.refl E
theorem rd_upd (E : Eng) (i : Nat) (f : Tx → Tx) (hf : ∀ t, (f t).reads.length ≤ t.reads.length) : RdLe E (E.upd i f) := by
  unfold Eng.upd
  split
  · rename_i t ht
    exact RdLe.set ht (hf t)
  · exact RdLe.refl E
theorem rd_over (E : Eng) (i : Nat) (st : Int) : RdLe E (overE E i st) := (rd_upd E i (fun t => { t with state := st, bae := E.txs.length }) (fun _ => Nat.le_refl _)).trans (RdLe.of_txs rfl)
theorem rd_lose (E : Eng) (i : Nat) (why : Int) : RdLe E (loseE E i why) := by
  unfold loseE
  split
  · rename_i t ht
    refine RdLe.trans (B := { E with txs := (E.txs.set i { t with why := why }).map (freeOf ((i : Int) + 1)) }) ?_ (rd_upd _ i _ (fun _ => Nat.zero_le _))
    intro u hu
    obtain ⟨v, hv, rfl⟩ := List.mem_map.1 hu
    rcases List.mem_or_eq_of_mem_set hv with hv | rfl
    · exact ⟨v, hv, Nat.le_refl _⟩
    · exact ⟨t, List.mem_of_getElem? ht, Nat.le_refl _⟩
  · exact RdLe.refl E
theorem rd_wake (E : Eng) (j : Nat) : RdLe E (wakeE E j) := rd_upd E j _ (fun _ => Nat.le_refl _)
theorem goes_rd (a0 : Int) (K0 : Int → Option Int) (E0 : Eng) : Goes a0 K0 (fun E _ => RdLe E0 E) := by
  refine ⟨fun E Q j E2 _ hP _ hp => ?_, fun E Q j why E2 _ hP _ hp _ => ?_⟩
  · have := rd_put (wakeE E j) j
    rw [hp] at this
    exact hP.trans ((rd_wake E j).trans this)
  · have := rd_put (wakeE E j) j
    rw [hp] at this
    exact (hP.trans ((rd_wake E j).trans this)).trans ((rd_lose E2 j why).trans (rd_over _ j 3))
/-- What is kept besides, by all that go on. -/
def Kp (E0 : Eng) (E : Eng) (_ : Nat → Prop) : Prop := RdLe E0 E ∧ Later E0.ce E.ce
theorem goes_kp (E0 : Eng) : Goes 0 (fun _ => none) (Kp E0) := goes_and (goes_rd _ _ E0) (goes_later _ _ E0.ce)

theorem inst_txs (E : Eng) (i : Nat) : (installE E i).txs = E.txs := by
  unfold installE
  split
  · split <;> rfl
  · rfl
/-- A step of one that is there. -/
structure Went (E E' : Eng) (n : Nat) : Prop where
  mid : Mid0 E'
  rd : ∀ u ∈ E'.txs, u.reads.length ≤ n
  later : Later E.ce E'.ce
section
variable {E E' : Eng} {i : Nat} {u : Tx} {n : Nat}
theorem rd_of (h : RdLe E E') (hn : ∀ u ∈ E.txs, u.reads.length ≤ n) : ∀ u ∈ E'.txs, u.reads.length ≤ n := fun v hv => by
  obtain ⟨w, hw, h1⟩ := h v hv
  have := hn w hw
  omega
theorem went_commit (hM : Mid0 E) (hn : ∀ u ∈ E.txs, u.reads.length ≤ n) (hu : E.txs[i]? = some u) (hs : u.state = 0) {R : Int × Eng} (hR : commitE 7 E i = some R) : Went E R.2 n ∧ R.2.ce.live < E.ce.live := by
  have hl : liveB u.state = true := live_iff.2 (.inl hs)
  by_cases hb : Between u.ahead u.behind
  · obtain ⟨E', h1, h2, h3, h4⟩ := commit_bad (goes_kp E) hM hu hl hb ⟨(rd_lose E i 13).trans (rd_over _ i 3), later_gone hu hl 13⟩
    rw [h1] at hR
    injection hR with hR
    subst hR
    exact ⟨⟨h2, rd_of h3.1 hn, h3.2⟩, h4⟩
  · obtain ⟨E', h1, h2, h3, h4⟩ := commit_ok (goes_kp E) hM hu hl hb ⟨(RdLe.of_txs (E' := { (installE E i) with com := E.com ++ [i] }) (inst_txs E i)).trans (rd_over _ i 2), later_commit hu hl⟩
    rw [h1] at hR
    injection hR with hR
    subst hR
    exact ⟨⟨h2, rd_of h3.1 hn, h3.2⟩, h4⟩
theorem went_abort (hM : Mid0 E) (hn : ∀ u ∈ E.txs, u.reads.length ≤ n) (hu : E.txs[i]? = some u) (hl : liveB u.state = true) (hR : endF 7 (loseE E i 0) i 3 = some E') : Went E E' n ∧ E'.ce.live < E.ce.live := by
  obtain ⟨E2, h1, h2, h3, h4⟩ := lose_ok (goes_kp E) hM hu hl (why := 0) ⟨(rd_lose E i 0).trans (rd_over _ i 3), later_gone hu hl 0⟩
  rw [h1] at hR
  injection hR with hR
  subst hR
  exact ⟨⟨h2, rd_of h3.1 hn, h3.2⟩, h4⟩
theorem went_read (hM : Mid0 E) (hn : ∀ u ∈ E.txs, u.reads.length ≤ n) (hu : E.txs[i]? = some u) (hs : u.state = 0) {key : Int} (hk : 0 ≤ key ∧ key < 10) {R : (Int × Int) × Eng} (hR : readE 7 E i key = some R) : Went E R.2 (n + 1) := by
  cases hv : u.vals key with
  | some v =>
    have e : R = ((v, 0), E) := by
      unfold readE at hR
      rw [hu] at hR
      simp only at hR
      rw [hv] at hR
      injection hR with hR
      exact hR.symm
    subst e
    exact ⟨hM, fun u hu => by have := hn u hu; omega, Later.refl _⟩
  | none =>
    have hnote : ∀ v ∈ (noteE E i u key).txs, v.reads.length ≤ n + 1 := fun v hv => by
      rcases List.mem_or_eq_of_mem_set hv with hv | rfl
      · have := hn v hv; omega
      · have := hn u (List.mem_of_getElem? hu)
        show (u.reads ++ [_]).length ≤ n + 1
        simp
        omega
    have hln : Later E.ce (noteE E i u key).ce := by rw [ce_note hu]; exact Later.refl _
    have hN : (noteE E i u key).txs[i]? = some (noteReadP u key ((E.wr (verP E key (seesP E u)).1.1).getD 0)) := setTx_get hu
    obtain ⟨R', h1, h2, h3, _⟩ := read_ok (goes_kp (noteE E i u key)) hM hu hs hk hv (fun _ => ⟨RdLe.refl _, Later.refl _⟩) (fun E2 _ ha => by
        have h5 := rd_aow (noteE E i u key) i key
        have h6 := ce_aow (noteE E i u key) i key
        rw [ha] at h5 h6
        exact ⟨h5, by rw [h6]; exact Later.refl _⟩) (fun E2 _ ha => by
        have h5 := rd_aow (noteE E i u key) i key
        have h6 := ce_aow (noteE E i u key) i key
        rw [ha] at h5 h6
        simp only at h6
        obtain ⟨v, hv2, e⟩ : ∃ v, E2.txs[i]? = some v ∧ cor v = cor u := cs_of (by rw [h6, ce_note hu]; exact cs_get hu)
        have hvs : v.state = 0 := by have := congrArg Cor.state e; exact this.trans hs
        have h7 := later_gone hv2 (live_iff.2 (.inl hvs)) 13
        rw [h6] at h7
        exact ⟨h5.trans ((rd_lose E2 i 13).trans (rd_over _ i 3)), h7⟩)
    rw [h1] at hR
    injection hR with hR
    subst hR
    exact ⟨h2, rd_of h3.1 hnote, hln.trans h3.2⟩
theorem later_want (hu : E.txs[i]? = some u) (hs : u.state = 0) (key val : Int) (T' : Tab) : Later E.ce (wantE E i u key val T').ce := by
  rw [want_ce]
  exact Later.set (t' := { cor u with wk := key, wv := val }) (cs_get hu) (live_iff.2 (.inl hs)) rfl rfl rfl rfl
theorem rd_want (hu : E.txs[i]? = some u) (key val : Int) (T' : Tab) : RdLe E (wantE E i u key val T') := (RdLe.set (t' := { u with wk := key, wv := val }) hu (Nat.le_refl _)).trans (RdLe.of_txs rfl)
theorem later_putOpen {E2 : Eng} {why : Int} (hu : E.txs[i]? = some u) (hs : u.state = 0) (hp : putE E i = (why, E2)) : Later E.ce E2.ce ∧ ∃ v, E2.txs[i]? = some v ∧ v.state = 0 := by
  have hl : liveB u.state = true := live_iff.2 (.inl hs)
  rcases ce_put hu hp with ⟨rfl, rfl, _, _⟩ | ⟨hy, hn, he⟩
  · exact ⟨Later.refl _, u, hu, hs⟩
  · obtain ⟨v, hv, e⟩ := cs_of (E := E2) (i := i) (by rw [he]; exact set_same (cs_get hu))
    exact ⟨Later.set (t' := { cor u with vals := updT u.vals u.wk (some u.wv) }) (cs_get hu) hl rfl rfl (by rw [he]) (by rw [he]), v, hv, by have := congrArg Cor.state e; exact this.trans hs⟩
theorem went_write (hM : Mid0 E) (hn : ∀ u ∈ E.txs, u.reads.length ≤ n) (hu : E.txs[i]? = some u) (hs : u.state = 0) {key val : Int} (hk : 0 ≤ key ∧ key < 10) (hv : -1099511627776 ≤ val ∧ val ≤ 1099511627776) {q : Int → Nat} (hq : Ranked E.T q) {R : (Bool × Int) × Eng} (hR : writeE 7 q E i key val = some R) : Went E R.2 n := by
  have hl : liveB u.state = true := live_iff.2 (.inl hs)
  obtain ⟨R', h1, h2, h3, _⟩ := write_ok (goes_kp E) hM hu hs hk hv hq
    ⟨(rd_want hu key val E.T).trans ((rd_lose _ i 11).trans (rd_over _ i 3)), (later_want hu hs key val E.T).trans (later_gone (want_get (key := key) (val := val) hu E.T) hl 11)⟩
    ⟨(rd_want hu key val _).trans (RdLe.set (want_get (key := key) (val := val) hu _) (Nat.le_refl _)), (later_want hu hs key val _).trans (by
      rw [ce_set]
      exact Later.set (t' := cor { u with wk := key, wv := val, state := 1 }) (cs_get (want_get (key := key) (val := val) hu _)) hl rfl rfl rfl rfl)⟩
    (fun T' E2 _ hp => by
      have h5 := rd_put (wantE E i u key val T') i
      rw [hp] at h5
      exact ⟨(rd_want hu key val T').trans h5, (later_want hu hs key val T').trans (later_putOpen (want_get (key := key) (val := val) hu T') hs hp).1⟩)
    (fun T' why E2 _ _ hp => by
      have h5 := rd_put (wantE E i u key val T') i
      rw [hp] at h5
      obtain ⟨h6, v, hv2, hvs⟩ := later_putOpen (want_get (key := key) (val := val) hu T') hs hp
      exact ⟨((rd_want hu key val T').trans h5).trans ((rd_lose E2 i why).trans (rd_over _ i 3)), ((later_want hu hs key val T').trans h6).trans (later_gone hv2 (live_iff.2 (.inl hvs)) why)⟩)
  rw [h1] at hR
  injection hR with hR
  subst hR
  exact ⟨h2, rd_of h3.1 hn, h3.2⟩
end

end Go.Proofs.YtjefgmeejhakbaaGreatDoor

/- Plain: each act keeps what is asked of a tale. -/
namespace Go.Proofs.YtjefgmeejhakbaaGreatDoor

structure POk (E : Eng) (t : Tal) (n : Nat) : Prop where
  mid : Mid0 E
  steps : 0 ≤ t.steps ∧ t.steps ≤ n
  num : 0 ≤ t.n ∧ t.n ≤ n
  rd : ∀ u ∈ E.txs, u.reads.length ≤ n
  tr : ∀ l ∈ t.reads, l.length ≤ n
  ts : ∀ l ∈ t.snap, l.length ≤ 10
theorem all_len (E : Eng) : (allE E).length ≤ 10 := by
  have key : ∀ (f : Nat → Option (Int × Int)) (m : Nat), (allK f m).length ≤ m := by
    intro f m
    induction m with
    | zero => simp [allK]
    | succ m ih =>
      rw [allK]
      cases f m <;> simp <;> omega
  exact key _ 10
theorem POk.step {E E' : Eng} {t : Tal} {n : Nat} (h : POk E t n) (hM : Mid0 E') (hr : ∀ u ∈ E'.txs, u.reads.length ≤ n + 1) {own' : List (Int → Option Int)} {over' : List Int} {reads' : List (List (Int × Int))} {n' : Int} {b : Bool} (hn : 0 ≤ n' ∧ n' ≤ n + 1) (htr : ∀ l ∈ reads', l.length ≤ n + 1) : POk E' { t with own := own', over := over', reads := reads', n := n', steps := t.steps + 1, broken := b } (n + 1) :=
  ⟨hM, by have := h.steps; show 0 ≤ t.steps + 1 ∧ t.steps + 1 ≤ ((n + 1 : Nat) : Int); omega, by show 0 ≤ n' ∧ n' ≤ ((n + 1 : Nat) : Int); omega, hr, htr, h.ts⟩
theorem mem_set_len {l : List (List (Int × Int))} {x n : Nat} {y : List (Int × Int)} (h : ∀ m ∈ l, m.length ≤ n) (hy : y.length ≤ n + 1) : ∀ m ∈ l.set x y, m.length ≤ n + 1 := fun m hm => by
  rcases List.mem_or_eq_of_mem_set hm with hm | rfl
  · have := h m hm; omega
  · exact hy
theorem mid0_eng0 : Mid0 eng0 := by
  have hcw : eng0.ce.cw = [] := rfl
  refine ⟨⟨good0, fun k x h => (by cases h), fun k i h => (by cases h), fun i t h => (by simp [eng0, Eng.ce] at h), fun i h => h.elim, fun i t k h => (by simp [eng0, Eng.ce] at h)⟩, ⟨fun i t h => (by simp [eng0, Eng.ce] at h), by decide, by decide⟩, ?_⟩
  refine ⟨List.Pairwise.nil, fun i => ⟨fun h => (by cases h), fun ⟨t, h, _⟩ => (by simp [eng0, Eng.ce] at h)⟩, fun i t h => (by simp [eng0, Eng.ce] at h), by decide, rfl, rfl, fun c => ?_, rfl, fun a ha => ⟨0, Nat.zero_le _, ?_, fun u _ => .inl rfl⟩, fun i j t a c h => (by simp [eng0, Eng.ce] at h)⟩
  · rw [hcw]
    split <;> rfl
  · show (List.replicate 10 ([] : List (Int × Int)))[a]? = _
    rw [List.getElem?_replicate, if_pos ha]
    rfl
def tal00 : Tal := ⟨[], [], [], [], [], [], 0, 0, false⟩
theorem pok0 : POk eng0 tal00 0 := ⟨mid0_eng0, by decide, by decide, fun u hu => (by cases hu), fun u hu => (by cases hu), fun u hu => (by cases hu)⟩

theorem Does.pok {lv : Int} {E E' : Eng} {t t' : Tal} {n : Nat} (hd : Does lv E t E' t') (h : POk E t n) (hn : n ≤ 1000) : POk E' t' (n + 1) := by
  have hrd1 : ∀ u ∈ E.txs, u.reads.length ≤ n + 1 := fun u hu => by have := h.rd u hu; omega
  have htr1 : ∀ l ∈ t.reads, l.length ≤ n + 1 := fun u hu => by have := h.tr u hu; omega
  have hnum := h.num
  cases hd with
  | same => exact h.step h.mid hrd1 (own' := t.own) (over' := t.over) (n' := t.n) (by omega) htr1
  | begin level hl0 hl ho =>
    have h1 := h.mid.begin hl0.1 hl (by rw [← live_len]; exact ho)
    refine ⟨h1, by have := h.steps; show 0 ≤ t.steps + 1 ∧ t.steps + 1 ≤ ((n + 1 : Nat) : Int); omega, by show 0 ≤ t.n ∧ t.n ≤ ((n + 1 : Nat) : Int); omega, fun u hu => ?_, fun l hl' => ?_, fun l hl' => ?_⟩
    · rcases List.mem_append.1 hu with hu | hu
      · exact hrd1 u hu
      · rw [List.mem_singleton.1 hu]; exact Nat.zero_le _
    · rcases List.mem_append.1 (show l ∈ t.reads ++ [[]] from hl') with hu | hu
      · exact htr1 l hu
      · rw [List.mem_singleton.1 hu]; exact Nat.zero_le _
    · rcases List.mem_append.1 (show l ∈ t.snap ++ [allE E] from hl') with hu | hu
      · exact h.ts l hu
      · rw [List.mem_singleton.1 hu]; exact all_len E
  | sweep => exact h.step h.mid.sweep hrd1 (own' := t.own) (over' := t.over) (n' := t.n) (by omega) htr1
  | shut => exact h.step h.mid hrd1 (own' := t.own) (n' := t.n) (by omega) htr1
  | read x u key R hu hs hk hR =>
    have hw := went_read h.mid h.rd hu hs (by omega) hR
    unfold readT
    split
    · exact h.step hw.mid hw.rd (own' := t.own) (n' := t.n) (by omega) htr1
    · split
      · exact h.step hw.mid hw.rd (own' := t.own) (n' := t.n) (by omega) htr1
      · refine h.step hw.mid hw.rd (own' := t.own) (n' := t.n) (by omega) (mem_set_len h.tr ?_)
        cases hx : (stepT t).reads[x]? with
        | none => simp
        | some l =>
          have := h.tr l (List.mem_of_getElem? (show t.reads[x]? = some l from hx))
          simp
          omega
  | wshut => exact h.step h.mid hrd1 (own' := t.own) (n' := t.n + 1) (by omega) htr1
  | write x u key q R hu hs hk hq hR =>
    have hw := went_write h.mid h.rd hu hs (key := key) (val := t.n + 1) (by omega) (by omega) hq hR
    have hr1 : ∀ u ∈ R.2.txs, u.reads.length ≤ n + 1 := fun u hu => by have := hw.rd u hu; omega
    unfold writeT
    split
    · exact h.step hw.mid hr1 (own' := t.own) (n' := t.n + 1) (by omega) htr1
    · exact h.step hw.mid hr1 (n' := t.n + 1) (by omega) htr1
  | commit x u R hu hs hR =>
    have hw := (went_commit h.mid h.rd hu hs hR).1
    exact h.step hw.mid (fun u hu => by have := hw.rd u hu; omega) (own' := t.own) (n' := t.n) (by omega) htr1
  | abort x u E' hu hs hR =>
    have hw := (went_abort h.mid h.rd hu hs hR).1
    exact h.step hw.mid (fun u hu => by have := hw.rd u hu; omega) (own' := t.own) (n' := t.n) (by omega) htr1

end Go.Proofs.YtjefgmeejhakbaaGreatDoor

/- The tale when one more transaction is begun. -/
namespace Go.Proofs.YtjefgmeejhakbaaGreatDoor
open Go.RowKit

/-- What is put behind each of the six rows. -/
def newX (level steps : Int) (av : Value) (m : Nat) : Nat → Value
  | 0 => .int .i64 level
  | 1 => av
  | 2 => mapV m
  | 3 => .slice none 0 0
  | 4 => .int .i64 steps
  | _ => .int .i64 0
def moreL (L : TalL) (row' : Nat → Value) (av : Value) (m : Nat) : TalL := ⟨L.b, row', L.sn ++ [av], L.om ++ [m], L.rd ++ [.slice none 0 0]⟩
theorem moreX (L : TalL) (E : Eng) (t : Tal) (row' : Nat → Value) (av : Value) (m : Nat) (level : Int) (j : Nat) (hj : j < 6) : (moreL L row' av m).rowX (beginT E t level) j = L.rowX t j ++ [newX level t.steps av m j] := by
  obtain rfl | rfl | rfl | rfl | rfl | rfl : j = 0 ∨ j = 1 ∨ j = 2 ∨ j = 3 ∨ j = 4 ∨ j = 5 := by omega
  all_goals simp [TalL.rowX, moreL, beginT, newX, intsV, mapV]
theorem getElem?_snoc {α : Type} {l : List α} {x y : α} {i : Nat} (h : (l ++ [x])[i]? = some y) : (i < l.length ∧ l[i]? = some y) ∨ (i = l.length ∧ y = x) := by
  rw [List.getElem?_append] at h
  split at h
  · rename_i hi
    exact .inl ⟨hi, h⟩
  · rename_i hi
    rw [List.getElem?_singleton] at h
    split at h
    · injection h with h
      exact .inr ⟨by omega, h.symm⟩
    · cases h

open Classical in
theorem TalAt.more {w w' : World} {s N : Nat} {L : TalL} {t : Tal} (h : TalAt w s L t N) {E : Eng} {level : Int} {row' : Nat → Value} {av : Value} {m : Nat}
    (hb : w'.heap[L.b]? = some (.cells (talCells s row' t.steps t.n t.broken) 67 (0, 0)))
    (hrow : ∀ j, j < 6 → w'.ownsRow 0 (rowT j) 1 (row' j) (N + 1) (L.rowX t j ++ [newX level t.steps av m j]) ∧ ∀ g, (row' j).ownBlock = some g → (L.row j).ownBlock = some g ∨ w.heap.size ≤ g)
    (hd : ∀ i j g, i < 6 → j < 6 → (row' i).ownBlock = some g → (row' j).ownBlock = some g → i = j)
    (hav : w'.ownsRow 0 78 2 av (allE E).length (vrow (allE E))) (hav2 : ∀ g, av.ownBlock = some g → ¬ L.own g ∧ g < w.heap.size)
    (hm : IMap w' m 10 (fun _ => none)) (hm2 : w.heap.size ≤ m)
    (hs : ∀ g, g < w.heap.size → g ≠ L.b → (∀ j, j < 6 → (L.row j).ownBlock ≠ some g) → w'.heap[g]? = w.heap[g]?) :
    TalAt w' s (moreL L row' av m) (beginT E t level) (N + 1) ∧ (∀ g, (moreL L row' av m).own g → L.own g ∨ w.heap.size ≤ g ∨ av.ownBlock = some g) ∧ ∀ g, g < w.heap.size → ¬ L.own g → w'.heap[g]? = w.heap[g]? := by
  obtain ⟨ρ, T⟩ := h.tag
  have hl := h.len
  have hkeep : ∀ g, L.own g → g ≠ L.b → (∀ j, ρ g ≠ .row j) → w'.heap[g]? = w.heap[g]? := fun g hg hne hn => hs g (h.own_lt hg) hne (fun j hj e => hn j (T.row j g hj e))
  have o_sn : ∀ {i : Nat} {v : Value} {g : Nat}, L.sn[i]? = some v → v.ownBlock = some g → L.own g := fun h1 h2 => .inr (.inr (.inl ⟨_, _, h1, h2⟩))
  have o_om : ∀ {i g : Nat}, L.om[i]? = some g → L.own g := fun h1 => .inr (.inr (.inr (.inl ⟨_, h1⟩)))
  have o_rd : ∀ {i : Nat} {v : Value} {g : Nat}, L.rd[i]? = some v → v.ownBlock = some g → L.own g := fun h1 h2 => .inr (.inr (.inr (.inr ⟨_, _, h1, h2⟩)))
  have o_row : ∀ {j g : Nat}, j < 6 → (L.row j).ownBlock = some g → L.own g := fun h1 h2 => .inr (.inl ⟨_, h1, h2⟩)
  have hrm : ∀ j, j < 6 → (row' j).ownBlock ≠ some m := fun j hj e => by
    obtain ⟨cur, hc⟩ := owns_typ (hrow j hj).1 e
    exact hm.ne hc rfl
  refine ⟨⟨hb, fun j hj => ?_, fun i v l hv hl' => ?_, fun i b f hbm hf => ?_, fun i v l hv hl' => ?_, ?_, ?_⟩, fun g hg => ?_, fun g hg hn => ?_⟩
  · rw [moreX L E t row' av m level j hj]
    exact (hrow j hj).1
  · rcases getElem?_snoc hv with ⟨hi, hv⟩ | ⟨hi, rfl⟩
    · rcases getElem?_snoc hl' with ⟨_, hl'⟩ | ⟨hi', _⟩
      · refine owns_same (h.sn i v l hv hl') (fun g hg => hkeep g (o_sn hv hg) (fun e => ?_) (fun j e => ?_))
        · have := T.sn i v g hv hg; rw [e, T.b] at this; cases this
        · rw [T.sn i v g hv hg] at e; cases e
      · have := hl.sn; have := hl.snap; omega
    · rcases getElem?_snoc hl' with ⟨hi', _⟩ | ⟨_, rfl⟩
      · have := hl.sn; have := hl.snap; omega
      · exact hav
  · rcases getElem?_snoc hbm with ⟨hi, hbm⟩ | ⟨hi, rfl⟩
    · rcases getElem?_snoc hf with ⟨_, hf⟩ | ⟨hi', _⟩
      · have h1 := h.om i b f hbm hf
        refine ⟨h1.1.same (hkeep b (o_om hbm) (fun e => ?_) (fun j e => ?_)), h1.2⟩
        · have := T.om i b hbm; rw [e, T.b] at this; cases this
        · rw [T.om i b hbm] at e; cases e
      · have := hl.om; have := hl.own; omega
    · rcases getElem?_snoc hf with ⟨hi', _⟩ | ⟨_, rfl⟩
      · have := hl.om; have := hl.own; omega
      · exact ⟨hm, fun k hk => (hk rfl).elim⟩
  · rcases getElem?_snoc hv with ⟨hi, hv⟩ | ⟨hi, rfl⟩
    · rcases getElem?_snoc hl' with ⟨_, hl'⟩ | ⟨hi', _⟩
      · refine owns_same (h.rd i v l hv hl') (fun g hg => hkeep g (o_rd hv hg) (fun e => ?_) (fun j e => ?_))
        · have := T.rd i v g hv hg; rw [e, T.b] at this; cases this
        · rw [T.rd i v g hv hg] at e; cases e
      · have := hl.rd; have := hl.reads; omega
    · rcases getElem?_snoc hl' with ⟨hi', _⟩ | ⟨_, rfl⟩
      · have := hl.rd; have := hl.reads; omega
      · exact ⟨rfl, .inl ⟨rfl, rfl⟩⟩
  · exact ⟨by simp [beginT, hl.level], by simp [beginT, hl.snap], by simp [beginT, hl.own], by simp [beginT, hl.reads], by simp [beginT, hl.begun], by simp [beginT, hl.over], by simp [moreL, hl.sn], by simp [moreL, hl.om], by simp [moreL, hl.rd]⟩
  · refine ⟨fun g => if g < w.heap.size then (if av.ownBlock = some g then .sn N else ρ g) else if g = m then .om N else if hx : ∃ j, j < 6 ∧ (row' j).ownBlock = some g then .row hx.choose else .b, ?_⟩
    have hold : ∀ g, L.own g → (if g < w.heap.size then (if av.ownBlock = some g then TTag.sn N else ρ g) else if g = m then TTag.om N else if hx : ∃ j, j < 6 ∧ (row' j).ownBlock = some g then TTag.row hx.choose else TTag.b) = ρ g := fun g hg => by
      rw [if_pos (h.own_lt hg), if_neg (fun e => (hav2 g e).1 hg)]
    refine ⟨(hold L.b (.inl rfl)).trans T.b, fun j g hj hg => ?_, fun i v g hv hg => ?_, fun i g hi => ?_, fun i v g hv hg => ?_⟩
    · rcases (hrow j hj).2 g hg with h1 | h1
      · exact (hold g (o_row hj h1)).trans (T.row j g hj h1)
      · have hx : ∃ j, j < 6 ∧ (row' j).ownBlock = some g := ⟨j, hj, hg⟩
        show (if g < w.heap.size then _ else _) = _
        rw [if_neg (by omega), if_neg (fun e => hrm j hj (by rw [← e]; exact hg)), dif_pos hx]
        have := hx.choose_spec
        rw [hd _ _ g this.1 hj this.2 hg]
    · rcases getElem?_snoc hv with ⟨hi, hv⟩ | ⟨hi, rfl⟩
      · exact (hold g (o_sn hv hg)).trans (T.sn i v g hv hg)
      · show (if g < w.heap.size then _ else _) = _
        rw [if_pos (hav2 g hg).2, if_pos hg, hi, hl.sn]
    · rcases getElem?_snoc hi with ⟨_, hi⟩ | ⟨hi', rfl⟩
      · exact (hold g (o_om hi)).trans (T.om i g hi)
      · show (if g < w.heap.size then _ else _) = _
        rw [if_neg (by omega), if_pos rfl, hi', hl.om]
    · rcases getElem?_snoc hv with ⟨hi, hv⟩ | ⟨hi, rfl⟩
      · exact (hold g (o_rd hv hg)).trans (T.rd i v g hv hg)
      · cases hg
  · rcases hg with hg | ⟨j, hj, hg⟩ | ⟨i, v, hv, hg⟩ | ⟨i, hi⟩ | ⟨i, v, hv, hg⟩
    · exact .inl (.inl hg)
    · rcases (hrow j hj).2 g hg with h1 | h1
      · exact .inl (o_row hj h1)
      · exact .inr (.inl h1)
    · rcases getElem?_snoc hv with ⟨_, hv⟩ | ⟨_, rfl⟩
      · exact .inl (o_sn hv hg)
      · exact .inr (.inr hg)
    · rcases getElem?_snoc hi with ⟨_, hi⟩ | ⟨_, rfl⟩
      · exact .inl (o_om hi)
      · exact .inr (.inl hm2)
    · rcases getElem?_snoc hv with ⟨_, hv⟩ | ⟨_, rfl⟩
      · exact .inl (o_rd hv hg)
      · cases hg
  · exact hs g hg (fun e => hn (.inl e)) (fun j hj e => hn (o_row hj e))

end Go.Proofs.YtjefgmeejhakbaaGreatDoor
