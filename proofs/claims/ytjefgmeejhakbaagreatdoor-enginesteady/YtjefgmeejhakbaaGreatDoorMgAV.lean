/- KtOk KtPok KtTellsB: put together for a claim. -/
import Derived.Test.YtjefgmeejhakbaaGreatDoorMgAT
/- Plain: what is asked of a tale stays so. -/
namespace Go.Proofs.YtjefgmeejhakbaaGreatDoor

/-- Nobody has read more. -/
def RdLe (E E' : Eng) : Prop := ∀ u' ∈ E'.txs, ∃ u ∈ E.txs, u'.reads.length ≤ u.reads.length
theorem RdLe.refl (E : Eng) : RdLe E E := fun u hu => ⟨u, hu, Nat.le_refl _⟩
theorem RdLe.trans {A B C : Eng} (h : RdLe A B) (k : RdLe B C) : RdLe A C := fun u hu => by
  obtain ⟨v, hv, h1⟩ := k u hu
  obtain ⟨w, hw, h2⟩ := h v hv
  exact ⟨w, hw, by omega⟩
theorem RdLe.set {E : Eng} {i : Nat} {t t' : Tx} (ht : E.txs[i]? = some t) (h : t'.reads.length ≤ t.reads.length) : RdLe E (E.setTx i t') := fun u hu => by
  rcases List.mem_or_eq_of_mem_set hu with hu | rfl
  · exact ⟨u, hu, Nat.le_refl _⟩
  · exact ⟨t, List.mem_of_getElem? ht, h⟩
theorem RdLe.of_txs {E E' : Eng} (h : E'.txs = E.txs) : RdLe E E' := fun u hu => ⟨u, by rw [← h]; exact hu, Nat.le_refl _⟩
theorem rd_putAhead (E : Eng) (i j : Nat) : RdLe E (putAheadP E i j).2 := by
  unfold putAheadP
  split
  · rename_i t u ht hu
    intro v hv
    simp only [Eng.setTx] at hv
    rcases List.mem_or_eq_of_mem_set hv with hv | rfl
    · rcases List.mem_or_eq_of_mem_set hv with hv | rfl
      · exact ⟨v, hv, Nat.le_refl _⟩
      · exact ⟨t, List.mem_of_getElem? ht, Nat.le_refl _⟩
    · exact ⟨u, List.mem_of_getElem? hu, Nat.le_refl _⟩
  · exact RdLe.refl E
theorem rd_aheadAll (f : Nat → Nat × Nat) : ∀ (js : List Nat) (E : Eng), RdLe E (aheadAll f js E).2
  | [], E => RdLe.refl E
  | j :: r, E => by
    have h1 := rd_putAhead E (f j).1 (f j).2
    unfold aheadAll
    rcases hp : putAheadP E (f j).1 (f j).2 with ⟨b, E'⟩
    rw [hp] at h1
    cases b with
    | true => exact h1.trans (rd_aheadAll f r E')
    | false => exact h1
theorem rd_aheadEach (i : Nat) : ∀ (js : List Nat) (E : Eng), RdLe E (aheadEach i js E)
  | [], E => RdLe.refl E
  | j :: r, E => by
    unfold aheadEach
    exact (rd_putAhead E i j).trans (rd_aheadEach i r _)
theorem rd_aheadTimes (i : Nat) : ∀ (ts : List Int) (E : Eng), RdLe E (aheadTimes i ts E).2
  | [], E => RdLe.refl E
  | a :: r, E => by
    unfold aheadTimes
    split
    · rename_i j _
      have h1 := rd_putAhead E i j
      rcases hp : putAheadP E i j with ⟨b, E'⟩
      rw [hp] at h1
      cases b with
      | true => exact h1.trans (rd_aheadTimes i r E')
      | false => exact h1
    · exact rd_aheadTimes i r E
theorem rd_aow (E : Eng) (i : Nat) (key : Int) : RdLe E (aowP E i key).2 := by
  unfold aowP
  split
  · rename_i t _
    have h1 := rd_aheadTimes i (newerP E key t.start) E
    rcases hp : aheadTimes i (newerP E key t.start) E with ⟨b, E'⟩
    rw [hp] at h1
    cases b with
    | true => exact h1.trans (rd_aheadEach i _ E')
    | false => exact h1
  · exact RdLe.refl E
theorem rd_put (E : Eng) (j : Nat) : RdLe E (putE E j).2 := by
  unfold putE
  split
  · rename_i t ht
    split
    · exact RdLe.refl E
    · have h1 : RdLe E (E.setTx j { t with vals := updT t.vals t.wk (some t.wv) }) := RdLe.set ht (Nat.le_refl _)
      simp only
      split
      · have h2 := rd_aheadAll (fun m => (m, j)) (thoseP (E.setTx j { t with vals := updT t.vals t.wk (some t.wv) }) (hasReadB t.wk j)) (E.setTx j { t with vals := updT t.vals t.wk (some t.wv) })
        rcases hb : behindP (E.setTx j { t with vals := updT t.vals t.wk (some t.wv) }) j t.wk with ⟨b, E3⟩
        unfold behindP at hb
        rw [hb] at h2
        cases b <;> exact h1.trans h2
      · exact h1
  · exact RdLe.refl E
theorem rd_upd (E : Eng) (i : Nat) (f : Tx → Tx) (hf : ∀ t, (f t).reads.length ≤ t.reads.length) : RdLe E (E.upd i f) := by
  unfold Eng.upd
  split
  · rename_i t ht
    exact RdLe.set ht (hf t)
  · exact RdLe.refl E
theorem rd_over (E : Eng) (i : Nat) (st : Int) : RdLe E (overE E i st) := (rd_upd E i (fun t => { t with state := st, bae := E.txs.length }) (fun _ => Nat.le_refl _)).trans (RdLe.of_txs rfl)
theorem rd_lose (E : Eng) (i : Nat) (why : Int) : RdLe E (loseE E i why) := by
  unfold loseE
  split
  · rename_i t ht
    refine RdLe.trans (B := { E with txs := (E.txs.set i { t with why := why }).map (freeOf ((i : Int) + 1)) }) ?_ (rd_upd _ i _ (fun _ => Nat.zero_le _))
    intro u hu
    obtain ⟨v, hv, rfl⟩ := List.mem_map.1 hu
    rcases List.mem_or_eq_of_mem_set hv with hv | rfl
    · exact ⟨v, hv, Nat.le_refl _⟩
    · exact ⟨t, List.mem_of_getElem? ht, Nat.le_refl _⟩
  · exact RdLe.refl E
theorem rd_wake (E : Eng) (j : Nat) : RdLe E (wakeE E j) := rd_upd E j _ (fun _ => Nat.le_refl _)
theorem goes_rd (a0 : Int) (K0 : Int → Option Int) (E0 : Eng) : Goes a0 K0 (fun E _ => RdLe E0 E) := by
  refine ⟨fun E Q j E2 _ hP _ hp => ?_, fun E Q j why E2 _ hP _ hp _ => ?_⟩
  · have := rd_put (wakeE E j) j
    rw [hp] at this
    exact hP.trans ((rd_wake E j).trans this)
  · have := rd_put (wakeE E j) j
    rw [hp] at this
    exact (hP.trans ((rd_wake E j).trans this)).trans ((rd_lose E2 j why).trans (rd_over _ j 3))
/-- What is kept besides, by all that go on. -/
def Kp (E0 : Eng) (E : Eng) (_ : Nat → Prop) : Prop := RdLe E0 E ∧ Later E0.ce E.ce
theorem goes_kp (E0 : Eng) : Goes 0 (fun _ => none) (Kp E0) := goes_and (goes_rd _ _ E0) (goes_later _ _ E0.ce)

theorem inst_txs (E : Eng) (i : Nat) : (installE E i).txs = E.txs := by
  unfold installE
  split
  · split <;> rfl
  · rfl
/-- A step of one that is there. -/
structure Went (E E' : Eng) (n : Nat) : Prop where
  mid : Mid0 E'
  rd : ∀ u ∈ E'.txs, u.reads.length ≤ n
  later : Later E.ce E'.ce
section
variable {E E' : Eng} {i : Nat} {u : Tx} {n : Nat}
theorem rd_of (h : RdLe E E') (hn : ∀ u ∈ E.txs, u.reads.length ≤ n) : ∀ u ∈ E'.txs, u.reads.length ≤ n := fun v hv => by
  obtain ⟨w, hw, h1⟩ := h v hv
  have := hn w hw
  omega
theorem went_commit (hM : Mid0 E) (hn : ∀ u ∈ E.txs, u.reads.length ≤ n) (hu : E.txs[i]? = some u) (hs : u.state = 0) {R : Int × Eng} (hR : commitE 7 E i = some R) : Went E R.2 n ∧ R.2.ce.live < E.ce.live := by
  have hl : liveB u.state = true := live_iff.2 (.inl hs)
  by_cases hb : Between u.ahead u.behind
  · obtain ⟨E', h1, h2, h3, h4⟩ := commit_bad (goes_kp E) hM hu hl hb ⟨(rd_lose E i 13).trans (rd_over _ i 3), later_gone hu hl 13⟩
    rw [h1] at hR
    injection hR with hR
    subst hR
    exact ⟨⟨h2, rd_of h3.1 hn, h3.2⟩, h4⟩
  · obtain ⟨E', h1, h2, h3, h4⟩ := commit_ok (goes_kp E) hM hu hl hb ⟨(RdLe.of_txs (E' := { (installE E i) with com := E.com ++ [i] }) (inst_txs E i)).trans (rd_over _ i 2), later_commit hu hl⟩
    rw [h1] at hR
    injection hR with hR
    subst hR
    exact ⟨⟨h2, rd_of h3.1 hn, h3.2⟩, h4⟩
theorem went_abort (hM : Mid0 E) (hn : ∀ u ∈ E.txs, u.reads.length ≤ n) (hu : E.txs[i]? = some u) (hl : liveB u.state = true) (hR : endF 7 (loseE E i 0) i 3 = some E') : Went E E' n ∧ E'.ce.live < E.ce.live := by
  obtain ⟨E2, h1, h2, h3, h4⟩ := lose_ok (goes_kp E) hM hu hl (why := 0) ⟨(rd_lose E i 0).trans (rd_over _ i 3), later_gone hu hl 0⟩
  rw [h1] at hR
  injection hR with hR
  subst hR
  exact ⟨⟨h2, rd_of h3.1 hn, h3.2⟩, h4⟩
theorem went_read (hM : Mid0 E) (hn : ∀ u ∈ E.txs, u.reads.length ≤ n) (hu : E.txs[i]? = some u) (hs : u.state = 0) {key : Int} (hk : 0 ≤ key ∧ key < 10) {R : (Int × Int) × Eng} (hR : readE 7 E i key = some R) : Went E R.2 (n + 1) := by
  cases hv : u.vals key with
  | some v =>
    have e : R = ((v, 0), E) := by
      unfold readE at hR
      rw [hu] at hR
      simp only at hR
      rw [hv] at hR
      injection hR with hR
      exact hR.symm
    subst e
    exact ⟨hM, fun u hu => by have := hn u hu; omega, Later.refl _⟩
  | none =>
    have hnote : ∀ v ∈ (noteE E i u key).txs, v.reads.length ≤ n + 1 := fun v hv => by
      rcases List.mem_or_eq_of_mem_set hv with hv | rfl
      · have := hn v hv; omega
      · have := hn u (List.mem_of_getElem? hu)
        show (u.reads ++ [_]).length ≤ n + 1
        simp
        omega
    have hln : Later E.ce (noteE E i u key).ce := by rw [ce_note hu]; exact Later.refl _
    have hN : (noteE E i u key).txs[i]? = some (noteReadP u key ((E.wr (verP E key (seesP E u)).1.1).getD 0)) := setTx_get hu
    obtain ⟨R', h1, h2, h3, _⟩ := read_ok (goes_kp (noteE E i u key)) hM hu hs hk hv (fun _ => ⟨RdLe.refl _, Later.refl _⟩) (fun E2 _ ha => by
        have h5 := rd_aow (noteE E i u key) i key
        have h6 := ce_aow (noteE E i u key) i key
        rw [ha] at h5 h6
        exact ⟨h5, by rw [h6]; exact Later.refl _⟩) (fun E2 _ ha => by
        have h5 := rd_aow (noteE E i u key) i key
        have h6 := ce_aow (noteE E i u key) i key
        rw [ha] at h5 h6
        simp only at h6
        obtain ⟨v, hv2, e⟩ : ∃ v, E2.txs[i]? = some v ∧ cor v = cor u := cs_of (by rw [h6, ce_note hu]; exact cs_get hu)
        have hvs : v.state = 0 := by have := congrArg Cor.state e; exact this.trans hs
        have h7 := later_gone hv2 (live_iff.2 (.inl hvs)) 13
        rw [h6] at h7
        exact ⟨h5.trans ((rd_lose E2 i 13).trans (rd_over _ i 3)), h7⟩)
    rw [h1] at hR
    injection hR with hR
    subst hR
    exact ⟨h2, rd_of h3.1 hnote, hln.trans h3.2⟩
theorem later_want (hu : E.txs[i]? = some u) (hs : u.state = 0) (key val : Int) (T' : Tab) : Later E.ce (wantE E i u key val T').ce := by
  rw [want_ce]
  exact Later.set (t' := { cor u with wk := key, wv := val }) (cs_get hu) (live_iff.2 (.inl hs)) rfl rfl rfl rfl
theorem rd_want (hu : E.txs[i]? = some u) (key val : Int) (T' : Tab) : RdLe E (wantE E i u key val T') := (RdLe.set (t' := { u with wk := key, wv := val }) hu (Nat.le_refl _)).trans (RdLe.of_txs rfl)
theorem later_putOpen {E2 : Eng} {why : Int} (hu : E.txs[i]? = some u) (hs : u.state = 0) (hp : putE E i = (why, E2)) : Later E.ce E2.ce ∧ ∃ v, E2.txs[i]? = some v ∧ v.state = 0 := by
  have hl : liveB u.state = true := live_iff.2 (.inl hs)
  rcases ce_put hu hp with ⟨rfl, rfl, _, _⟩ | ⟨hy, hn, he⟩
  · exact ⟨Later.refl _, u, hu, hs⟩
  · obtain ⟨v, hv, e⟩ := cs_of (E := E2) (i := i) (by rw [he]; exact set_same (cs_get hu))
    exact ⟨Later.set (t' := { cor u with vals := updT u.vals u.wk (some u.wv) }) (cs_get hu) hl rfl rfl (by rw [he]) (by rw [he]), v, hv, by have := congrArg Cor.state e; exact this.trans hs⟩
theorem went_write (hM : Mid0 E) (hn : ∀ u ∈ E.txs, u.reads.length ≤ n) (hu : E.txs[i]? = some u) (hs : u.state = 0) {key val : Int} (hk : 0 ≤ key ∧ key < 10) (hv : -1099511627776 ≤ val ∧ val ≤ 1099511627776) {q : Int → Nat} (hq : Ranked E.T q) {R : (Bool × Int) × Eng} (hR : writeE 7 q E i key val = some R) : Went E R.2 n := by
  have hl : liveB u.state = true := live_iff.2 (.inl hs)
  obtain ⟨R', h1, h2, h3, _⟩ := write_ok (goes_kp E) hM hu hs hk hv hq
    ⟨(rd_want hu key val E.T).trans ((rd_lose _ i 11).trans (rd_over _ i 3)), (later_want hu hs key val E.T).trans (later_gone (want_get (key := key) (val := val) hu E.T) hl 11)⟩
    ⟨(rd_want hu key val _).trans (RdLe.set (want_get (key := key) (val := val) hu _) (Nat.le_refl _)), (later_want hu hs key val _).trans (by
      rw [ce_set]
      exact Later.set (t' := cor { u with wk := key, wv := val, state := 1 }) (cs_get (want_get (key := key) (val := val) hu _)) hl rfl rfl rfl rfl)⟩
    (fun T' E2 _ hp => by
      have h5 := rd_put (wantE E i u key val T') i
      rw [hp] at h5
      exact ⟨(rd_want hu key val T').trans h5, (later_want hu hs key val T').trans (later_putOpen (want_get (key := key) (val := val) hu T') hs hp).1⟩)
    (fun T' why E2 _ _ hp => by
      have h5 := rd_put (wantE E i u key val T') i
      rw [hp] at h5
      obtain ⟨h6, v, hv2, hvs⟩ := later_putOpen (want_get (key := key) (val := val) hu T') hs hp
      exact ⟨((rd_want hu key val T').trans h5).trans ((rd_lose E2 i why).trans (rd_over _ i 3)), ((later_want hu hs key val T').trans h6).trans (later_gone hv2 (live_iff.2 (.inl hvs)) why)⟩)
  rw [h1] at hR
  injection hR with hR
  subst hR
  exact ⟨h2, rd_of h3.1 hn, h3.2⟩
end

end Go.Proofs.YtjefgmeejhakbaaGreatDoor

/- Plain: each act keeps what is asked of a tale. -/
namespace Go.Proofs.YtjefgmeejhakbaaGreatDoor

structure POk (E : Eng) (t : Tal) (n : Nat) : Prop where
  mid : Mid0 E
  steps : 0 ≤ t.steps ∧ t.steps ≤ n
  num : 0 ≤ t.n ∧ t.n ≤ n
  rd : ∀ u ∈ E.txs, u.reads.length ≤ n
  tr : ∀ l ∈ t.reads, l.length ≤ n
  ts : ∀ l ∈ t.snap, l.length ≤ 10
theorem all_len (E : Eng) : (allE E).length ≤ 10 := by
  have key : ∀ (f : Nat → Option (Int × Int)) (m : Nat), (allK f m).length ≤ m := by
    intro f m
    induction m with
    | zero => simp [allK]
    | succ m ih =>
      rw [allK]
      cases f m <;> simp <;> omega
  exact key _ 10
theorem POk.step {E E' : Eng} {t : Tal} {n : Nat} (h : POk E t n) (hM : Mid0 E') (hr : ∀ u ∈ E'.txs, u.reads.length ≤ n + 1) {own' : List (Int → Option Int)} {over' : List Int} {reads' : List (List (Int × Int))} {n' : Int} {b : Bool} (hn : 0 ≤ n' ∧ n' ≤ n + 1) (htr : ∀ l ∈ reads', l.length ≤ n + 1) : POk E' { t with own := own', over := over', reads := reads', n := n', steps := t.steps + 1, broken := b } (n + 1) :=
  ⟨hM, by have := h.steps; show 0 ≤ t.steps + 1 ∧ t.steps + 1 ≤ ((n + 1 : Nat) : Int); omega, by show 0 ≤ n' ∧ n' ≤ ((n + 1 : Nat) : Int); omega, hr, htr, h.ts⟩
theorem mem_set_len {l : List (List (Int × Int))} {x n : Nat} {y : List (Int × Int)} (h : ∀ m ∈ l, m.length ≤ n) (hy : y.length ≤ n + 1) : ∀ m ∈ l.set x y, m.length ≤ n + 1 := fun m hm => by
  rcases List.mem_or_eq_of_mem_set hm with hm | rfl
  · have := h m hm; omega
  · exact hy
theorem mid0_eng0 : Mid0 eng0 := by
  have hcw : eng0.ce.cw = [] := rfl
  refine ⟨⟨good0, fun k x h => (by cases h), fun k i h => (by cases h), fun i t h => (by simp [eng0, Eng.ce] at h), fun i h => h.elim, fun i t k h => (by simp [eng0, Eng.ce] at h)⟩, ⟨fun i t h => (by simp [eng0, Eng.ce] at h), by decide, by decide⟩, ?_⟩
  refine ⟨List.Pairwise.nil, fun i => ⟨fun h => (by cases h), fun ⟨t, h, _⟩ => (by simp [eng0, Eng.ce] at h)⟩, fun i t h => (by simp [eng0, Eng.ce] at h), by decide, rfl, rfl, fun c => ?_, rfl, fun a ha => ⟨0, Nat.zero_le _, ?_, fun u _ => .inl rfl⟩, fun i j t a c h => (by simp [eng0, Eng.ce] at h)⟩
  · rw [hcw]
    split <;> rfl
  · show (List.replicate 10 ([] : List (Int × Int)))[a]? = _
    rw [List.getElem?_replicate, if_pos ha]
    rfl
def tal00 : Tal := ⟨[], [], [], [], [], [], 0, 0, false⟩
theorem pok0 : POk eng0 tal00 0 := ⟨mid0_eng0, by decide, by decide, fun u hu => (by cases hu), fun u hu => (by cases hu), fun u hu => (by cases hu)⟩

theorem Does.pok {lv : Int} {E E' : Eng} {t t' : Tal} {n : Nat} (hd : Does lv E t E' t') (h : POk E t n) (hn : n ≤ 1000) : POk E' t' (n + 1) := by
  have hrd1 : ∀ u ∈ E.txs, u.reads.length ≤ n + 1 := fun u hu => by have := h.rd u hu; omega
  have htr1 : ∀ l ∈ t.reads, l.length ≤ n + 1 := fun u hu => by have := h.tr u hu; omega
  have hnum := h.num
  cases hd with
  | same => exact h.step h.mid hrd1 (own' := t.own) (over' := t.over) (n' := t.n) (by omega) htr1
  | begin level hl0 hl ho =>
    have h1 := h.mid.begin hl0.1 hl (by rw [← live_len]; exact ho)
    refine ⟨h1, by have := h.steps; show 0 ≤ t.steps + 1 ∧ t.steps + 1 ≤ ((n + 1 : Nat) : Int); omega, by show 0 ≤ t.n ∧ t.n ≤ ((n + 1 : Nat) : Int); omega, fun u hu => ?_, fun l hl' => ?_, fun l hl' => ?_⟩
    · rcases List.mem_append.1 hu with hu | hu
      · exact hrd1 u hu
      · rw [List.mem_singleton.1 hu]; exact Nat.zero_le _
    · rcases List.mem_append.1 (show l ∈ t.reads ++ [[]] from hl') with hu | hu
      · exact htr1 l hu
      · rw [List.mem_singleton.1 hu]; exact Nat.zero_le _
    · rcases List.mem_append.1 (show l ∈ t.snap ++ [allE E] from hl') with hu | hu
      · exact h.ts l hu
      · rw [List.mem_singleton.1 hu]; exact all_len E
  | sweep => exact h.step h.mid.sweep hrd1 (own' := t.own) (over' := t.over) (n' := t.n) (by omega) htr1
  | shut => exact h.step h.mid hrd1 (own' := t.own) (n' := t.n) (by omega) htr1
  | read x u key R hu hs hk hR =>
    have hw := went_read h.mid h.rd hu hs (by omega) hR
    unfold readT
    split
    · exact h.step hw.mid hw.rd (own' := t.own) (n' := t.n) (by omega) htr1
    · split
      · exact h.step hw.mid hw.rd (own' := t.own) (n' := t.n) (by omega) htr1
      · refine h.step hw.mid hw.rd (own' := t.own) (n' := t.n) (by omega) (mem_set_len h.tr ?_)
        cases hx : (stepT t).reads[x]? with
        | none => simp
        | some l =>
          have := h.tr l (List.mem_of_getElem? (show t.reads[x]? = some l from hx))
          simp
          omega
  | wshut => exact h.step h.mid hrd1 (own' := t.own) (n' := t.n + 1) (by omega) htr1
  | write x u key q R hu hs hk hq hR =>
    have hw := went_write h.mid h.rd hu hs (key := key) (val := t.n + 1) (by omega) (by omega) hq hR
    have hr1 : ∀ u ∈ R.2.txs, u.reads.length ≤ n + 1 := fun u hu => by have := hw.rd u hu; omega
    unfold writeT
    split
    · exact h.step hw.mid hr1 (own' := t.own) (n' := t.n + 1) (by omega) htr1
    · exact h.step hw.mid hr1 (n' := t.n + 1) (by omega) htr1
  | commit x u R hu hs hR =>
    have hw := (went_commit h.mid h.rd hu hs hR).1
    exact h.step hw.mid (fun u hu => by have := hw.rd u hu; omega) (own' := t.own) (n' := t.n) (by omega) htr1
  | abort x u E' hu hs hR =>
    have hw := (went_abort h.mid h.rd hu hs hR).1
    exact h.step hw.mid (fun u hu => by have := hw.rd u hu; omega) (own' := t.own) (n' := t.n) (by omega) htr1

end Go.Proofs.YtjefgmeejhakbaaGreatDoor

/- Plain: each act keeps what a tale tells. -/
namespace Go.Proofs.YtjefgmeejhakbaaGreatDoor

section
variable {a0 : Int} {K0 : Int → Option Int} {Φ : Eng → (Nat → Prop) → Prop} {E : Eng} {i : Nat} {t : Tx} {key val : Int} {q : Int → Nat}
/-- What becomes of one that is open when it writes: what is asked only where it is gone. -/
theorem write_ok2 (hG : Goes a0 K0 Φ) (h : Mid a0 K0 E.ce noQ) (ht : E.txs[i]? = some t) (hs : t.state = 0) (hk : 0 ≤ key ∧ key < 10) (hv : -1099511627776 ≤ val ∧ val ≤ 1099511627776) (hq : Ranked E.T q)
    (hP1 : Φ (overE (loseE (wantE E i t key val E.T) i 11) i 3) (outQ E.T i))
    (hP4 : ∀ T' why E2, (T' = E.T ∨ T' = updT E.T key [(i : Int) + 1]) → (why = 10 ∨ why = 13) → putE (wantE E i t key val T') i = (why, E2) → Φ (overE (loseE E2 i why) i 3) (outQ T' i)) :
    ∃ R, writeE 7 q E i key val = some R ∧ Mid a0 K0 R.2.ce noQ ∧ (R.1.2 ≠ 0 → Φ R.2 noQ) ∧ R.2.ce.live ≤ E.ce.live ∧
      ((R.1 = (false, 11)) ∨ (R.1 = (false, 0) ∧ R.2 = (wantE E i t key val (updT E.T key (E.T key ++ [(i : Int) + 1]))).setTx i { t with wk := key, wv := val, state := 1 }) ∨ (R.1 = (true, 0) ∧ ∃ T', putE (wantE E i t key val T') i = (0, R.2)) ∨ R.1 = (false, 10) ∨ R.1 = (false, 13)) := by
  have hl : liveB t.state = true := live_iff.2 (.inl hs)
  have hi : i < E.txs.length := (List.getElem?_eq_some_iff.1 ht).1
  have hlen : E.ce.cs.length = E.txs.length := by simp [Eng.ce]
  have h200 := h.reg.len
  have hW := h.want (k := key) (v := val) (cs_get ht) hs hk hv
  have hwa := h.loc.open_waits (cs_get ht) hs
  have hgd : Good (askP E.T q ((i : Int) + 1) key).2.2 := h.loc.good.ask hq ((i : Int) + 1) key (by omega)
  have key' : ∀ T', (T' = E.T ∨ T' = updT E.T key [(i : Int) + 1]) → Mid a0 K0 (wantE E i t key val T').ce noQ → holdsP T' key = (i : Int) + 1 →
      ∃ R, (writeR (endF 7) (wantE E i t key val T') i).map (fun R => ((decide (R.1 = 0), R.1), R.2)) = some R ∧ Mid a0 K0 R.2.ce noQ ∧ (R.1.2 ≠ 0 → Φ R.2 noQ) ∧ R.2.ce.live ≤ E.ce.live ∧ ((R.1 = (true, 0) ∧ putE (wantE E i t key val T') i = (0, R.2)) ∨ R.1 = (false, 10) ∨ R.1 = (false, 13)) := by
    intro T' hT' hM' hh
    have hg := want_get (key := key) (val := val) ht T'
    have hlv : (wantE E i t key val T').ce.live = E.ce.live := by rw [want_ce]; exact count_live (cs_get ht) hl hl
    rcases hp : putE (wantE E i t key val T') i with ⟨why, E2⟩
    have hcg := cs_get hg
    rcases ce_put hg hp with ⟨rfl, rfl, _, _⟩ | ⟨hy, hn, he⟩
    · obtain ⟨E', e1, e2, e3, e4⟩ := lose_ok (E := wantE E i t key val T') (why := 10) hG hM' hg hl (hP4 T' 10 _ hT' (.inl rfl) hp)
      refine ⟨((false, 10), E'), ?_, e2, fun _ => e3, by show E'.ce.live ≤ _; omega, .inr (.inl rfl)⟩
      unfold writeR
      rw [hp]
      simp [e1]
    · have hM2 : Mid a0 K0 E2.ce noQ := by rw [he]; exact hM'.putOpen hcg hs hh hn
      have hl2 : E2.ce.live = E.ce.live := by
        rw [← hlv, he]
        exact count_live hcg hl hl
      rcases hy with rfl | rfl
      · refine ⟨((true, 0), E2), ?_, hM2, fun h => absurd rfl h, by show E2.ce.live ≤ _; omega, .inl ⟨rfl, rfl⟩⟩
        unfold writeR
        rw [hp]
        simp
      · obtain ⟨u, hu, e⟩ : ∃ u, E2.txs[i]? = some u ∧ cor u = _ := cs_of (by rw [he]; exact set_same hcg)
        have hus : u.state = 0 := by have := congrArg Cor.state e; exact this.trans hs
        have hT2 : E2.T = T' := congrArg CE.T he
        obtain ⟨E', e1, e2, e3, e4⟩ := lose_ok (E := E2) (why := 13) hG hM2 hu (by rw [hus]; rfl) (by rw [hT2]; exact hP4 T' 13 E2 hT' (.inr rfl) hp)
        refine ⟨((false, 13), E'), ?_, e2, fun _ => e3, by show E'.ce.live ≤ _; omega, .inr (.inr rfl)⟩
        unfold writeR
        rw [hp]
        simp [e1]
  unfold writeE
  rw [ht]
  simp only
  rw [if_neg (by omega), if_neg (by omega)]
  rcases ask_cases (T := E.T) (q := q) (tx := (i : Int) + 1) hk (by omega) hwa with ⟨h1, e⟩ | ⟨h1, h2, e⟩ | ⟨h1, h2, e⟩ | ⟨h1, h2, e⟩
  · rw [e] at hgd ⊢
    simp only [ne_eq, not_true_eq_false, if_false, Bool.true_eq_false]
    have hM' : Mid a0 K0 (wantE E i t key val E.T).ce noQ := by rw [want_ce]; exact hW
    obtain ⟨R, r1, r2, r3, r4, r5⟩ := key' E.T (.inl rfl) hM' h1
    exact ⟨R, r1, r2, r3, r4, r5.elim (fun h => .inr (.inr (.inl ⟨h.1, _, h.2⟩))) (fun h => .inr (.inr (.inr h)))⟩
  · rw [e] at hgd ⊢
    simp only [ne_eq, not_true_eq_false, if_false, Bool.true_eq_false]
    have hM' : Mid a0 K0 (wantE E i t key val (updT E.T key [(i : Int) + 1])).ce noQ := by
      rw [want_ce]
      exact hW.take (set_same (cs_get ht)) hs h2 hgd
    obtain ⟨R, r1, r2, r3, r4, r5⟩ := key' _ (.inr rfl) hM' (by unfold holdsP; rw [updT_same]; rfl)
    exact ⟨R, r1, r2, r3, r4, r5.elim (fun h => .inr (.inr (.inl ⟨h.1, _, h.2⟩))) (fun h => .inr (.inr (.inr h)))⟩
  · rw [e] at hgd ⊢
    simp only [ne_eq, show ((11 : Int) = 0) = False from by simp, not_false_eq_true, if_true]
    have hM' : Mid a0 K0 (wantE E i t key val E.T).ce noQ := by rw [want_ce]; exact hW
    have hlv : (wantE E i t key val E.T).ce.live = E.ce.live := by rw [want_ce]; exact count_live (cs_get ht) hl hl
    obtain ⟨E', e1, e2, e3, e4⟩ := lose_ok (E := wantE E i t key val E.T) (why := 11) hG hM' (want_get ht _) hl hP1
    refine ⟨((false, 11), E'), ?_, e2, fun _ => e3, by show E'.ce.live ≤ _; omega, .inl rfl⟩
    rw [show endF 7 (loseE { (E.setTx i { t with wk := key, wv := val }) with T := E.T } i 11) i 3 = some E' from e1]
    rfl
  · rw [e] at hgd ⊢
    simp only [ne_eq, not_true_eq_false, if_false, if_true]
    refine ⟨_, rfl, ?_, fun h => absurd rfl h, ?_, .inr (.inl ⟨rfl, rfl⟩)⟩
    · show Mid a0 K0 ((wantE E i t key val (updT E.T key (E.T key ++ [(i : Int) + 1]))).setTx i { t with wk := key, wv := val, state := 1 }).ce noQ
      rw [ce_set, want_ce]
      have := hW.stand (set_same (cs_get ht)) hs h2 hgd
      simp only [List.set_set] at this ⊢
      exact this
    · show ((wantE E i t key val (updT E.T key (E.T key ++ [(i : Int) + 1]))).setTx i { t with wk := key, wv := val, state := 1 }).ce.live ≤ _
      rw [ce_set, want_ce]
      simp only [List.set_set]
      exact Nat.le_of_eq (count_live (cs_get ht) hl (by rfl))
end

theorem over_len {E : Eng} {i : Nat} {t : Tx} (ht : E.txs[i]? = some t) (why : Int) : (overE (loseE E i why) i 3).txs.length = E.txs.length := by
  obtain ⟨u, hu, e⟩ := lose_get (why := why) ht
  have h := congrArg (fun C : CE => C.cs.length) (ce_over hu 3)
  rw [ce_lose] at h
  simpa [Eng.ce] using h
theorem goes_len (a0 : Int) (K0 : Int → Option Int) (n : Nat) : Goes a0 K0 (fun E _ => E.txs.length = n) := by
  have key : ∀ (E : Eng) (Q : Nat → Prop) (j : Nat) (why : Int) (E2 : Eng), Mid a0 K0 E.ce Q → Q j → putE (wakeE E j) j = (why, E2) → E2.txs.length = E.txs.length ∧ ∃ v, E2.txs[j]? = some v := fun E Q j why E2 hM hq hp => by
    obtain ⟨u, hu, h1, _⟩ := hM.loc.pend j hq
    obtain ⟨t, ht, rfl⟩ := cs_of hu
    have hw : (wakeE E j).txs[j]? = some { t with state := 0 } := by unfold wakeE; rw [Eng.upd_some ht]; exact setTx_get ht
    have hwl : (wakeE E j).txs.length = E.txs.length := by unfold wakeE; rw [Eng.upd_some ht]; simp [Eng.setTx]
    rcases ce_put hw hp with ⟨rfl, rfl, _, _⟩ | ⟨hy, hn, he⟩
    · exact ⟨hwl, _, hw⟩
    · have hl : E2.ce.cs.length = (wakeE E j).ce.cs.length := by rw [he]; simp
      simp only [Eng.ce, List.length_map] at hl
      obtain ⟨v, hv, _⟩ := cs_of (E := E2) (i := j) (by rw [he]; exact set_same (cs_get hw))
      exact ⟨hl.trans hwl, v, hv⟩
  refine ⟨fun E Q j E2 hM hP hq hp => (key E Q j 0 E2 hM hq hp).1.trans hP, fun E Q j why E2 hM hP hq hp hy => ?_⟩
  obtain ⟨h1, v, hv⟩ := key E Q j why E2 hM hq hp
  exact (over_len hv why).trans (h1.trans hP)

/-- What is told of what each one wrote, and how many there are. -/
def OwnLen (own : Nat → Int → Option Int) (n : Nat) (E : Eng) (_ : Nat → Prop) : Prop := OwnOk own E.ce ∧ E.txs.length = n
theorem goes_ol (a0 : Int) (K0 : Int → Option Int) (own : Nat → Int → Option Int) (n : Nat) : Goes a0 K0 (OwnLen own n) := goes_and (goes_own a0 K0 own) (goes_len a0 K0 n)
section
variable {E E' : Eng} {i : Nat} {u : Tx} {own : Nat → Int → Option Int}
theorem ol_commit (hM : Mid0 E) (ho : OwnOk own E.ce) (hu : E.txs[i]? = some u) (hs : u.state = 0) {R : Int × Eng} (hR : commitE 7 E i = some R) : OwnLen own E.txs.length R.2 noQ := by
  have hl : liveB u.state = true := live_iff.2 (.inl hs)
  by_cases hb : Between u.ahead u.behind
  · obtain ⟨E', h1, h2, h3, h4⟩ := commit_bad (goes_ol 0 (fun _ => none) own E.txs.length) hM hu hl hb ⟨own_gone hu ho 13, over_len hu 13⟩
    rw [h1] at hR
    injection hR with hR
    subst hR
    exact h3
  · have ht' : ({ (installE E i) with com := E.com ++ [i] } : Eng).txs[i]? = some u := by show (installE E i).txs[i]? = _; rw [inst_txs]; exact hu
    have he := ce_over ht' 2
    have hcs : (overE { (installE E i) with com := E.com ++ [i] } i 2).ce.cs = E.ce.cs.set i { cor u with state := 2 } := by
      rw [he]
      show (((installE E i).txs.map cor).set i _) = _
      rw [inst_txs]
      rfl
    obtain ⟨E', h1, h2, h3, h4⟩ := commit_ok (goes_ol 0 (fun _ => none) own E.txs.length) hM hu hl hb ⟨own_other ho hcs (fun h => by cases h), by
      have := congrArg List.length hcs
      simpa [Eng.ce] using this⟩
    rw [h1] at hR
    injection hR with hR
    subst hR
    exact h3
theorem ol_abort (hM : Mid0 E) (ho : OwnOk own E.ce) (hu : E.txs[i]? = some u) (hl : liveB u.state = true) (hR : endF 7 (loseE E i 0) i 3 = some E') : OwnLen own E.txs.length E' noQ := by
  obtain ⟨E2, h1, h2, h3, h4⟩ := lose_ok (goes_ol 0 (fun _ => none) own E.txs.length) hM hu hl (why := 0) ⟨own_gone hu ho 0, over_len hu 0⟩
  rw [h1] at hR
  injection hR with hR
  subst hR
  exact h3
theorem ol_read (hM : Mid0 E) (ho : OwnOk own E.ce) (hu : E.txs[i]? = some u) (hs : u.state = 0) {key : Int} (hk : 0 ≤ key ∧ key < 10) {R : (Int × Int) × Eng} (hR : readE 7 E i key = some R) :
    OwnLen own E.txs.length R.2 noQ ∧ ((∃ v, u.vals key = some v ∧ R = ((v, 0), E)) ∨ (u.vals key = none ∧ ((R.1 = ((verP E key (seesP E u)).1.2, (verP E key (seesP E u)).2) ∧ R.2.ce = E.ce) ∨ R.1 = (0, 13)))) := by
  cases hv : u.vals key with
  | some v =>
    have e : R = ((v, 0), E) := by
      unfold readE at hR
      rw [hu] at hR
      simp only at hR
      rw [hv] at hR
      injection hR with hR
      exact hR.symm
    subst e
    exact ⟨⟨ho, rfl⟩, .inl ⟨v, rfl, rfl⟩⟩
  | none =>
    have hnl : (noteE E i u key).txs.length = E.txs.length := by unfold noteE; simp [Eng.setTx]
    have aow : ∀ b E2, aowP (noteE E i u key) i key = (b, E2) → E2.ce = E.ce := fun b E2 ha => by
      have h6 := ce_aow (noteE E i u key) i key
      rw [ha] at h6
      exact h6.trans (ce_note hu)
    have lenc : ∀ E2 : Eng, E2.ce = E.ce → E2.txs.length = E.txs.length := fun E2 h => by
      have := congrArg (fun C : CE => C.cs.length) h
      simpa [Eng.ce] using this
    obtain ⟨R', h1, h2, h3, h4, _⟩ := read_ok (goes_ol 0 (fun _ => none) own E.txs.length) hM hu hs hk hv (fun _ => ⟨by rw [ce_note hu]; exact ho, hnl⟩) (fun E2 _ ha => ⟨by rw [aow _ _ ha]; exact ho, lenc _ (aow _ _ ha)⟩) (fun E2 _ ha => by
      obtain ⟨v, hv2, e⟩ : ∃ v, E2.txs[i]? = some v ∧ cor v = cor u := cs_of (by rw [aow _ _ ha]; exact cs_get hu)
      exact ⟨own_gone hv2 (by rw [aow _ _ ha]; exact ho) 13, (over_len hv2 13).trans (lenc _ (aow _ _ ha))⟩)
    rw [h1] at hR
    injection hR with hR
    subst hR
    exact ⟨h3, .inr ⟨rfl, h4⟩⟩
theorem ol_write (hM : Mid0 E) (ho : OwnOk own E.ce) (hu : E.txs[i]? = some u) (hs : u.state = 0) {key val : Int} (hk : 0 ≤ key ∧ key < 10) (hv : -1099511627776 ≤ val ∧ val ≤ 1099511627776) {q : Int → Nat} (hq : Ranked E.T q) {R : (Bool × Int) × Eng} (hR : writeE 7 q E i key val = some R) :
    (R.1.2 ≠ 0 ∧ OwnLen own E.txs.length R.2 noQ) ∨ (R.1.2 = 0 ∧ R.1.1 = openB R.2 i ∧ OwnLen (fun j => if j = i then updT (own i) key (some val) else own j) E.txs.length R.2 noQ) := by
  have hl : liveB u.state = true := live_iff.2 (.inl hs)
  have hown := ho i _ (cs_get hu) hl
  rw [if_neg (show ¬ (cor u).state = 1 from by show ¬ u.state = 1; omega)] at hown
  have hown' : own i = u.vals := hown
  have hwl : ∀ T', (wantE E i u key val T').txs.length = E.txs.length := fun T' => by unfold wantE; simp [Eng.setTx]
  have hwo : ∀ T', OwnOk own (wantE E i u key val T').ce := fun T' => by
    rw [want_ce]
    exact own_other (t' := { cor u with wk := key, wv := val }) ho rfl (fun _ => by
      show own i = if u.state = 1 then _ else u.vals
      rw [if_neg (show ¬ u.state = 1 by omega)]; exact hown')
  obtain ⟨R', h1, _, h3, _, h5⟩ := write_ok2 (goes_ol 0 (fun _ => none) own E.txs.length) hM hu hs hk hv hq
    ⟨own_gone (want_get (key := key) (val := val) hu E.T) (hwo E.T) 11, (over_len (want_get (key := key) (val := val) hu E.T) 11).trans (hwl _)⟩
    (fun T' why E2 _ _ hp => by
      have hg := want_get (key := key) (val := val) hu T'
      rcases ce_put hg hp with ⟨rfl, rfl, _, _⟩ | ⟨hy, hn, he⟩
      · exact ⟨own_gone hg (hwo T') 10, (over_len hg 10).trans (hwl _)⟩
      · obtain ⟨v, hv2, e⟩ := cs_of (E := E2) (i := i) (by rw [he]; exact set_same (cs_get hg))
        have hl2 : E2.txs.length = E.txs.length := by
          have := congrArg (fun C : CE => C.cs.length) he
          simp only [List.length_set] at this
          have h2 : E2.ce.cs.length = E2.txs.length := by simp [Eng.ce]
          have h3 : (wantE E i u key val T').ce.cs.length = (wantE E i u key val T').txs.length := by simp [Eng.ce]
          rw [← h2, this, h3, hwl]
        exact ⟨own_gone2 hv2 (hwo T') (fun m hm => by rw [he]; exact set_ne hm) why, (over_len hv2 why).trans hl2⟩)
  rw [h1] at hR
  injection hR with hR
  subst hR
  have bad : R'.1.2 ≠ 0 → (R'.1.2 ≠ 0 ∧ OwnLen own E.txs.length R'.2 noQ) := fun h => ⟨h, h3 h⟩
  rcases h5 with h5 | ⟨h5, h6⟩ | ⟨h5, T', h6⟩ | h5 | h5
  · exact .inl (bad (by rw [h5]; decide))
  · refine .inr ⟨by rw [h5], ?_, ?_⟩
    · rw [h5, h6]
      unfold openB
      rw [show ((wantE E i u key val (updT E.T key (E.T key ++ [(i : Int) + 1]))).setTx i { u with wk := key, wv := val, state := 1 }).txs[i]? = some { u with wk := key, wv := val, state := 1 } from setTx_get (want_get (key := key) (val := val) hu _)]
      rfl
    · rw [h6]
      refine ⟨?_, by simp [Eng.setTx]; exact hwl _⟩
      intro j v hj hlv
      rw [ce_set, want_ce] at hj
      simp only [List.set_set] at hj
      rcases set_cases hj with ⟨rfl, rfl⟩ | ⟨hne, hj⟩
      · show (if j = j then _ else _) = _
        rw [if_pos rfl, hown']
        rfl
      · show (if j = i then _ else _) = _
        rw [if_neg hne]
        exact ho j v hj hlv
  · have hg := want_get (key := key) (val := val) hu T'
    rcases ce_put hg h6 with ⟨h, _⟩ | ⟨hy, hn, he⟩
    · cases h
    · refine .inr ⟨by rw [h5], ?_, ?_, ?_⟩
      · obtain ⟨v, hv2, e⟩ := cs_of (E := R'.2) (i := i) (by rw [he]; exact set_same (cs_get hg))
        rw [h5]
        unfold openB
        rw [hv2]
        have h7 : v.state = u.state := congrArg Cor.state e
        simp [h7, hs]
      · intro j v hj hlv
        rw [he, want_ce] at hj
        simp only [List.set_set] at hj
        rcases set_cases hj with ⟨rfl, rfl⟩ | ⟨hne, hj⟩
        · show (if j = j then _ else _) = if u.state = 1 then _ else updT u.vals key (some val)
          rw [if_pos rfl, hown', if_neg (show ¬ u.state = 1 by omega)]
        · show (if j = i then _ else _) = _
          rw [if_neg hne]
          exact ho j v hj hlv
      · have := congrArg (fun C : CE => C.cs.length) he
        simp only [List.length_set] at this
        have h2 : R'.2.ce.cs.length = R'.2.txs.length := by simp [Eng.ce]
        have h3 : (wantE E i u key val T').ce.cs.length = (wantE E i u key val T').txs.length := by simp [Eng.ce]
        rw [← h2, this, h3, hwl]
  · exact .inl (bad (by rw [h5]; decide))
  · exact .inl (bad (by rw [h5]; decide))
end

end Go.Proofs.YtjefgmeejhakbaaGreatDoor
