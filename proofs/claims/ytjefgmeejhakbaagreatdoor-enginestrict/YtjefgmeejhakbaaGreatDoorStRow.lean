/- keep.EngineStrict answers true at every argument, and its argument reads as it read before: the row and its tied card, with its walk and the plain mathematics ahead of it. Condition: the library's variable errors.errorType starts as the program's text lays it (the card ties it). -/
import Derived.Test.YtjefgmeejhakbaaGreatDoorMgAS
import Derived.Test.YtjefgmeejhakbaaGreatDoorMgAZ
import Derived.Test.YtjefgmeejhakbaaGreatDoorMgAD
import Derived.Test.YtjefgmeejhakbaaGreatDoorMgAP
import Derived.Test.YtjefgmeejhakbaaGreatDoorMgAX
import Derived.Deep.RegionHeld3
import Derived.Deep.QuietTactic
import Derived.BigQuiet
/- KtActs SrStep SrDoes SrHist: put together for a claim. -/
/- Acts, and numbers, that came in. -/
namespace Go.Proofs.YtjefgmeejhakbaaGreatDoor
open Go.RowKit

def ActsAt (W : World) (ad : Option Addr) (n : Nat) : Prop := ∀ i, i < n → ∃ (b off : Nat) (a0 a1 a2 a3 : Int), ad = some ⟨b, off, none⟩ ∧ W.cell? ⟨b, off + i * 4, none⟩ = some (.int .i64 a0) ∧ W.cell? ⟨b, off + i * 4 + 1, none⟩ = some (.int .i64 a1) ∧ W.cell? ⟨b, off + i * 4 + 2, none⟩ = some (.int .i64 a2) ∧ W.cell? ⟨b, off + i * 4 + 3, none⟩ = some (.int .i64 a3)
def IntsAt (W : World) (ad : Option Addr) (n : Nat) : Prop := ∀ i, i < n → ∃ (b off : Nat) (x : Int), ad = some ⟨b, off, none⟩ ∧ W.cell? ⟨b, off + i, none⟩ = some (.int .i64 x)

end Go.Proofs.YtjefgmeejhakbaaGreatDoor

/- Plain: each step of strict ones keeps that all that must be ahead is noted. -/
namespace Go.Proofs.YtjefgmeejhakbaaGreatDoor

theorem StrB.le {x : Nat → Prop} {R : Nat → List Int} {N N' : Nat} {E : Eng} (h : StrB x R N E) (hN : N ≤ N') : StrB x R N' E := ⟨Nat.le_trans h.cnt hN, h.lev, h.sl, h.full, h.btw, h.bae, h.ovr, h.rds, h.tal⟩

section
variable {i j N : Nat} {R : Nat → List Int} {E E' E2 : Eng} {t t' : Tx} {Q : Nat → Prop} {why : Int} {x : Nat → Prop}
theorem own1 (h : StrB x R N E) (hL : Later E.ce E'.ce) (hC : Com 0 (fun _ => none) E.ce) (hC' : Com 0 (fun _ => none) E'.ce) (ht : E.txs[i]? = some t) (h3 : t.state ≠ 3) (e1 : t'.level = t.level) (e2 : t'.start = t.start) (e3 : t'.seen = t.seen) (e4 : t'.reads = t.reads) (hw : liveB t'.state = true ∨ t'.bae = E.txs.length) : Own1 R 0 i E E' t t' := by
  have hi := (List.getElem?_eq_some_iff.1 ht).1
  refine ⟨by rw [e4]; exact Nat.le_refl _, e1, e2, by rw [e3]; exact h.sl i t ht, fun m hm => ?_, fun hl => ?_, fun p hp => ?_, fun _ a ha => by rw [e4]; exact h.tal i t ht h3 a ha⟩
  · unfold wasOverB
    rcases hw with hw | hw
    · rw [hw]; rfl
    · rw [hw, decide_eq_false (by omega), Bool.and_false]
  · rcases hw with hw | hw
    · rw [hw] at hl; cases hl
    · rw [hw]; omega
  · rw [e4] at hp
    obtain ⟨h1, h2, h4⟩ := h.rds i t ht p hp
    rw [e2, e3, from_later hL hC hC' (show t.start ≤ E.ce.last from (hC.start i _ (cs_get ht)).2)]
    exact ⟨h1, h2, h4⟩
theorem gone_txs (ht : E.txs[i]? = some t) : (overE (loseE E i why) i 3).txs = (E.txs.map (freeOf ((i : Int) + 1))).set i { freeOf ((i : Int) + 1) { t with why := why } with reads := [], state := 3, bae := E.txs.length } := by
  have hi := (List.getElem?_eq_some_iff.1 ht).1
  have h2 : ({ E with txs := (E.txs.set i { t with why := why }).map (freeOf ((i : Int) + 1)) } : Eng).txs[i]? = some (freeOf ((i : Int) + 1) { t with why := why }) := by simp [hi]
  have h3 : loseE E i why = Eng.setTx { E with txs := (E.txs.set i { t with why := why }).map (freeOf ((i : Int) + 1)) } i { freeOf ((i : Int) + 1) { t with why := why } with reads := [] } := by
    unfold loseE
    rw [ht]
    exact Eng.upd_some h2 _
  have h4 : (loseE E i why).txs[i]? = some { freeOf ((i : Int) + 1) { t with why := why } with reads := [] } := by rw [h3]; exact setTx_get h2
  have h5 : (loseE E i why).txs.length = E.txs.length := by rw [h3]; simp [Eng.setTx]
  unfold overE
  rw [Eng.upd_some h4, h5]
  show (loseE E i why).txs.set i _ = _
  rw [h3]
  simp [Eng.setTx, List.map_set]
theorem StrB.lose (h : StrB (· = i) R N E) (hC : Com 0 (fun _ => none) E.ce) (ht : E.txs[i]? = some t) (hl : liveB t.state = true) : StrB noQ R N (overE (loseE E i why) i 3) := by
  have hi := (List.getElem?_eq_some_iff.1 ht).1
  have htx := gone_txs (why := why) ht
  have hne : ∀ k, k ≠ i → (overE (loseE E i why) i 3).txs[k]? = (E.txs[k]?).map (freeOf ((i : Int) + 1)) := fun k hk => by rw [htx, List.getElem?_set_ne (fun e => hk e.symm), List.getElem?_map]
  have hii : (overE (loseE E i why) i 3).txs[i]? = some { freeOf ((i : Int) + 1) { t with why := why } with reads := [], state := 3, bae := E.txs.length } := by rw [htx, List.getElem?_set_self (by simpa using hi)]
  have hwr : (overE (loseE E i why) i 3).wr = E.wr := by
    obtain ⟨u, hu, e⟩ := lose_get (why := why) ht
    have := congrArg CE.wr (ce_over hu 3)
    rw [ce_lose] at this
    exact this
  have hT : Turn i E (overE (loseE E i why) i 3) := ⟨by rw [htx]; simp, fun k t' hk ht' => by
      rw [hne k hk] at ht'
      obtain ⟨t0, h0, rfl⟩ := Option.map_eq_some_iff.1 ht'
      exact ⟨t0, fun a => t0.ahead a && a != (i : Int) + 1, fun a => t0.behind a && a != (i : Int) + 1, h0, rfl, fun a ha => by simp [ha], fun a ha => by simp [ha]⟩, fun c k _ => by rw [hwr]⟩
  have h1 := h.turn (d := 0) (R' := R) hT (later_gone ht hl why) hC (by
    obtain ⟨u, hu, e⟩ := lose_get (why := why) ht
    rw [ce_over hu, e, ce_lose]
    exact hC.set (t' := { cor t with state := 3 }) (cs_get ht) hl (by show (3 : Int) ≠ 2; omega) rfl rfl _ (fun _ _ _ _ h3 => (h3 rfl).elim)) ht hii ⟨Nat.zero_le _, rfl, rfl, h.sl i t ht, fun m hm => by
    show (!liveB 3 && decide ((E.txs.length : Int) < (m : Int) + 1)) = false
    rw [decide_eq_false (by omega), Bool.and_false], fun _ => by show (i : Int) < (E.txs.length : Int); omega, fun p hp => (by cases hp), fun h3 => absurd rfl h3⟩ (fun _ _ => rfl)
  refine h1.whole (fun m x u a _ hx _ hN => ?_) (fun k x u a _ _ hu hN => ?_) (fun k x hx hs hb => ?_)
  · rw [hii] at hx
    cases hx
    exact (hN.1 rfl).elim
  · rw [hii] at hu
    cases hu
    exact (hN.2.1 rfl).elim
  · by_cases e : k = i
    · subst e
      rw [hii] at hx
      cases hx
      cases hs
    · rw [hne k e] at hx
      obtain ⟨x0, h0, rfl⟩ := Option.map_eq_some_iff.1 hx
      obtain ⟨⟨a, ha⟩, b, hb⟩ := hb
      simp only [freeOf, Bool.and_eq_true, bne_iff_ne, ne_eq] at ha hb
      exact h.btw k x0 e h0 hs ⟨⟨a, ha.1, fun m hm => by rw [hm]; exact ha.2⟩, b, hb.1, fun m hm => by rw [hm]; exact hb.2⟩
theorem StrB.commit (h : StrB noQ R N E) (hM : Mid 0 (fun _ => none) E.ce Q) (hq : ¬ Q i) (ht : E.txs[i]? = some t) (hl : liveB t.state = true) (hb : ¬ Between t.ahead t.behind) : StrB noQ R N (overE { (installE E i) with com := E.com ++ [i] } i 2) := by
  have hi := (List.getElem?_eq_some_iff.1 ht).1
  have h3 : t.state ≠ 3 := by rcases live_iff.1 hl with e | e <;> omega
  have ht0 : ({ (installE E i) with com := E.com ++ [i] } : Eng).txs[i]? = some t := by show (installE E i).txs[i]? = _; rw [inst_txs]; exact ht
  have htx : (overE { (installE E i) with com := E.com ++ [i] } i 2).txs = E.txs.set i { t with state := 2, bae := E.txs.length } := by
    unfold overE
    rw [Eng.upd_some ht0]
    show (installE E i).txs.set i { t with state := 2, bae := (installE E i).txs.length } = _
    rw [inst_txs]
  have hii : (overE { (installE E i) with com := E.com ++ [i] } i 2).txs[i]? = some { t with state := 2, bae := E.txs.length } := by rw [htx, List.getElem?_set_self hi]
  have hw0 : (overE { (installE E i) with com := E.com ++ [i] } i 2).wr = (installE E i).wr := by
    unfold overE
    rw [Eng.upd_some ht0]
    rfl
  have hwr : ∀ (c : Int) (k : Nat), k ≠ i → ((overE { (installE E i) with com := E.com ++ [i] } i 2).wr c = some ((k : Int) + 1) ↔ E.wr c = some ((k : Int) + 1)) := fun c k hk => by
    rw [hw0]
    unfold installE
    rw [ht]
    simp only
    split
    · rfl
    · show updT E.wr (E.last + 1) (some ((i : Int) + 1)) c = _ ↔ _
      by_cases e : c = E.last + 1
      · subst e
        rw [updT_same]
        constructor
        · intro h5; injection h5 with h5; omega
        · intro h5
          have := (hM.com.wr_le (C := E.ce) (c := E.last + 1) h5).2
          have e : E.ce.last = E.last := rfl
          omega
      · rw [updT_other _ _ e]
  have hT : Turn i E (overE { (installE E i) with com := E.com ++ [i] } i 2) := ⟨by rw [htx]; simp, fun k u hk hu => by
    rw [htx, List.getElem?_set_ne (fun e => hk e.symm)] at hu
    exact ⟨u, u.ahead, u.behind, hu, rfl, fun _ _ => rfl, fun _ _ => rfl⟩, hwr⟩
  have hL := later_commit ht hl
  have hC' := (hM.commitE (i := i) hq ht hl).1.com
  refine h.step (d := 0) (R' := R) hT (Mono.set ht htx rfl rfl) hL hM.com hC' ht hl (fun c => hM.open_wr ht hl c) hii (own1 h hL hM.com hC' ht h3 rfl rfl rfl rfl (.inr rfl)) (fun _ _ => rfl) (fun k u hu hs => ?_) (fun m u a _ _ hN hs => ?_) (fun k u a _ _ hN hv => ?_)
  · by_cases e : k = i
    · subst e
      rw [hii] at hu
      cases hu
      exact hb
    · rw [htx, List.getElem?_set_ne (fun h => e h.symm)] at hu
      exact h.bt k u hu hs
  · have := hN.2.2.1
    rw [show ({ t with state := 2, bae := (E.txs.length : Int) } : Tx).seen = t.seen from rfl, hs] at this
    cases this
  · exact (hN.2.2.2.2.1 hv).elim
theorem StrB.same (h : StrB noQ R N E) (hL : Later E.ce E'.ce) (hC : Com 0 (fun _ => none) E.ce) (hC' : Com 0 (fun _ => none) E'.ce) (ht : E.txs[i]? = some t) (hl : liveB t.state = true) (hw : ∀ c, E.wr c ≠ some ((i : Int) + 1)) (htx : E'.txs = E.txs.set i t') (hwr : E'.wr = E.wr) (e1 : t'.level = t.level) (e2 : t'.start = t.start) (e3 : t'.seen = t.seen) (e4 : t'.reads = t.reads) (e5 : t'.vals = t.vals) (e6 : t'.ahead = t.ahead) (e7 : t'.behind = t.behind) (hl' : liveB t'.state = true) : StrB noQ R N E' := by
  have hi := (List.getElem?_eq_some_iff.1 ht).1
  have h3 : t.state ≠ 3 := by rcases live_iff.1 hl with e | e <;> omega
  have hii : E'.txs[i]? = some t' := by rw [htx, List.getElem?_set_self hi]
  refine h.step (d := 0) (R' := R) (Turn.set htx hwr) (Mono.set ht htx e6 e7) hL hC hC' ht hl hw hii (own1 h hL hC hC' ht h3 e1 e2 e3 e4 (.inl hl')) (fun _ _ => rfl) (fun k u hu hs => ?_) (fun m u a _ _ hN hs => ?_) (fun k u a _ _ hN hv => ?_)
  · by_cases e : k = i
    · subst e
      rw [hii] at hu
      cases hu
      rcases live_iff.1 hl' with e | e <;> omega
    · rw [htx, List.getElem?_set_ne (fun h => e h.symm)] at hu
      exact h.bt k u hu hs
  · have := hN.2.2.1
    rw [e3, hs] at this
    cases this
  · exact (hN.2.2.2.2.1 (by rw [e5]; exact hv)).elim
theorem StrB.put (h : StrB noQ R N E) (hC : Com 0 (fun _ => none) E.ce) (ht : E.txs[i]? = some t) (hl : liveB t.state = true) (hwk : 0 ≤ t.wk ∧ t.wk < 10) (hw : ∀ c, E.wr c ≠ some ((i : Int) + 1)) (hp : putE E i = (why, E2)) : (why = 0 → StrB noQ R N E2) ∧ StrB (· = i) R N E2 ∧ Com 0 (fun _ => none) E2.ce := by
  have hi := (List.getElem?_eq_some_iff.1 ht).1
  have h3 : t.state ≠ 3 := by rcases live_iff.1 hl with e | e <;> omega
  have h2 : t.state ≠ 2 := by rcases live_iff.1 hl with e | e <;> omega
  have hcp := ce_put ht hp
  unfold putE at hp
  rw [ht] at hp
  simp only at hp
  split at hp
  · injection hp with h1 h2
    subst h2
    exact ⟨fun e => by omega, h.weak i, hC⟩
  · rename_i hnn
    rw [if_pos (h.lev i t ht)] at hp
    obtain ⟨E1, hE1⟩ : ∃ E1, E.setTx i { t with vals := updT t.vals t.wk (some t.wv) } = E1 := ⟨_, rfl⟩
    rw [hE1] at hp
    rcases hb : behindP E1 i t.wk with ⟨b, E3⟩
    rw [hb] at hp
    have e32 : E3 = E2 := by cases b <;> simp only [Prod.mk.injEq] at hp <;> exact hp.2
    subst e32
    have h1i : E1.txs[i]? = some { t with vals := updT t.vals t.wk (some t.wv) } := by rw [← hE1]; exact setTx_get ht
    have h1o : ∀ k, k ≠ i → E1.txs[k]? = E.txs[k]? := fun k hk => by rw [← hE1]; exact setTx_get_ne (fun e => hk e.symm)
    have h1x : E1.txs = E.txs.set i { t with vals := updT t.vals t.wk (some t.wv) } := by rw [← hE1]; rfl
    have h1w : E1.wr = E.wr := by rw [← hE1]; rfl
    obtain ⟨g, k0⟩ := all_str i _ _ _ _ hb (fun j hj => by
      have := (List.mem_filter.1 hj).2
      split at this
      · simp only [hasReadB, Bool.and_eq_true, decide_eq_true_eq] at this
        exact this.2.1
      · cases this)
    have hT : Turn i E E3 := (Turn.set h1x h1w).trans g.turn
    have hm : Mono E E3 := (Mono.set ht h1x rfl rfl).trans g.mono
    obtain ⟨A, B, ht2, _⟩ := g.all i _ h1i
    have hce : E3.ce = { E.ce with cs := E.ce.cs.set i { cor t with vals := updT t.vals t.wk (some t.wv) } } := by
      rcases hcp with ⟨_, _, hc1, hc2⟩ | ⟨_, _, he⟩
      · exact (hnn ⟨hc1, hc2⟩).elim
      · exact he
    have hC2 : Com 0 (fun _ => none) E3.ce := by
      rw [hce]
      exact hC.put (t' := { cor t with vals := updT t.vals t.wk (some t.wv) }) (k0 := t.wk) (x0 := t.wv) (cs_get ht) hl hl rfl rfl hwk rfl E.ce.T hnn
    have hL : Later E.ce E3.ce := Later.set (t' := { cor t with vals := updT t.vals t.wk (some t.wv) }) (cs_get ht) hl rfl rfl (by rw [hce]) (by rw [hce])
    have ho : Own1 R 0 i E E3 t { t with vals := updT t.vals t.wk (some t.wv), ahead := A, behind := B } := own1 h hL hC hC2 ht h3 rfl rfl rfl rfl (.inl hl)
    refine ⟨fun e0 => ?_, (h.weak i).turn (d := 0) hT hL hC hC2 ht ht2 ho (fun _ _ => rfl), hC2⟩
    have hbt : b = true := by
      cases b with
      | true => rfl
      | false => simp only [Prod.mk.injEq] at hp; omega
    have hB1 : BT E1 := fun k u hu hs => by
      by_cases e : k = i
      · subst e
        rw [h1i] at hu
        cases hu
        exact (h2 hs).elim
      · rw [h1o k e] at hu
        exact h.bt k u hu hs
    refine h.step (d := 0) (R' := R) hT hm hL hC hC2 ht hl hw ht2 ho (fun _ _ => rfl) ((k0 hbt).1 hB1) (fun m u a _ _ hN hs => ?_) (fun k u a hk hu hN hv => ?_)
    · have := hN.2.2.1
      rw [show ({ t with vals := updT t.vals t.wk (some t.wv), ahead := A, behind := B } : Tx).seen = t.seen from rfl, hs] at this
      cases this
    · obtain ⟨n1, n2, n3, n4, n5, n6, n7⟩ := hN
      have ea : a = t.wk := Classical.byContradiction fun hne => n5 (by
        show updT t.vals t.wk (some t.wv) a = none
        rw [updT_other _ _ hne]
        exact hv)
      subst ea
      obtain ⟨u0, A0, B0, hu0, rfl, _⟩ := g.inv hu
      refine (k0 hbt).2 k (List.mem_filter.2 ⟨List.mem_range.2 (List.getElem?_eq_some_iff.1 hu0).1, ?_⟩)
      rw [hu0]
      have hlv := h.lev k u0 (by rw [← h1o k hk]; exact hu0)
      show hasReadB t.wk i k u0 = true
      unfold hasReadB
      have n3' : u0.seen[t.wk.toNat]?.getD false = true := n3
      have n7' : wasOverB u0 ((i : Int) + 1) = false := n7
      have n1' : u0.state ≠ 3 := n1
      rw [n3', n7', hlv]
      simp [hk, n1']
theorem goes_str (R : Nat → List Int) (N : Nat) : Goes 0 (fun _ => none) (fun E _ => StrB noQ R N E) := by
  have key : ∀ (E : Eng) (Q : Nat → Prop) (j : Nat) (why : Int) (E2 : Eng), Mid 0 (fun _ => none) E.ce Q → StrB noQ R N E → Q j → putE (wakeE E j) j = (why, E2) → (why = 0 → StrB noQ R N E2) ∧ StrB (· = j) R N E2 ∧ Com 0 (fun _ => none) E2.ce := fun E Q j why E2 hM hP hq hp => by
    obtain ⟨u, hu, h1, _⟩ := hM.loc.pend j hq
    obtain ⟨t, ht, rfl⟩ := cs_of hu
    have hl : liveB t.state = true := live_iff.2 (.inr h1)
    have hw : wakeE E j = E.setTx j { t with state := 0 } := by unfold wakeE; exact Eng.upd_some ht _
    have hwc : (wakeE E j).ce = { E.ce with cs := E.ce.cs.set j { cor t with state := 0 } } := by unfold wakeE; rw [ce_upd ht]; rfl
    have hC' : Com 0 (fun _ => none) (wakeE E j).ce := by rw [hwc]; exact (hM.wake hq hu).com
    have hL : Later E.ce (wakeE E j).ce := Later.set (t' := { cor t with state := 0 }) (cs_get ht) hl rfl rfl (by rw [hwc]) (by rw [hwc])
    have hop := fun c => hM.open_wr ht hl c
    have h2 : StrB noQ R N (wakeE E j) := hP.same (t' := { t with state := 0 }) hL hM.com hC' ht hl hop (by rw [hw]; rfl) (by rw [hw]; rfl) rfl rfl rfl rfl rfl rfl rfl rfl
    exact h2.put (t := { t with state := 0 }) hC' (by rw [hw]; exact setTx_get ht) rfl (hM.reg.fair j _ hu).wan.1 (by rw [hw]; exact hop) hp
  refine ⟨fun E Q j E2 hM hP hq hp => (key E Q j 0 E2 hM hP hq hp).1 rfl, fun E Q j why E2 hM hP hq hp _ => ?_⟩
  obtain ⟨hM2, _, _, ⟨u, hu, hs⟩, _⟩ := hM.putE hq hp
  have hk := key E Q j why E2 hM hP hq hp
  exact hk.2.1.lose hk.2.2 hu (live_iff.2 (.inl hs))
end

end Go.Proofs.YtjefgmeejhakbaaGreatDoor

/- Plain: each act of strict ones keeps that all that must be ahead is noted. -/
namespace Go.Proofs.YtjefgmeejhakbaaGreatDoor

theorem newer_mem {E : Eng} {Q : Nat → Prop} (hM : Mid 0 (fun _ => none) E.ce Q) {a u c x : Int} (ha : 0 ≤ a ∧ a < 10) (hu : E.ce.Sees u) (hc : (c, x) ∈ full0 E.ce a) (hlt : u < c) : c ∈ newerP E a u := by
  obtain ⟨d, h1, h3, h4⟩ := hM.com.kss a.toNat (by omega)
  have ha' : ((a.toNat : Nat) : Int) = a := by omega
  rw [ha'] at h1 h3 h4
  have hsort : (full0 E.ce a).Pairwise (fun p q => p.1 < q.1) := by
    unfold full0 full
    simp only [List.nil_append]
    exact fullFrom_sorted _ _ _ _
  have hmem : (c, x) ∈ (full0 E.ce a).drop d := by
    rcases h4 u hu with e | ⟨q, hq, hqu⟩
    · subst e
      rw [List.drop_zero]
      exact hc
    · have hc2 := hc
      rw [← List.take_append_drop d (full0 E.ce a)] at hc2 hsort
      rcases List.mem_append.1 hc2 with h5 | h5
      · have := (List.pairwise_append.1 hsort).2.2 _ h5 q hq
        simp only at this
        omega
      · exact h5
  unfold newerP
  rw [show E.ks[a.toNat]? = some ((full0 E.ce a).drop d) from h3]
  simp only [Option.getD_some]
  obtain ⟨l, hl⟩ : ∃ l, (full0 E.ce a).drop d = l := ⟨_, rfl⟩
  have hs2 : l.Pairwise (fun p q => p.1 < q.1) := by rw [← hl]; exact hsort.sublist (List.drop_sublist d _)
  rw [hl] at hmem ⊢
  obtain ⟨n, hn, e⟩ := List.mem_iff_getElem.1 hmem
  have key : ∀ m, m ≤ l.length → 0 ≤ latN l u m → ∃ p, l[(latN l u m).toNat]? = some p ∧ p.1 ≤ u := by
    intro m
    induction m with
    | zero => intro _ h; simp [latN] at h
    | succ m ih =>
      intro hm h
      have hget : l[m]? = some (l[m]'(by omega)) := List.getElem?_eq_getElem _
      by_cases hc : (l[m]'(by omega)).1 ≤ u
      · simp only [latN, hget, Option.getD_some, if_pos hc]
        exact ⟨_, by rw [Int.toNat_natCast]; exact hget, hc⟩
      · simp only [latN, hget, Option.getD_some, if_neg hc] at h ⊢
        exact ih (by omega) h
  have hb := lat_bounds l u
  have hgt : lat l u < n := by
    refine Classical.byContradiction fun hn2 => ?_
    obtain ⟨p, hp, hpu⟩ := key l.length (Nat.le_refl _) (show 0 ≤ lat l u by omega)
    have hp' : l[(lat l u).toNat]? = some p := hp
    by_cases e2 : n = (lat l u).toNat
    · rw [← e2, List.getElem?_eq_getElem hn, e] at hp'
      injection hp' with hp'
      rw [← hp'] at hpu
      simp only at hpu
      omega
    · obtain ⟨h5, h6⟩ := List.getElem?_eq_some_iff.1 hp'
      have := List.pairwise_iff_getElem.1 hs2 n (lat l u).toNat hn h5 (by omega)
      rw [e, h6] at this
      simp only at this
      omega
  refine List.mem_map.2 ⟨(c, x), ?_, rfl⟩
  have : l[n]? = some (c, x) := by rw [List.getElem?_eq_getElem hn, e]
  refine List.mem_of_getElem? (i := n - (lat l u + 1).toNat) ?_
  rw [List.getElem?_drop, show (lat l u + 1).toNat + (n - (lat l u + 1).toNat) = n by omega]
  exact this

section
variable {i N : Nat} {R : Nat → List Int} {E E' E2 : Eng} {t u : Tx} {Q : Nat → Prop} {why key : Int}
def extR (R : Nat → List Int) (i : Nat) (key : Int) : Nat → List Int := fun k => if k = i then R i ++ [key] else R k
theorem aow_str {b : Bool} (h : aowP E i key = (b, E')) (ht : E.txs[i]? = some t) (h2 : t.state ≠ 2) (hv : t.vals key = none) (hlv : ∀ (k : Nat) (u : Tx), E.txs[k]? = some u → u.level = 2) (hw : ∀ (c : Int) (m : Nat), E.wr c = some ((m : Int) + 1) → m ≠ i) :
    Grow i E E' ∧ (b = true → (BT E → BT E') ∧ (∀ c ∈ newerP E key t.start, ∀ m : Nat, E.wr c = some ((m : Int) + 1) → Marked E' i m) ∧ ∀ (m : Nat) (u : Tx), E.txs[m]? = some u → writesB key u = true → Marked E' i m) := by
  unfold aowP at h
  rw [ht] at h
  simp only at h
  rcases hp : aheadTimes i (newerP E key t.start) E with ⟨b1, E1⟩
  rw [hp] at h
  obtain ⟨g, k⟩ := times_str i _ _ _ _ hp hw hlv
  cases b1 with
  | false =>
    cases h
    exact ⟨g, fun h => by cases h⟩
  | true =>
    simp only [Prod.mk.injEq] at h
    obtain ⟨rfl, rfl⟩ := h
    have hjs : ∀ j, j ∈ thoseP E1 (fun _ u => writesB key u) → j ≠ i ∧ ∀ t, E1.txs[j]? = some t → t.state ≠ 2 := fun j hj => by
      have h5 := (List.mem_filter.1 hj).2
      split at h5
      · rename_i v hv1
        simp only [writesB, Bool.and_eq_true] at h5
        refine ⟨fun e => ?_, fun t' ht' => ?_⟩
        · subst e
          obtain ⟨t0, A, B, h0, rfl, _⟩ := g.inv hv1
          rw [ht] at h0
          cases h0
          have := h5.1
          rw [show ({ t with ahead := A, behind := B } : Tx).vals key = t.vals key from rfl, hv] at this
          cases this
        · rw [hv1] at ht'
          cases ht'
          rcases live_iff.1 h5.2.2 with e | e <;> omega
      · cases h5
    obtain ⟨g2, k1, k2⟩ := each_str i _ E1 (fun j hj => (hjs j hj).1)
    refine ⟨g.trans g2, fun _ => ⟨fun hB => k2 (fun t' ht' => ?_) (fun j hj => (hjs j hj).2) ((k rfl).1 hB), fun c hc m hm => ((k rfl).2 c hc m hm).mono g2.mono, fun m u hu hwb => k1 m ?_⟩⟩
    · obtain ⟨t0, A, B, h0, rfl, _⟩ := g.inv ht'
      rw [ht] at h0
      cases h0
      exact h2
    · obtain ⟨A, B, h1, _⟩ := g.all m u hu
      refine List.mem_filter.2 ⟨List.mem_range.2 (List.getElem?_eq_some_iff.1 h1).1, ?_⟩
      rw [h1]
      exact hwb
theorem StrB.aow {b : Bool} (h : StrB noQ R N E) (hM : Mid 0 (fun _ => none) E.ce Q) (ht : E.txs[i]? = some t) (hs : t.state = 0) (hk : 0 ≤ key ∧ key < 10) (hv : t.vals key = none) (ha : aowP (noteE E i t key) i key = (b, E2)) : (b = true → StrB noQ (extR R i key) (N + 1) E2) ∧ StrB (· = i) R (N + 1) E2 := by
  have hl : liveB t.state = true := live_iff.2 (.inl hs)
  have hi := (List.getElem?_eq_some_iff.1 ht).1
  have hop := fun c => hM.open_wr ht hl c
  have hce0 : (noteE E i t key).ce = E.ce := ce_note ht
  have hlt := h.lev i t ht
  have hst := hM.com.start i _ (cs_get ht)
  have hsee : E.ce.Sees t.start := .inr ⟨i, _, cs_get ht, hl, (by show t.level ≠ 0; omega), Int.le_refl _⟩
  obtain ⟨f, hf⟩ : ∃ f, (E.wr (verP E key (seesP E t)).1.1).getD 0 = f := ⟨_, rfl⟩
  have hfrom : f = fromP E.ce key t.start := by
    rw [← hf]
    unfold seesP verP fromP
    rw [if_neg (by omega), hM.rd_full hk hsee]
    cases rdP t.start (full0 E.ce key) with
    | none =>
      simp only
      have : E.wr 0 = none := by
        cases h0 : E.wr 0 with
        | none => rfl
        | some n =>
          have := (hM.com.wr_le (C := E.ce) (c := 0) h0).1
          omega
      rw [this]
      rfl
    | some p => rfl
  obtain ⟨t1, ht1⟩ : ∃ t1, noteReadP t key f = t1 := ⟨_, rfl⟩
  have hn : noteE E i t key = E.setTx i t1 := by unfold noteE; rw [hf, ht1]
  obtain ⟨E1, hE1⟩ : ∃ E1, noteE E i t key = E1 := ⟨_, rfl⟩
  rw [hE1] at ha hce0
  have h1x : E1.txs = E.txs.set i t1 := by rw [← hE1, hn]; rfl
  have h1w : E1.wr = E.wr := by rw [← hE1, hn]; rfl
  have h1i : E1.txs[i]? = some t1 := by rw [h1x, List.getElem?_set_self hi]
  have h1o : ∀ k, k ≠ i → E1.txs[k]? = E.txs[k]? := fun k hk => by rw [h1x, List.getElem?_set_ne (fun e => hk e.symm)]
  have f1 : t1.level = t.level ∧ t1.start = t.start ∧ t1.state = t.state ∧ t1.vals = t.vals ∧ t1.ahead = t.ahead ∧ t1.behind = t.behind ∧ t1.reads = t.reads ++ [(key, f)] ∧ t1.seen = t.seen.set key.toNat true := by
    rw [← ht1]
    exact ⟨rfl, rfl, rfl, rfl, rfl, rfl, rfl, rfl⟩
  obtain ⟨fl, fs, fst, fv, fa, fb, fr, fe⟩ := f1
  obtain ⟨g, k0⟩ := aow_str ha h1i (by rw [fst]; omega) (by rw [fv]; exact hv) (fun k u hu => by
    by_cases e : k = i
    · subst e; rw [h1i] at hu; cases hu; rw [fl]; exact hlt
    · rw [h1o k e] at hu; exact h.lev k u hu) (fun c m hc e => by rw [h1w, e] at hc; exact hop c hc)
  have hT : Turn i E E2 := (Turn.set h1x h1w).trans g.turn
  have hm : Mono E E2 := (Mono.set ht h1x fa fb).trans g.mono
  obtain ⟨A, B, ht2, _⟩ := g.all i _ h1i
  have hce : E2.ce = E.ce := g.ce.trans hce0
  have hL : Later E.ce E2.ce := by rw [hce]; exact Later.refl _
  have hC2 : Com 0 (fun _ => none) E2.ce := by rw [hce]; exact hM.com
  have hsl := h.sl i t ht
  have hset : ∀ a : Nat, (t.seen.set key.toNat true)[a]?.getD false = if a = key.toNat then true else t.seen[a]?.getD false := fun a => by
    by_cases e : a = key.toNat
    · subst e
      rw [if_pos rfl, List.getElem?_set_self (by omega)]
      rfl
    · rw [if_neg e, List.getElem?_set_ne (fun h => e h.symm)]
  have ho : ∀ R', (∀ a ∈ R' i, a ∈ R i ∨ a = key) → Own1 R' 1 i E E2 t { t1 with ahead := A, behind := B } := fun R' hR' => by
    refine ⟨by show t1.reads.length ≤ _; rw [fr]; simp, fl, fs, by show t1.seen.length = 10; rw [fe]; simpa using hsl, fun m _ => ?_, fun hl2 => ?_, fun p hp => ?_, fun _ a ha => ?_⟩
    · show (!liveB t1.state && _) = false
      rw [fst, hl]
      rfl
    · have : liveB t1.state = false := hl2
      rw [fst, hl] at this
      cases this
    · have hp' : p ∈ t1.reads := hp
      show (0 ≤ p.1 ∧ p.1 < 10) ∧ p.2 = fromP E2.ce p.1 t1.start ∧ t1.seen[p.1.toNat]?.getD false = true
      rw [hce, fs, fe, hset]
      rw [fr] at hp'
      rcases List.mem_append.1 hp' with h5 | h5
      · obtain ⟨q1, q2, q3⟩ := h.rds i t ht p h5
        refine ⟨q1, q2, ?_⟩
        split
        · rfl
        · exact q3
      · rw [List.mem_singleton.1 h5]
        exact ⟨hk, hfrom, by simp⟩
    · show ∃ f, (a, f) ∈ t1.reads
      rw [fr]
      rcases hR' a ha with h5 | h5
      · obtain ⟨f', h6⟩ := h.tal i t ht (by omega) a h5
        exact ⟨f', List.mem_append_left _ h6⟩
      · exact ⟨f, List.mem_append_right _ (by rw [h5]; exact List.mem_singleton.2 rfl)⟩
  refine ⟨fun hb => ?_, (h.weak i).turn (d := 1) hT hL hM.com hC2 ht ht2 (ho R (fun a ha => .inl ha)) (fun _ _ => rfl)⟩
  have hB1 : BT E1 := fun k u hu hs2 => by
    by_cases e : k = i
    · subst e
      rw [h1i] at hu
      cases hu
      rw [fst] at hs2
      omega
    · rw [h1o k e] at hu
      exact h.bt k u hu hs2
  refine h.step (d := 1) (R' := extR R i key) hT hm hL hM.com hC2 ht hl hop ht2 (ho _ (fun a ha => ?_)) (fun k hk => by unfold extR; rw [if_neg hk]) ((k0 hb).1 hB1) (fun m u a hmi hu hN hsf => ?_) (fun k u a _ _ hN hv2 => ?_)
  · unfold extR at ha
    rw [if_pos rfl] at ha
    rcases List.mem_append.1 ha with h5 | h5
    · exact .inl h5
    · exact .inr (List.mem_singleton.1 h5)
  · obtain ⟨n1, n2, n3, n4, n5, n6, n7⟩ := hN
    have n3' : t1.seen[a.toNat]?.getD false = true := n3
    rw [fe, hset] at n3'
    have ea : a = key := by
      split at n3'
      · omega
      · rw [hsf] at n3'; cases n3'
    subst ea
    obtain ⟨u1, A1, B1, hu1, rfl, _⟩ := g.inv hu
    have hu0 : E.txs[m]? = some u1 := by rw [← h1o m hmi]; exact hu1
    have n5' : u1.vals a ≠ none := n5
    have n2' : u1.state ≠ 3 := n2
    have hfair := hM.reg.fair m _ (cs_get hu0)
    have hst01 : 0 ≤ u1.state ∧ u1.state ≤ 3 := hfair.sta
    cases hlu : liveB u1.state with
    | true => exact (k0 hb).2.2 m u1 hu1 (by
        unfold writesB
        rw [hlu, h.lev m u1 hu0]
        cases hx : u1.vals a with
        | none => exact absurd hx n5'
        | some y => rfl)
    | false =>
      have hs2 : u1.state = 2 := by
        have : ¬ (u1.state = 0 ∨ u1.state = 1) := fun hc => by rw [live_iff.2 hc] at hlu; cases hlu
        omega
      have hcw : m ∈ E.ce.cw := by
        refine List.mem_filter.2 ⟨(hM.com.coms m).2 ⟨_, cs_get hu0, hs2⟩, decide_eq_true ?_⟩
        rw [CE.v_some (cs_get hu0)]
        have hm2 : a ∈ keysOf u1.vals := (mem_keysOf (f := u1.vals) hfair.vk a).2 (by cases hx : u1.vals a with | none => exact absurd hx n5' | some y => rfl)
        intro e
        have : (keysOf u1.vals).map (fun k => (k, (u1.vals k).getD 0)) = [] := e
        rw [List.map_eq_nil_iff] at this
        rw [this] at hm2
        cases hm2
      obtain ⟨c, hc⟩ := hM.com.wr_of hcw
      have hcs : t.start < c := by
        have := n6 c (by rw [show E2.wr = E2.ce.wr from rfl, hce]; exact hc)
        have e : ({ t1 with ahead := A, behind := B } : Tx).start = t.start := fs
        omega
      obtain ⟨y, hy⟩ : ∃ y, u1.vals a = some y := by cases hx : u1.vals a with | none => exact absurd hx n5' | some y => exact ⟨y, rfl⟩
      have hful := hM.com.full_of (a := a) (x := y) hc (by rw [CE.v_some (cs_get hu0)]; exact hy)
      have hnm := newer_mem hM hk hsee hful hcs
      refine (k0 hb).2.1 c ?_ m (by rw [h1w]; exact hc)
      rw [fs]
      have hks : E1.ks = E.ks := congrArg CE.ks hce0
      unfold newerP at hnm ⊢
      rw [hks]
      exact hnm
  · have n5 : t1.vals a ≠ none := hN.2.2.2.2.1
    rw [fv] at n5
    exact (n5 hv2).elim
theorem str_read (h : StrB noQ R N E) (hM : Mid0 E) (ht : E.txs[i]? = some t) (hs : t.state = 0) (hk : 0 ≤ key ∧ key < 10) {Rr : (Int × Int) × Eng} (hR : readE 7 E i key = some Rr) :
    (∃ v, t.vals key = some v ∧ Rr.2 = E) ∨ (t.vals key = none ∧ Rr.1.2 = 13 ∧ StrB noQ R (N + 1) Rr.2) ∨ (t.vals key = none ∧ StrB noQ (extR R i key) (N + 1) Rr.2) := by
  have hkb : keyB key = true := by simp [keyB]; omega
  unfold readE at hR
  rw [ht] at hR
  simp only at hR
  cases hv : t.vals key with
  | some v =>
    rw [hv] at hR
    simp only [Option.some.injEq] at hR
    exact .inl ⟨v, rfl, by rw [← hR]⟩
  | none =>
    rw [hv] at hR
    simp only at hR
    rw [if_neg (by rw [hkb]; simp), if_pos (h.lev i t ht)] at hR
    rcases ha : aowP (noteE E i t key) i key with ⟨b, E2⟩
    rw [show aowP (E.setTx i (noteReadP t key ((E.wr (verP E key (seesP E t)).1.1).getD 0))) i key = (b, E2) from ha] at hR
    obtain ⟨k1, k2⟩ := h.aow hM ht hs hk hv ha
    cases b with
    | true =>
      simp only [Option.some.injEq] at hR
      exact .inr (.inr ⟨rfl, by rw [← hR]; exact k1 rfl⟩)
    | false =>
      have hce : E2.ce = E.ce := by
        have h6 := ce_aow (noteE E i t key) i key
        rw [ha] at h6
        exact h6.trans (ce_note ht)
      have hM2 : Mid0 E2 := by unfold Mid0; rw [hce]; exact hM
      obtain ⟨v, hv2, e⟩ : ∃ v, E2.txs[i]? = some v ∧ cor v = cor t := cs_of (by rw [hce]; exact cs_get ht)
      have hvs : v.state = 0 := by have := congrArg Cor.state e; exact this.trans hs
      have hvl : liveB v.state = true := live_iff.2 (.inl hvs)
      obtain ⟨E3, e1, _, e3, _⟩ := lose_ok (goes_str R (N + 1)) hM2 hv2 hvl (why := 13) (k2.lose hM2.com hv2 hvl)
      simp only at hR
      rw [e1] at hR
      simp only [Option.map_some, Option.some.injEq] at hR
      exact .inr (.inl ⟨rfl, by rw [← hR], by rw [← hR]; exact e3⟩)
theorem str_write (h : StrB noQ R N E) (hM : Mid0 E) (ht : E.txs[i]? = some t) (hs : t.state = 0) {val : Int} (hk : 0 ≤ key ∧ key < 10) (hv : -1099511627776 ≤ val ∧ val ≤ 1099511627776) {q : Int → Nat} (hq : Ranked E.T q) {Rr : (Bool × Int) × Eng} (hR : writeE 7 q E i key val = some Rr) : StrB noQ R N Rr.2 := by
  have hl : liveB t.state = true := live_iff.2 (.inl hs)
  have hop := fun c => hM.open_wr ht hl c
  have hC : ∀ T', Com 0 (fun _ => none) (wantE E i t key val T').ce := fun T' => by
    rw [want_ce]
    exact (hM.want (cs_get ht) hs hk hv).com.tab T'
  have hW : ∀ T', StrB noQ R N (wantE E i t key val T') := fun T' =>
    h.same (t' := { t with wk := key, wv := val }) (later_want ht hs key val T') hM.com (hC T') ht hl hop rfl rfl rfl rfl rfl rfl rfl rfl rfl hl
  obtain ⟨R', h1, h2, h3, _⟩ := write_ok (goes_str R N) hM ht hs hk hv hq
    (((hW E.T).weak i).lose (hC E.T) (want_get ht E.T) hl)
    (by
      have hL2 : Later (wantE E i t key val (updT E.T key (E.T key ++ [(i : Int) + 1]))).ce ((wantE E i t key val (updT E.T key (E.T key ++ [(i : Int) + 1]))).setTx i { t with wk := key, wv := val, state := 1 }).ce := by
        rw [ce_set]
        exact Later.set (t' := cor { t with wk := key, wv := val, state := 1 }) (cs_get (want_get (key := key) (val := val) ht _)) hl rfl rfl rfl rfl
      refine (hW (updT E.T key (E.T key ++ [(i : Int) + 1]))).same (t' := { t with wk := key, wv := val, state := 1 }) hL2 (hC _) ?_ (want_get ht _) hl hop rfl rfl rfl rfl rfl rfl rfl rfl rfl rfl
      rw [ce_set]
      exact (hC _).set (t' := cor { t with wk := key, wv := val, state := 1 }) (cs_get (want_get ht _)) hl (by show (1 : Int) ≠ 2; omega) rfl rfl _ (fun a c j hlv _ hva hc hvj hlt => (hC _).none_since (cs_get (want_get ht _)) hl a c j hlv hva hc hvj hlt))
    (fun T' E2 _ hp => ((hW T').put (hC T') (want_get ht T') hl hk hop hp).1 rfl)
    (fun T' why E2 hT' _ hp => by
      have hp2 := ((hW T').put (hC T') (want_get ht T') hl hk hop hp).2
      obtain ⟨h6, v, hv2, hvs⟩ := later_putOpen (want_get (key := key) (val := val) ht T') hs hp
      exact hp2.1.lose hp2.2 hv2 (live_iff.2 (.inl hvs)))
  rw [h1] at hR
  injection hR with hR
  subst hR
  exact h3
theorem str_commit (h : StrB noQ R N E) (hM : Mid0 E) (ht : E.txs[i]? = some t) (hs : t.state = 0) {Rr : Int × Eng} (hR : commitE 7 E i = some Rr) : StrB noQ R N Rr.2 := by
  have hl : liveB t.state = true := live_iff.2 (.inl hs)
  by_cases hb : Between t.ahead t.behind
  · obtain ⟨E', h1, _, h3, _⟩ := commit_bad (goes_str R N) hM ht hl hb ((h.weak i).lose hM.com ht hl)
    rw [h1] at hR
    injection hR with hR
    subst hR
    exact h3
  · obtain ⟨E', h1, _, h3, _⟩ := commit_ok (goes_str R N) hM ht hl hb (h.commit hM (fun h => h) ht hl hb)
    rw [h1] at hR
    injection hR with hR
    subst hR
    exact h3
theorem str_abort (h : StrB noQ R N E) (hM : Mid0 E) (ht : E.txs[i]? = some t) (hl : liveB t.state = true) (hR : endF 7 (loseE E i 0) i 3 = some E') : StrB noQ R N E' := by
  obtain ⟨E2, h1, _, h3, _⟩ := lose_ok (goes_str R N) hM ht hl (why := 0) ((h.weak i).lose hM.com ht hl)
  rw [h1] at hR
  injection hR with hR
  subst hR
  exact h3
theorem str_begin {R' : Nat → List Int} (h : StrB noQ R N E) (hM : Mid0 E) (hM' : Mid0 { E with txs := E.txs ++ [newTx 2 E.last] }) (hR : ∀ k, k < E.txs.length → R' k = R k) (hR2 : R' E.txs.length = []) : StrB noQ R' (N + 1) { E with txs := E.txs ++ [newTx 2 E.last] } := by
  have hL := later_begin E (newTx 2 E.last)
  have part : ∀ (k : Nat) (u : Tx), ({ E with txs := E.txs ++ [newTx 2 E.last] } : Eng).txs[k]? = some u → (E.txs[k]? = some u ∧ k < E.txs.length) ∨ (k = E.txs.length ∧ u = newTx 2 E.last) := fun k u hu => by
    have hu : (E.txs ++ [newTx 2 E.last])[k]? = some u := hu
    rcases Nat.lt_or_ge k E.txs.length with hi | hi
    · rw [List.getElem?_append_left hi] at hu; exact .inl ⟨hu, hi⟩
    · rw [List.getElem?_append_right hi] at hu
      have h0 : k - E.txs.length = 0 := by
        have := (List.getElem?_eq_some_iff.1 hu).1
        simp at this
        omega
      rw [h0] at hu
      simp at hu
      exact .inr ⟨by omega, hu.symm⟩
  refine ⟨?_, fun k u hu => ?_, fun k u hu => ?_, fun k m u v a _ _ hne hu hv hN => ?_, fun k u _ hu hs hb => ?_, fun k u hu hlv => ?_, fun k m u v c hu hv hwo hc => ?_, fun k u hu p hp => ?_, fun k u hu hs3 a ha => ?_⟩
  · have := h.cnt
    unfold cntR at this ⊢
    simp [newTx]
    omega
  · rcases part k u hu with ⟨h1, _⟩ | ⟨rfl, rfl⟩
    · exact h.lev k u h1
    · rfl
  · rcases part k u hu with ⟨h1, _⟩ | ⟨rfl, rfl⟩
    · exact h.sl k u h1
    · rfl
  · rcases part k u hu with ⟨h1, hk⟩ | ⟨rfl, rfl⟩
    · rcases part m v hv with ⟨h2, hm⟩ | ⟨rfl, rfl⟩
      · intro x y hx hy
        rw [hu] at hx
        rw [hv] at hy
        cases hx
        cases hy
        exact h.full k m u v a (fun h => h) (fun h => h) hne h1 h2 hN u v h1 h2
      · exact (hN.2.2.2.2.1 rfl).elim
    · have := hN.2.2.1
      exfalso
      have e : ∀ n : Nat, (List.replicate 10 false)[n]?.getD false = false := fun n => by
        cases hx : (List.replicate 10 false)[n]? with
        | none => rfl
        | some y => exact (List.eq_of_mem_replicate (List.mem_of_getElem? hx))
      rw [show (newTx 2 E.last).seen = List.replicate 10 false from rfl, e] at this
      cases this
  · rcases part k u hu with ⟨h1, _⟩ | ⟨rfl, rfl⟩
    · exact h.btw k u (fun h => h) h1 hs hb
    · cases hs
  · rcases part k u hu with ⟨h1, _⟩ | ⟨rfl, rfl⟩
    · exact h.bae k u h1 hlv
    · cases hlv
  · rcases part k u hu with ⟨h1, _⟩ | ⟨rfl, rfl⟩
    · rcases part m v hv with ⟨h2, _⟩ | ⟨rfl, rfl⟩
      · exact h.ovr k m u v c h1 h2 hwo hc
      · exact (hM.com.wr_le (C := E.ce) (c := c) hc).2
    · cases hwo
  · rcases part k u hu with ⟨h1, _⟩ | ⟨rfl, rfl⟩
    · obtain ⟨q1, q2, q3⟩ := h.rds k u h1 p hp
      exact ⟨q1, by rw [from_later hL hM.com hM'.com (show u.start ≤ E.ce.last from (hM.com.start k _ (cs_get h1)).2)]; exact q2, q3⟩
    · cases hp
  · rcases part k u hu with ⟨h1, hk⟩ | ⟨rfl, rfl⟩
    · rw [hR k hk] at ha
      exact h.tal k u h1 hs3 a ha
    · rw [hR2] at ha
      cases ha
end

def keysR (t : Tal) : Nat → List Int := fun i => (t.reads[i]?.getD []).map (·.1)
theorem str0 : StrB noQ (keysR tal00) 0 eng0 := ⟨Nat.le_refl _, fun k t h => (by cases h), fun k t h => (by cases h), fun k m t u a _ _ _ h => (by cases h), fun k t _ h => (by cases h), fun k t h => (by cases h), fun k m t u c h => (by cases h), fun k t h => (by cases h), fun k t h => (by cases h)⟩
theorem Does.str {E E' : Eng} {t t' : Tal} {N : Nat} (hd : Does 2 E t E' t') (h : Tells E t) (hn : t.n ≤ 1000000) (hs : StrB noQ (keysR t) N E) : StrB noQ (keysR t') (N + 1) E' := by
  have hnum := h.num
  cases hd with
  | same => exact hs.le (Nat.le_succ _)
  | begin level hl0 hl ho =>
    obtain rfl : level = 2 := hl0.2 (by omega)
    refine str_begin hs h.mid (h.mid.begin (.inr (.inr rfl)) hl (by rw [← live_len]; exact ho)) (fun k hk => ?_) ?_
    · show ((t.reads ++ [[]])[k]?.getD []).map _ = _
      rw [List.getElem?_append_left (by rw [h.lreads]; exact hk)]
      rfl
    · show ((t.reads ++ [[]])[E.txs.length]?.getD []).map _ = _
      rw [List.getElem?_append_right (by rw [h.lreads]; exact Nat.le_refl _), h.lreads]
      simp
  | sweep => exact ⟨Nat.le_succ_of_le hs.cnt, hs.lev, hs.sl, hs.full, hs.btw, hs.bae, hs.ovr, hs.rds, hs.tal⟩
  | shut => exact hs.le (Nat.le_succ _)
  | wshut => exact hs.le (Nat.le_succ _)
  | commit x u R hu hs0 hR => exact (str_commit hs h.mid hu hs0 hR).le (Nat.le_succ _)
  | abort x u E' hu hl hR => exact (str_abort hs h.mid hu hl hR).le (Nat.le_succ _)
  | read x u key R hu hs0 hk hR =>
    have hov : ownT (stepT t) x = u.vals := own_of h hu hs0
    have hxl : x < t.reads.length := by rw [h.lreads]; exact (List.getElem?_eq_some_iff.1 hu).1
    rcases str_read hs h.mid hu hs0 (key := key) (by omega) hR with ⟨v, hv, e⟩ | ⟨hv, e, h1⟩ | ⟨hv, h1⟩
    · have hk2 : keysR (endT R.2 (readT E (stepT t) x key R.1)) = keysR t := by
        unfold readT
        rw [hov, hv]
        split <;> rfl
      rw [hk2, e]
      exact hs.le (Nat.le_succ _)
    · have hk2 : keysR (endT R.2 (readT E (stepT t) x key R.1)) = keysR t := by
        unfold readT
        rw [if_pos (by rw [e]; decide)]
        rfl
      rw [hk2]
      exact h1
    · by_cases h13 : R.1.2 ≠ 0 ∧ R.1.2 ≠ 8
      · have hk2 : keysR (endT R.2 (readT E (stepT t) x key R.1)) = keysR t := by
          unfold readT
          rw [if_pos h13]
          rfl
        rw [hk2]
        exact ⟨h1.cnt, h1.lev, h1.sl, h1.full, h1.btw, h1.bae, h1.ovr, h1.rds, fun k y hy hy3 a ha => h1.tal k y hy hy3 a (by
          unfold extR
          split
          · rename_i e; subst e; exact List.mem_append_left _ ha
          · exact ha)⟩
      · have hk2 : keysR (endT R.2 (readT E (stepT t) x key R.1)) = extR (keysR t) x key := by
          unfold readT
          rw [if_neg h13, hov, hv]
          funext k
          unfold extR
          show ((t.reads.set x ((t.reads[x]?.getD []) ++ [(key, readV R.1)]))[k]?.getD []).map _ = _
          by_cases e : k = x
          · subst e
            rw [if_pos rfl, List.getElem?_set_self hxl]
            simp [keysR]
          · rw [if_neg e, List.getElem?_set_ne (fun h => e h.symm)]
            rfl
        rw [hk2]
        exact h1
  | write x u key q R hu hs0 hk hq hR =>
    have hk2 : keysR (endT R.2 (writeT (nextT (stepT t)) x key R.1 (openB R.2 x))) = keysR t := by
      unfold writeT
      split <;> rfl
    rw [hk2]
    exact (str_write hs h.mid hu hs0 (key := key) (val := t.n + 1) (by omega) (by omega) hq hR).le (Nat.le_succ _)

end Go.Proofs.YtjefgmeejhakbaaGreatDoor

/- Plain: the history of an engine of strict ones: whoever must be ahead of another one is so by a rank. -/
namespace Go.Proofs.YtjefgmeejhakbaaGreatDoor

theorem fold_reads (key n : Int) : ∀ (r : List (Int × Int)) (w : List Int), (readOps n r).foldl (wStep key) w = w
  | [], _ => rfl
  | p :: r, w => by
    have := fold_reads key n r w
    unfold readOps at this ⊢
    simp only [List.map_cons, List.foldl_cons]
    rw [show wStep key w (n, p.1, false, p.2) = w from by simp [wStep]]
    exact this
theorem fold_other (key n : Int) (V : Int → Option Int) : ∀ (ks : List Int) (w : List Int), key ∉ ks → ((ks.map (fun k => (k, (V k).getD 0))).map (fun p => (n, p.1, true, (0 : Int)))).foldl (wStep key) w = w
  | [], _, _ => rfl
  | a :: r, w, h => by
    have h1 : key ≠ a ∧ key ∉ r := ⟨fun e => h (by rw [e]; exact List.mem_cons_self ..), fun hm => h (List.mem_cons_of_mem _ hm)⟩
    simp only [List.map_cons, List.foldl_cons]
    rw [show wStep key w (n, a, true, 0) = w from by
      have h2 : a ≠ key := fun e => h1.1 e.symm
      simp [wStep, h2]]
    exact fold_other key n V r w h1.2
theorem fold_writes (key n : Int) (V : Int → Option Int) : ∀ (ks : List Int) (w : List Int), ks.Nodup → n ∉ w → ((ks.map (fun k => (k, (V k).getD 0))).map (fun p => (n, p.1, true, (0 : Int)))).foldl (wStep key) w = if key ∈ ks then w ++ [n] else w
  | [], w, _, _ => by simp
  | a :: r, w, hn, hw => by
    have hn' := List.nodup_cons.1 hn
    by_cases e : a = key
    · subst e
      rw [if_pos (List.mem_cons_self ..)]
      simp only [List.map_cons, List.foldl_cons]
      have h1 : w.getLast? ≠ some n := fun h => hw (List.mem_of_getLast? h)
      rw [show wStep a w (n, a, true, 0) = w ++ [n] from by simp [wStep, h1]]
      exact fold_other a n V r _ hn'.1
    · simp only [List.map_cons, List.foldl_cons]
      rw [show wStep key w (n, a, true, 0) = w from by simp [wStep, e], fold_writes key n V r w hn'.2 hw]
      have : key ∈ a :: r ↔ key ∈ r := by
        rw [List.mem_cons]
        exact ⟨fun h => h.resolve_left (fun h => e h.symm), .inr⟩
      simp only [this]
def wl (E : Eng) (key : Int) : List Nat := E.com.filter (fun i => (E.ce.v i key).isSome)
def wrs (E : Eng) (key : Int) : List Int := (wl E key).map (fun (i : Nat) => (i : Int) + 1)
section
variable {E : Eng} {Q : Nat → Prop} {key : Int}
theorem writers_to (h : Mid 0 (fun _ => none) E.ce Q) (key : Int) : ∀ j : Nat, j ≤ E.com.length → writersP (histTo E j) key = ((E.com.take j).filter (fun i => (E.ce.v i key).isSome)).map (fun (i : Nat) => (i : Int) + 1)
  | 0, _ => by simp [histTo, writersP]
  | j + 1, hj => by
    have hi : E.com[j]? = some E.com[j] := List.getElem?_eq_getElem (by omega)
    obtain ⟨c, hc, _⟩ := (h.com.coms E.com[j]).1 (show E.com[j] ∈ E.com from List.getElem_mem _)
    obtain ⟨t, ht, rfl⟩ := cs_of hc
    have hvk := (h.reg.fair _ _ hc).vk
    have ih := writers_to h key j (by omega)
    unfold writersP at ih ⊢
    rw [histTo_step hi ht, List.foldl_append, ih, histOf, List.foldl_append, fold_reads, List.take_add_one, hi]
    simp only [Option.toList_some]
    rw [List.filter_append, List.map_append]
    unfold writesP
    have hno : ((E.com[j] : Int) + 1) ∉ ((E.com.take j).filter (fun i => (E.ce.v i key).isSome)).map (fun (i : Nat) => (i : Int) + 1) := fun hm => by
      obtain ⟨x, hx, e⟩ := List.mem_map.1 hm
      have e : x = E.com[j] := by omega
      have hx := (List.mem_filter.1 hx).1
      rw [e] at hx
      obtain ⟨y, hy, e2⟩ := List.mem_take_iff_getElem.1 hx
      have hn : E.com.Nodup := h.com.comn
      have := (List.getElem_inj hn).1 e2
      omega
    rw [fold_writes key _ t.vals _ _ (keysOf_nodup _) hno, List.filter_cons, CE.v_some hc]
    have hm := mem_keysOf (f := t.vals) hvk key
    show _ = _ ++ List.map _ (if (t.vals key).isSome = true then _ else _)
    by_cases hs : (t.vals key).isSome = true
    · rw [if_pos (hm.2 hs), if_pos hs]
      simp
    · rw [if_neg (fun hc => hs (hm.1 hc)), if_neg hs]
      simp
theorem writers_hist (h : Mid 0 (fun _ => none) E.ce Q) (key : Int) : writersP (histP E) key = wrs E key := by
  unfold histP wrs wl
  rw [writers_to h key _ (Nat.le_refl _), List.take_length]
theorem mem_hist {o : Int × Int × Bool × Int} (h : Mid 0 (fun _ => none) E.ce Q) (ho : o ∈ histP E) : ∃ (i : Nat) (t : Tx), E.txs[i]? = some t ∧ t.state = 2 ∧ i ∈ E.com ∧ ((∃ p ∈ t.reads, o = ((i : Int) + 1, p.1, false, p.2)) ∨ ∃ k, t.vals k ≠ none ∧ o = ((i : Int) + 1, k, true, 0)) := by
  unfold histP histTo at ho
  rw [List.take_length] at ho
  obtain ⟨i, hi, ho⟩ := List.mem_flatMap.1 ho
  obtain ⟨c, hc, hs⟩ := (h.com.coms i).1 hi
  obtain ⟨t, ht, rfl⟩ := cs_of hc
  rw [ht] at ho
  refine ⟨i, t, ht, hs, hi, ?_⟩
  rcases List.mem_append.1 ho with ho | ho
  · unfold readOps at ho
    obtain ⟨p, hp, e⟩ := List.mem_map.1 ho
    exact .inl ⟨p, hp, e.symm⟩
  · obtain ⟨p, hp, e⟩ := List.mem_map.1 ho
    unfold writesP at hp
    obtain ⟨k, hk, e2⟩ := List.mem_map.1 hp
    refine .inr ⟨k, fun hv => ?_, by rw [← e, ← e2]⟩
    have := (mem_keysOf (f := t.vals) (h.reg.fair _ _ hc).vk k).1 hk
    rw [hv] at this
    cases this
theorem hist_write (h : Mid 0 (fun _ => none) E.ce Q) {i : Nat} {t : Tx} (ht : E.txs[i]? = some t) (hs : t.state = 2) {k : Int} (hv : t.vals k ≠ none) : ((i : Int) + 1, k, true, 0) ∈ histP E := by
  unfold histP histTo
  rw [List.take_length]
  refine List.mem_flatMap.2 ⟨i, (h.com.coms i).2 ⟨_, cs_get ht, hs⟩, ?_⟩
  rw [ht]
  refine List.mem_append_right _ (List.mem_map.2 ⟨(k, (t.vals k).getD 0), ?_, rfl⟩)
  unfold writesP
  exact List.mem_map.2 ⟨k, (mem_keysOf (f := t.vals) (h.reg.fair _ _ (cs_get ht)).vk k).2 (by cases hx : t.vals k with | none => exact absurd hx hv | some y => rfl), rfl⟩
theorem hist_read (h : Mid 0 (fun _ => none) E.ce Q) {i : Nat} {t : Tx} (ht : E.txs[i]? = some t) (hs : t.state = 2) {p : Int × Int} (hp : p ∈ t.reads) : ((i : Int) + 1, p.1, false, p.2) ∈ histP E := by
  unfold histP histTo
  rw [List.take_length]
  refine List.mem_flatMap.2 ⟨i, (h.com.coms i).2 ⟨_, cs_get ht, hs⟩, ?_⟩
  rw [ht]
  unfold histOf readOps
  exact List.mem_append_left _ (List.mem_map.2 ⟨p, hp, rfl⟩)

open Classical in
noncomputable def cAt (E : Eng) (i : Nat) : Int := if h : ∃ c, E.wr c = some ((i : Int) + 1) then Classical.choose h else 0
theorem cAt_of (h : Mid 0 (fun _ => none) E.ce Q) {i : Nat} {c : Int} (hc : E.wr c = some ((i : Int) + 1)) : cAt E i = c := by
  have hx : ∃ c, E.wr c = some ((i : Int) + 1) := ⟨c, hc⟩
  unfold cAt
  rw [dif_pos hx]
  exact h.com.wr_inj (C := E.ce) (Classical.choose_spec hx) hc
theorem wl_iff (h : Mid 0 (fun _ => none) E.ce Q) {i : Nat} : i ∈ wl E key ↔ ∃ t, E.txs[i]? = some t ∧ t.state = 2 ∧ t.vals key ≠ none := by
  unfold wl
  rw [List.mem_filter]
  constructor
  · rintro ⟨h1, h2⟩
    obtain ⟨c, hc, hs⟩ := (h.com.coms i).1 h1
    obtain ⟨t, ht, rfl⟩ := cs_of hc
    rw [CE.v_some hc] at h2
    exact ⟨t, ht, hs, fun e => by rw [show (cor t).vals key = _ from e] at h2; cases h2⟩
  · rintro ⟨t, ht, hs, hv⟩
    refine ⟨(h.com.coms i).2 ⟨_, cs_get ht, hs⟩, ?_⟩
    rw [CE.v_some (cs_get ht)]
    show (t.vals key).isSome = true
    cases hx : t.vals key with
    | none => exact absurd hx hv
    | some y => rfl
theorem wl_cw (h : Mid 0 (fun _ => none) E.ce Q) {i : Nat} (hi : i ∈ wl E key) : i ∈ E.ce.cw := by
  obtain ⟨t, ht, hs, hv⟩ := (wl_iff h).1 hi
  refine List.mem_filter.2 ⟨(h.com.coms i).2 ⟨_, cs_get ht, hs⟩, decide_eq_true ?_⟩
  have hvk := (h.reg.fair i _ (cs_get ht)).vk
  rw [← CE.v_some (cs_get ht)] at hvk
  refine wrote_of hvk (a := key) ?_
  rw [CE.v_some (cs_get ht)]
  exact hv
theorem wl_wr (h : Mid 0 (fun _ => none) E.ce Q) {i : Nat} (hi : i ∈ wl E key) : E.wr (cAt E i) = some ((i : Int) + 1) := by
  obtain ⟨c, hc⟩ := h.com.wr_of (wl_cw h hi)
  have hc' : E.wr c = some ((i : Int) + 1) := hc
  rw [cAt_of h hc']
  exact hc'
theorem wl_sorted (h : Mid 0 (fun _ => none) E.ce Q) (key : Int) : (wl E key).Pairwise (fun i j => cAt E i < cAt E j) := by
  have h1 : E.ce.cw.Pairwise (fun i j => cAt E i < cAt E j) := by
    refine List.pairwise_iff_getElem.2 (fun a b ha hb hab => ?_)
    have key : ∀ (a : Nat) (ha : a < E.ce.cw.length), cAt E E.ce.cw[a] = (a : Int) + 1 := fun a ha => by
      refine cAt_of h ?_
      have := h.com.wrc ((a : Int) + 1)
      rw [if_pos (by omega), show ((a : Int) + 1 - 0 - 1).toNat = a by omega, List.getElem?_eq_getElem ha] at this
      exact this
    rw [key a ha, key b hb]
    omega
  have h2 : wl E key = E.ce.cw.filter (fun i => (E.ce.v i key).isSome) := by
    unfold wl CE.cw
    rw [List.filter_filter]
    refine List.filter_congr (fun i hi => ?_)
    cases hv : (E.ce.v i key).isSome with
    | false => simp
    | true =>
      have : i ∈ E.ce.cw := wl_cw (key := key) h (List.mem_filter.2 ⟨hi, hv⟩)
      have := (List.mem_filter.1 this).2
      rw [this]
      rfl
  rw [h2]
  exact h1.filter _

theorem full_sorted (C : CE) (a : Int) : (full0 C a).Pairwise (fun p q => p.1 < q.1) := by
  unfold full0 full
  simp only [List.nil_append]
  exact fullFrom_sorted _ _ _ _
theorem from_cases (h : Mid 0 (fun _ => none) E.ce Q) (key s : Int) : (rdP s (full0 E.ce key) = none ∧ fromP E.ce key s = 0 ∧ ∀ j ∈ wl E key, s < cAt E j) ∨ ∃ (m : Nat) (x : Int), rdP s (full0 E.ce key) = some (cAt E m, x) ∧ E.ce.v m key = some x ∧ fromP E.ce key s = (m : Int) + 1 ∧ m ∈ wl E key ∧ cAt E m ≤ s ∧ ∀ j ∈ wl E key, cAt E m < cAt E j → s < cAt E j := by
  have hin : ∀ j ∈ wl E key, ∃ x, (cAt E j, x) ∈ full0 E.ce key := fun j hj => by
    obtain ⟨t, ht, hs, hv⟩ := (wl_iff h).1 hj
    obtain ⟨y, hy⟩ : ∃ y, t.vals key = some y := by cases hx : t.vals key with | none => exact absurd hx hv | some y => exact ⟨y, rfl⟩
    exact ⟨y, h.com.full_of (C := E.ce) (wl_wr h hj) (by rw [CE.v_some (cs_get ht)]; exact hy)⟩
  cases hr : rdP s (full0 E.ce key) with
  | none =>
    refine .inl ⟨rfl, by unfold fromP; rw [hr], fun j hj => ?_⟩
    obtain ⟨x, hx⟩ := hin j hj
    refine Classical.byContradiction fun hn => ?_
    rw [rdP_last, List.getLast?_eq_none_iff, List.filter_eq_nil_iff] at hr
    exact hr _ hx (decide_eq_true (by simp only; omega))
  | some p =>
    obtain ⟨hp, hps⟩ := rdP_le hr
    have hp' : p ∈ fullFrom E.ce.v key (0 + 1) E.ce.cw := by
      unfold full0 full at hp
      simpa using hp
    obtain ⟨j, m, h1, h2, h3⟩ := (fullFrom_mem _ _ _ _ p.1 p.2).1 hp'
    have hc : E.wr p.1 = some ((m : Int) + 1) := by
      have := h.com.wrc p.1
      rw [if_pos (by omega), show (p.1 - 0 - 1).toNat = j by omega, h1] at this
      exact this
    have hcm := cAt_of h hc
    have hml : m ∈ wl E key := List.mem_filter.2 ⟨(List.mem_filter.1 (List.mem_of_getElem? h1)).1, by rw [h3]; rfl⟩
    refine .inr ⟨m, p.2, by rw [hcm], h3, by unfold fromP; rw [hr]; simp only; rw [show E.ce.wr p.1 = _ from hc]; rfl, hml, by rw [hcm]; exact hps, fun j hj hlt => ?_⟩
    obtain ⟨x, hx⟩ := hin j hj
    refine Classical.byContradiction fun hn => ?_
    rw [rdP_last] at hr
    have hsf := (full_sorted E.ce key).filter (fun p => decide (p.1 ≤ s))
    have hmf : (cAt E j, x) ∈ (full0 E.ce key).filter (fun p => decide (p.1 ≤ s)) := List.mem_filter.2 ⟨hx, decide_eq_true (by simp only; omega)⟩
    obtain ⟨l, e⟩ : ∃ l, (full0 E.ce key).filter (fun p => decide (p.1 ≤ s)) = l ++ [p] := List.getLast?_eq_some_iff.1 hr
    rw [e] at hsf hmf
    rcases List.mem_append.1 hmf with h5 | h5
    · have := (List.pairwise_append.1 hsf).2.2 _ h5 p (List.mem_singleton.2 rfl)
      simp only at this
      omega
    · have := congrArg Prod.fst (List.mem_singleton.1 h5)
      simp only at this
      omega
end

open Classical in
noncomputable def rk (E : Eng) (i : Nat) : Int := match E.txs[i]? with
  | some t => (if (∃ c, E.wr c = some ((i : Int) + 1)) ∧ (∀ a, t.behind a = false) then 2 * cAt E i else 2 * t.start + 1) * 1000 + (i : Int)
  | none => 0
section
variable {E : Eng} {T : Tal} {R : Nat → List Int} {N i j : Nat} {t u : Tx} {key c a b : Int}
theorem rk_le (h : Tells E T) (ht : E.txs[i]? = some t) (hc : E.wr c = some ((i : Int) + 1)) : rk E i ≤ 2 * c * 1000 + i := by
  have h1 := h.late c i t hc ht
  have h2 := cAt_of h.mid hc
  unfold rk
  rw [ht]
  simp only
  split
  · rw [h2]; exact Int.le_refl _
  · omega
theorem rk_ge (h : Tells E T) (ht : E.txs[i]? = some t) : (2 * t.start + 1) * 1000 + i ≤ rk E i := by
  unfold rk
  rw [ht]
  simp only
  split
  · rename_i hx
    obtain ⟨⟨c, hc⟩, _⟩ := hx
    rw [cAt_of h.mid hc]
    have h1 := h.late c i t hc ht
    omega
  · exact Int.le_refl _
theorem rk_beh (ht : E.txs[i]? = some t) (hb : t.behind a = true) : rk E i = (2 * t.start + 1) * 1000 + i := by
  unfold rk
  rw [ht]
  simp only
  rw [if_neg (fun hx => by rw [hx.2 a] at hb; cases hb)]
theorem rk_free (h : Tells E T) (ht : E.txs[i]? = some t) (hc : E.wr c = some ((i : Int) + 1)) (hb : ∀ a, t.behind a = false) : rk E i = 2 * c * 1000 + i := by
  unfold rk
  rw [ht]
  simp only
  rw [if_pos ⟨⟨c, hc⟩, hb⟩, cAt_of h.mid hc]
theorem rk_none (ht : E.txs[i]? = some t) (hc : ∀ c, E.wr c ≠ some ((i : Int) + 1)) : rk E i = (2 * t.start + 1) * 1000 + i := by
  unfold rk
  rw [ht]
  simp only
  rw [if_neg (fun hx => by obtain ⟨c, h⟩ := hx.1; exact hc c h)]
theorem tx_lt (h : Tells E T) (ht : E.txs[i]? = some t) : i < 200 := by
  have h1 := h.mid.reg.len
  have h2 := (List.getElem?_eq_some_iff.1 ht).1
  simp only [Eng.ce, List.length_map] at h1
  omega
theorem rw_rises (h : Tells E T) (hS : StrB noQ R N E) (hij : i ≠ j) (ht : E.txs[i]? = some t) (hs : t.state = 2) (hk : 0 ≤ key) (hse : t.seen[key.toNat]?.getD false = true) (hj : j ∈ wl E key) (hlt : t.start < cAt E j) : rk E i < rk E j := by
  obtain ⟨u, hu, hsu, hv⟩ := (wl_iff h.mid).1 hj
  have hcj := wl_wr h.mid hj
  have hi2 := tx_lt h ht
  have hj2 := tx_lt h hu
  have hgj := rk_ge h hu
  cases hwo : wasOverB t ((j : Int) + 1) with
  | true =>
    have hbe : (i : Int) < t.bae := hS.bae i t ht (by rw [hs]; rfl)
    have hlt2 : t.bae < (j : Int) + 1 := by
      unfold wasOverB at hwo
      simp only [Bool.and_eq_true, decide_eq_true_eq] at hwo
      exact hwo.2
    have hm := h.mono j i u t (by omega) ht hu
    by_cases hw : ∃ c, E.wr c = some ((i : Int) + 1)
    · obtain ⟨c, hc⟩ := hw
      have h1 := rk_le h ht hc
      have h2 := hS.ovr i j t u c ht hu hwo hc
      omega
    · rw [rk_none ht (fun c hc => hw ⟨c, hc⟩)]
      omega
  | false =>
    obtain ⟨m1, m2⟩ := hS.full i j t u key (fun h => h) (fun h => h) hij ht hu ⟨by omega, by omega, hse, hk, hv, fun c hc => by rw [← cAt_of h.mid hc]; exact hlt, hwo⟩ t u ht hu
    have hb : ∀ a, u.behind a = false := fun a => by
      cases hx : u.behind a with
      | false => rfl
      | true => exact (hS.bt j u hu hsu ⟨⟨_, m2⟩, a, hx⟩).elim
    rw [rk_beh ht m1, rk_free h hu hcj hb]
    omega
theorem ww_rises (h : Tells E T) (hS : StrB noQ R N E) (hi : i ∈ wl E key) (hj : j ∈ wl E key) (hlt : cAt E i < cAt E j) : rk E i < rk E j := by
  obtain ⟨t, ht, hs, hv⟩ := (wl_iff h.mid).1 hi
  obtain ⟨u, hu, hsu, hvu⟩ := (wl_iff h.mid).1 hj
  have hci := wl_wr h.mid hi
  have hcj := wl_wr h.mid hj
  have h1 := rk_le h ht hci
  have h2 := rk_ge h hu
  have hst : cAt E i ≤ u.start := Classical.byContradiction fun hn => by
    obtain ⟨c', hc', hlt'⟩ := h.mid.com.fuw j i _ key (cAt E i) (cs_get hu) (by rw [show (cor u).level = 2 from hS.lev j u hu]; decide) (show u.state ≠ 3 by omega) hvu hci (fun e => by subst e; omega) (by rw [CE.v_some (cs_get ht)]; exact hv) (show u.start < cAt E i by omega)
    have := cAt_of h.mid hc'
    omega
  have hi2 := tx_lt h ht
  omega
theorem con_get : ∀ (w : List Int) (a b : Int), (a, b) ∈ conP w → ∃ x : Nat, w[x]? = some a ∧ w[x + 1]? = some b
  | [], a, b, h => by cases h
  | [y], a, b, h => by cases h
  | y :: z :: r, a, b, h => by
    simp only [conP, List.mem_cons, Prod.mk.injEq] at h
    rcases h with ⟨rfl, rfl⟩ | h
    · exact ⟨0, rfl, rfl⟩
    · obtain ⟨x, h1, h2⟩ := con_get (z :: r) a b h
      exact ⟨x + 1, by simpa using h1, by simpa using h2⟩
theorem wrs_get (_h : Tells E T) {x : Nat} (hx : (wrs E key)[x]? = some a) : ∃ i : Nat, a = (i : Int) + 1 ∧ (wl E key)[x]? = some i ∧ i ∈ wl E key := by
  unfold wrs at hx
  rw [List.getElem?_map] at hx
  obtain ⟨i, hi, e⟩ := Option.map_eq_some_iff.1 hx
  exact ⟨i, e.symm, hi, List.mem_of_getElem? hi⟩
theorem wl_lt (h : Tells E T) {x y : Nat} (hxy : x < y) (hi : (wl E key)[x]? = some i) (hj : (wl E key)[y]? = some j) : cAt E i < cAt E j := by
  obtain ⟨h1, e1⟩ := List.getElem?_eq_some_iff.1 hi
  obtain ⟨h2, e2⟩ := List.getElem?_eq_some_iff.1 hj
  have := List.pairwise_iff_getElem.1 (wl_sorted h.mid key) x y h1 h2 hxy
  rwa [e1, e2] at this
theorem con_rises (h : Tells E T) (hS : StrB noQ R N E) (hab : (a, b) ∈ conP (wrs E key)) : ∃ i j : Nat, a = (i : Int) + 1 ∧ b = (j : Int) + 1 ∧ rk E i < rk E j := by
  obtain ⟨x, hx, hy⟩ := con_get _ _ _ hab
  obtain ⟨i, rfl, hi, hi2⟩ := wrs_get h hx
  obtain ⟨j, rfl, hj, hj2⟩ := wrs_get h hy
  exact ⟨i, j, rfl, rfl, ww_rises h hS hi2 hj2 (wl_lt h (Nat.lt_succ_self _) hi hj)⟩
theorem read_two (h : Tells E T) (hS : StrB noQ R N E) (ht : E.txs[i]? = some t) (hs : t.state = 2) {p : Int × Int} (hp : p ∈ t.reads) : ∃ l, readP (wrs E p.1) ((i : Int) + 1, p.1, false, p.2) = some l ∧ (∀ a b, (a, b) ∈ l → a ≠ b → ∃ i j : Nat, a = (i : Int) + 1 ∧ b = (j : Int) + 1 ∧ rk E i < rk E j) ∧
    ((rdP t.start (full0 E.ce p.1) = none ∧ ∀ y, (wrs E p.1)[0]? = some y → ((i : Int) + 1, y) ∈ l) ∨ ∃ (m : Nat) (x : Int) (d : Nat), rdP t.start (full0 E.ce p.1) = some (cAt E m, x) ∧ E.ce.v m p.1 = some x ∧ m ≠ i ∧ ((m : Int) + 1, (i : Int) + 1) ∈ l ∧ (wrs E p.1)[d]? = some ((m : Int) + 1) ∧ ∀ y, (wrs E p.1)[d + 1]? = some y → ((i : Int) + 1, y) ∈ l) := by
  obtain ⟨hk, hf, hse⟩ := hS.rds i t ht p hp
  have next : ∀ (j : Nat) , j ∈ wl E p.1 → t.start < cAt E j → (i : Int) + 1 ≠ (j : Int) + 1 → rk E i < rk E j := fun j hj hlt hne => rw_rises h hS (fun e => hne (by rw [e])) ht hs hk.1 hse hj hlt
  rcases from_cases h.mid p.1 t.start with ⟨hr, h0, hall⟩ | ⟨m, x, hr, hv, hfm, hml, hms, hall⟩
  · refine ⟨((wrs E p.1)[0]?).toList.map (fun x => ((i : Int) + 1, x)), ?_, fun a b hab hne => ?_, .inl ⟨hr, fun y hy => ?_⟩⟩
    · unfold readP
      rw [if_pos (hf.trans h0)]
    · obtain ⟨y, hy, e⟩ := List.mem_map.1 hab
      injection e with e1 e2
      subst e1 e2
      obtain ⟨j, rfl, hj, hj2⟩ := wrs_get h (Option.mem_toList.1 hy)
      exact ⟨i, j, rfl, rfl, next j hj2 (hall j hj2) hne⟩
    · rw [hy]
      simp
  · have hmi : m ≠ i := fun e => by
      subst e
      have h1 := h.late _ m t (wl_wr h.mid hml) ht
      omega
    have hfne : p.2 ≠ 0 := by rw [hf, hfm]; omega
    obtain ⟨d, hd, ed⟩ := List.getElem_of_mem hml
    have hdw : (wrs E p.1)[d]? = some ((m : Int) + 1) := by
      unfold wrs
      rw [List.getElem?_map, List.getElem?_eq_getElem hd, ed]
      rfl
    have hfa : firstAt p.2 (wrs E p.1) = some d := by
      refine firstAt_of (by rw [hf, hfm]; exact hdw) (fun j hj hx => ?_)
      obtain ⟨m2, e, h2, _⟩ := wrs_get h hx
      have e : m2 = m := by rw [hf, hfm] at e; omega
      subst e
      have := wl_lt h hj h2 (by rw [List.getElem?_eq_getElem hd, ed])
      omega
    refine ⟨(p.2, (i : Int) + 1) :: ((wrs E p.1)[d + 1]?).toList.map (fun x => ((i : Int) + 1, x)), ?_, fun a b hab hne => ?_, .inr ⟨m, x, d, hr, hv, hmi, ?_, hdw, fun y hy => ?_⟩⟩
    · unfold readP
      rw [if_neg hfne, hfa]
      rfl
    · rcases List.mem_cons.1 hab with e | hab
      · injection e with e1 e2
        subst e1 e2
        refine ⟨m, i, hf.trans hfm, rfl, ?_⟩
        obtain ⟨um, hum, _⟩ := (wl_iff h.mid).1 hml
        have h1 := rk_le h hum (wl_wr h.mid hml)
        have h2 := rk_ge h ht
        have h3 := tx_lt h hum
        omega
      · obtain ⟨y, hy, e⟩ := List.mem_map.1 hab
        injection e with e1 e2
        subst e1 e2
        obtain ⟨j, rfl, hj, hj2⟩ := wrs_get h (Option.mem_toList.1 hy)
        exact ⟨i, j, rfl, rfl, next j hj2 (hall j hj2 (wl_lt h (Nat.lt_succ_self _) (by rw [List.getElem?_eq_getElem hd, ed]) hj)) hne⟩
    · rw [hf, hfm]
      exact List.mem_cons_self ..
    · rw [hy]
      simp
theorem two_rises (h : Tells E T) (hS : StrB noQ R N E) (hne : a ≠ b) (hab : Two (histP E) a b) : ∃ i j : Nat, a = (i : Int) + 1 ∧ b = (j : Int) + 1 ∧ rk E i < rk E j := by
  rcases hab with ⟨o, _, hab⟩ | ⟨o, ho, hr, p, hp, hab⟩
  · rw [writers_hist h.mid] at hab
    exact con_rises h hS hab
  · obtain ⟨i, t, ht, hs, _, ⟨q, hq, rfl⟩ | ⟨k, _, rfl⟩⟩ := mem_hist h.mid ho
    · rw [writers_hist h.mid] at hp
      obtain ⟨l, h1, h2, _⟩ := read_two h hS ht hs hq
      rw [show readP (wrs E ((i : Int) + 1, q.1, false, q.2).2.1) ((i : Int) + 1, q.1, false, q.2) = some l from h1] at hp
      cases hp
      exact h2 a b hab hne
    · cases hr
theorem line_there (h : Tells E T) (hS : StrB noQ R N E) {d : List (Int × Int)} (hd : IsEdges (histP E) d) : ∃ out, lineP d (txsP (histP E)).length (txsP (histP E)) = some out := by
  cases hl : lineP d (txsP (histP E)).length (txsP (histP E)) with
  | some out => exact ⟨out, rfl⟩
  | none =>
    exfalso
    obtain ⟨m, h1, h2, h3⟩ := line_stuck d _ _ (Nat.le_refl _) hl
    refine no_line h1 h2 h3 (fun x => (rk E (x - 1).toNat).toNat) (fun a b hab => ?_)
    obtain ⟨hne, htwo⟩ := (hd.2 a b).1 hab
    obtain ⟨i, j, rfl, rfl, hlt⟩ := two_rises h hS hne htwo
    rw [show ((i : Int) + 1 - 1).toNat = i by omega, show ((j : Int) + 1 - 1).toNat = j by omega]
    have h0 : 0 ≤ rk E i := by
      cases hi : E.txs[i]? with
      | none => unfold rk; rw [hi]; exact Int.le_refl _
      | some t =>
        have h5 := rk_ge h hi
        have h6 : (0 : Int) ≤ t.start := (h.mid.com.start i _ (cs_get hi)).1
        omega
    omega
theorem hist_fine (h : Tells E T) (hS : StrB noQ R N E) : ∀ o ∈ histP E, opBad o = false ∧ badRead (histP E) o = false := fun o ho => by
  obtain ⟨i, t, ht, hs, _, ⟨q, hq, rfl⟩ | ⟨k, hk, rfl⟩⟩ := mem_hist h.mid ho
  · obtain ⟨l, h1, _⟩ := read_two h hS ht hs hq
    obtain ⟨hk, hf, _⟩ := hS.rds i t ht q hq
    have h0 : 0 ≤ q.2 := by
      rcases from_cases h.mid q.1 t.start with ⟨_, h0, _⟩ | ⟨m, _, _, _, h0, _⟩ <;> rw [hf, h0] <;> omega
    refine ⟨?_, ?_⟩
    · unfold opBad
      exact decide_eq_false (by simp only; omega)
    · unfold badRead
      rw [writers_hist h.mid, show readP (wrs E ((i : Int) + 1, q.1, false, q.2).2.1) ((i : Int) + 1, q.1, false, q.2) = some l from h1]
      rfl
  · have hvk := (h.mid.reg.fair i _ (cs_get ht)).vk k hk
    refine ⟨?_, rfl⟩
    unfold opBad
    exact decide_eq_false (by simp only; omega)
end

end Go.Proofs.YtjefgmeejhakbaaGreatDoor

/- order.Line: the walk. -/
namespace Go.Proofs.YtjefgmeejhakbaaGreatDoor
open Go.RowKit

def lenV : Value → Nat
  | .slice _ n _ => n
  | _ => 0
theorem mem_get {d : Array Int} {y : Int} (h : y ∈ d.toList) : ∃ k, k < d.size ∧ d[k]! = y := by
  obtain ⟨k, hk, e⟩ := List.getElem_of_mem h
  have hk' : k < d.size := by simpa using hk
  refine ⟨k, hk', ?_⟩
  rw [getElem!_pos d k hk', ← e]
  simp

set_option maxRecDepth 100000 in
set_option maxHeartbeats 2000000 in
theorem lineL_ok (ad : Option Addr) (cap : Nat) (l : List Opp) (w : World) (hn : l.length ≤ 1000) (hO : OpsAt w ad l) (hf : FineTo opBad l l.length) (hm : FineTo (badRead l) l l.length) :
    Calls Tryz.prog 13 #[.slice ad l.length cap] w fun e w' => ∃ E, IsEdges l E ∧ Below w.heap.size w w' ∧
      ((∃ v out, e = .returned (.tuple #[v, .nilIface]) ∧ lineP E (txsP l).length (txsP l) = some out ∧ w'.ownsRow w.heap.size 3 1 v out.length (intsV out)) ∨ (e = .returned (.tuple #[.slice none 0 0, .iface 24 (.int .i64 11)]) ∧ lineP E (txsP l).length (txsP l) = none)) := by
  obtain ⟨i0, hi0, hz0, hz1, hz2⟩ := info_parts info3
  have h64 : ∀ y ∈ l.map (fun o => o.1), I64 y := fun y hy => by
    obtain ⟨o, ho, rfl⟩ := List.mem_map.1 hy
    obtain ⟨j, hj, e⟩ := List.getElem_of_mem ho
    obtain ⟨_, _, _, _, _, h, _⟩ := hO j o (by rw [List.getElem?_eq_getElem hj, e])
    exact h
  have HC := hid (edges_ok ad cap l w hn hO hf hm)
  have HO := hid hO
  have H64 := hid h64
  have hmt : ∀ y, y ∈ txsP l ↔ y ∈ l.map (fun o => o.1) := fun y => by unfold txsP; exact mem_once _
  have HMT := hid hmt
  have htl := txs_length l
  clear hO hf hm h64 hmt
  go_enter Tryz.func13, Tryz.ntmps13
  go_wp2_with fail
  refine HC.out.mono ?_
  rintro e w1 ⟨tv, E, rfl, hE, hEl, hT, hB1⟩
  have hnn : ∀ w, (binOp .neq 33 .nilIface .nilIface).run Tryz.prog w = .ok (.bool false) w := fun _ => by kernel_rfl
  have HE := hid hE
  have HT := hid hT
  have HB1 := hid hB1
  have hB1s := hB1.size
  have HC2 := hid (aheadOf_any ad cap w.heap.size l tv E w1 hn (by omega) (HO.out.below hB1) hT (fun a b hab => (HMT.out b).1 (edges_tx hE hab).2) H64.out)
  clear hE hT hB1 HC
  go_wp2_with fail
  refine HC2.out.mono ?_
  rintro e w2 ⟨rfl, hI2, hB2⟩
  rw [aMap_txs] at hI2
  have hB2s := hB2.size
  have HC3 := hid (free_any w1.heap.size 200000 _ w2 (fun q hq hy => Nat.le_trans (nodup_le_of_subset hq (s := txsP l) (fun y h => by
    have := hy y h
    by_cases h2 : y ∈ txsP l
    · exact h2
    · rw [if_neg h2] at this; exact (this rfl).elim)) (by omega)) hI2)
  have H2 := hid (And.intro hI2 hB2)
  clear hI2 hB2 HC2
  go_wp2_with fail
  refine HC3.out.mono ?_
  rintro e w3 ⟨qv, q, rfl, ho3, hs3, hn3, hm3, hB3⟩
  obtain ⟨qad, qcap, rfl⟩ := row_form ho3
  have hB3s := hB3.size
  have hA : Below w3.heap.size w3 (w3.alloc (.cells #[.slice qad q.length qcap] 144)) := (Below.refl _ _).alloc (Nat.le_refl _) _
  have hQ : QAt (w3.alloc (.cells #[.slice qad q.length qcap] 144)) w3.heap.size (.slice qad q.length qcap) q.toArray := ⟨heap_alloc_new w3 _, by simpa using owns_base (owns_same ho3 (fun g e => hA.block g (ho3.lt g e).2)) (Nat.zero_le _), fun e => by have := (ho3.lt _ e).2; omega⟩
  have hB13 : Below w1.heap.size w1 w3 := H2.out.2.trans (hB3.mono hB2s)
  have hB03 : Below w.heap.size w w3 := HB1.out.trans (hB13.mono hB1s)
  have hL0 : LSt w (w3.alloc (.cells #[.slice qad q.length qcap] 144)) tv E w1.heap.size 200000 (fun y => (if y ∈ txsP l then some ((E.countP (fun e => e.2 == y) : Nat) : Int) else none).map (Value.int .i64)) w3.heap.size (.slice qad q.length qcap) q.toArray (.slice none 0 0) [] :=
    ⟨owns_same HT.out (fun g e => (hA.block g (Nat.lt_of_lt_of_le (HT.out.lt g e).2 hB13.size)).trans (hB13.block g (HT.out.lt g e).2)),
      (H2.out.1.same (hB3.block _ H2.out.1.lt)).same (hA.block _ (Nat.lt_of_lt_of_le H2.out.1.lt hB3s)), hQ, World.ownsRow_nil _ _ _ _, (fun _ _ e => by cases e), hB03.trans (hA.mono hB03.size), hB1s, fun g hg => by
        rcases hg with rfl | e
        · exact hB03.size
        · exact Nat.le_trans (Nat.le_trans hB1s hB2s) (ho3.lt g e).1⟩
  have hks : KS E (txsP l) (fun y => if y ∈ txsP l then some ((E.countP (fun e => e.2 == y) : Nat) : Int) else none) q := KS.start HE.out hn3 (fun y => by
    rw [hm3 y]
    by_cases h : y ∈ txsP l
    · rw [if_pos h]; simp [h]
    · rw [if_neg h]; simp [h])
  have HL0 := hid hL0
  have HKS := hid hks
  have HHP := hid (rising_heap (d := q.toArray) (by simpa using hs3))
  clear ho3 hs3 hn3 hm3 hB3 hA hQ hB13 hB03 hL0 hks
  go_wp2
  go_loopw [8] (fun ov wr => ∃ (left out : List Int) (M : Int → Option Int) (d : Array Int) (qv : Value) (nb fuel : Nat), KS E left M d.toList ∧ HeapP d d.size ∧ LSt w wr tv E w1.heap.size nb (fun y => (M y).map (Value.int .i64)) w3.heap.size qv d ov out ∧ nb ≤ 200000 + 12000 * out.length ∧ out.length + left.length ≤ (txsP l).length ∧ left.length ≤ fuel ∧ (lineP E fuel left).map (fun r => out ++ r) = lineP E (txsP l).length (txsP l) ∧ (∀ y ∈ left, y ∈ txsP l)) (fun ov _ => (txsP l).length - lenV ov)
  case atStart =>
    refine ⟨txsP l, [], _, q.toArray, _, 200000, (txsP l).length, HKS.out, HHP.out, HL0.out, by omega, by simp, Nat.le_refl _, ?_, fun _ h => h⟩
    cases lineP E (txsP l).length (txsP l) <;> simp
  case round =>
    obtain ⟨left, out, M, d, qv, nb, fuel, hks, hhp, hL, hnb, hol, hlf, hlp, hlt⟩ := hrel
    obtain ⟨qad, qcap, rfl⟩ := hL.q.form
    have c0 := hL.q.cell
    have HR := hid (And.intro hks (And.intro hhp (And.intro hL (And.intro hlp hlt))))
    have hlv : lenV u8 = out.length := by obtain ⟨_, _, e⟩ := row_form hL.o; rw [e]; rfl
    have hdn : d.size ≤ 1000 := by
      have := nodup_le_of_subset hks.nq (s := txsP l) (fun y hy => hlt y ((hks.mq y).1 hy).1)
      rw [Array.length_toList] at this
      omega
    by_cases hd0 : 0 < d.size
    · have hd1 : (0 : Int) < (d.size : Int) := by omega
      obtain ⟨x, hx⟩ : ∃ x, d[0]! = x := ⟨_, rfl⟩
      have hC5 := least_any w3.heap.size _ d wr hL.q (by omega) hd0 hhp
      rw [hx] at hC5
      have HC5 := hid hC5
      have hxd : x ∈ d.toList := by
        rw [← hx, getElem!_pos d 0 hd0]
        exact Array.getElem_mem_toList ..
      have hxl := (hks.mq x).1 hxd
      have hx64 : I64 x := H64.out x ((HMT.out x).1 (hlt x hxl.1))
      have hmin : ∀ y ∈ d.toList, x ≤ y := fun y hy => by
        obtain ⟨k, hk, rfl⟩ := mem_get hy
        rw [← hx]
        exact heap_root hhp k k (Nat.le_refl _) hk
      have HLEAST := hid (hks.least hxd hmin)
      have HXL := hid hxl
      have hpos := List.length_pos_of_mem hxl.1
      clear hks hhp hL hlp hlt hxd hxl hmin hC5
      go_wp2_with fail
      refine HC5.out.mono ?_
      rintro e w5 ⟨rfl, qv5, d5, hQ5, hh5, hp5, hK5⟩
      have hL5 := HR.out.2.2.1.queue hK5 hQ5
      obtain ⟨w6, hrun6, hI6, hg6⟩ := hL5.m.del Tryz.underlying69 hx64 0
      rw [upd_del] at hI6
      have hL6 := hL5.map hg6 hI6
      have hA7 : Below w6.heap.size w6 (w6.alloc (.cells #[.int .i64 x] 3)) := (Below.refl _ _).alloc (Nat.le_refl _) _
      have hL7 := hL6.below hA7
      have HL7 := hid hL7
      have hki := HR.out.1.take (edges_nodup HE.out) (edges_ne HE.out) hp5.symm (M' := fun y => if y = x then none else M y) (fun _ => rfl)
      have HKI := hid (And.intro hki hh5)
      have hb7 : w.heap.size ≤ w6.heap.size := hL6.bel.size
      clear hQ5 hh5 hp5 hK5 hL5 hI6 hg6 hL6 hA7 hL7 hki
      go_wp2_with (first
        | (at_delete; refine wpList_del (by rfl) _ _ _ _ (by rfl) _ _ (by rfl) (by rfl) hrun6 ?_)
        | (at_builtin; refine wpList_append_lies _ rfl _ _ _ rfl w.heap.size 3 i0 _ 1 8 Tryz.underlying29 hi0 hz0 hz1 hz2 rfl (by omega) u8 _ _ rfl HL7.out.o ⟨w6.heap.size, 0, none⟩ 1 1 [.int .i64 x] rfl rfl (World.news_of_block (cs := #[.int .i64 x]) (t := 3) (fr := (0, 0)) (heap_alloc_new w6 _)) (by simp [Value.oneCell']) (by omega) (by unfold maxLen; omega) (by omega) (by simp; omega) (w6.heap.size + 1) (by simp) ?_; intro g8 cap8 w8 ho8 hgrow8 hat8 hlt8))
      have hL8 := HL7.out.outs (out' := out ++ [x]) hgrow8 (by rw [List.length_append, intsV_append]; exact ho8) (fun g' e => (by
        cases e
        rcases hat8 with e | e
        · exact .inl e
        · exact .inr (by show (w6.alloc _).heap.size ≤ g8; simp; omega)))
      refine (twosOf_any w.heap.size tv E x w8 (by omega) HE.out.1 hL8.t).mono ?_
      rintro e w9 ⟨sv, rfl, ⟨sad, scap, rfl, hS9⟩, hB9⟩
      have HL9 := hid (hL8.below hB9)
      have HS9 := hid hS9
      obtain ⟨T, hTT⟩ : ∃ T, E.filter (fun y => y.1 == x) = T := ⟨_, rfl⟩
      have hTl : T.length ≤ 12000 := by
        have := List.length_filter_le (fun y : Int × Int => y.1 == x) E
        rw [hTT] at this
        omega
      rw [hTT] at HS9 HKI ⊢
      clear hL8 hS9 hB9 hgrow8 ho8 hat8 hTT hrun6 HC5 c0
      go_wp2
      go_loopw [39] (fun iv wr => ∃ (j nb2 : Nat) (M2 : Int → Option Int) (d2 : Array Int) (qv2 : Value), iv = .int .i64 j ∧ j ≤ T.length ∧ KI E (left.filter (fun z => z != x)) x (T.drop j) M2 d2.toList ∧ HeapP d2 d2.size ∧ LSt w wr tv E w1.heap.size nb2 (fun y => (M2 y).map (Value.int .i64)) w3.heap.size qv2 d2 (.slice (some ⟨g8, 0, none⟩) (out.length + 1) cap8) (out ++ [x]) ∧ nb2 ≤ 200000 + 12000 * out.length + j ∧ ∀ g, tv.ownBlock = some g → wr.heap[g]? = w9.heap[g]?) (fun iv _ => T.length - (intOf iv).toNat)
      case atStart => exact ⟨0, nb, _, d5, qv5, rfl, Nat.zero_le _, HKI.out.1, HKI.out.2, HL9.out, by omega, fun _ _ => rfl⟩
      case round =>
        obtain ⟨j, nb2, M2, d2, qv2, rfl, hj, hki, hh2, hL, hnb2, htb⟩ := hrel
        have HRI := hid (And.intro hki (And.intro hh2 (And.intro hL htb)))
        have hbs := hL.bel.size
        by_cases hjt : j < T.length
        · obtain ⟨⟨a, v⟩, hav⟩ : ∃ y, T[j]? = some y := ⟨T[j], List.getElem?_eq_getElem hjt⟩
          have hdr : T.drop j = (a, v) :: T.drop (j + 1) := by
            rw [List.drop_eq_getElem_cons hjt]
            congr 1
            rw [List.getElem?_eq_getElem hjt] at hav
            exact Option.some.inj hav
          rw [hdr] at hki
          obtain rfl : a = x := (hki.mr (a, v) (by simp)).1
          obtain ⟨g, off, rfl, hg, ca, cv⟩ := HS9.out j a v hav
          have hgb := htb g hg
          have ca1 : wr.cell? ⟨g, off + j * 2, none⟩ = some (.int .i64 a) := (World.cell?_of_block (a := ⟨g, _, none⟩) hgb).trans ca
          have cv1 : wr.cell? ⟨g, off + j * 2 + 1, none⟩ = some (.int .i64 v) := (World.cell?_of_block (a := ⟨g, _, none⟩) hgb).trans cv
          have hvl := (hki.mr (a, v) (by simp)).2.2
          have hv64 : I64 v := H64.out v ((HMT.out v).1 (HR.out.2.2.2.2 v (List.mem_filter.1 hvl).1))
          have hMv := hki.at
          obtain ⟨c, hc⟩ : ∃ c, cntP E (left.filter (fun z => z != a)) v = c := ⟨_, rfl⟩
          rw [hc] at hMv
          have hcl : c ≤ 12000 := by rw [← hc]; exact Nat.le_trans List.countP_le_length (by omega)
          have hA : Below wr.heap.size wr (wr.alloc (.cells #[.int .i64 a, .int .i64 v] 78)) := (Below.refl _ _).alloc (Nat.le_refl _) _
          have hLa := hL.below hA
          have hlk1 := hLa.m.look1 Tryz.underlying69 (zeroI _) hv64
          rw [hMv] at hlk1
          simp only [Option.map_some, Option.getD_some] at hlk1
          obtain ⟨w4, hrun4, hI4, hg4⟩ := hLa.m.store Tryz.underlying69 (by unfold maxLen; omega) hv64 (.int .i64 (c : Int))
          rw [upd_put] at hI4
          have hL4 := hLa.map hg4 hI4
          have hlk2 := hL4.m.look1 Tryz.underlying69 (zeroI _) hv64
          simp only [if_true, Option.map_some, Option.getD_some] at hlk2
          have hXb : wr.heap.size ≠ w1.heap.size := fun e => by have := hL.m.lt; omega
          have hX4 : w4.heap[wr.heap.size]? = some (.cells #[.int .i64 a, .int .i64 v] 78 (0, 0)) := (hg4.block _ (by simp) (fun e => hXb (by injection e))).trans (heap_alloc_new wr _)
          have x1 : w4.cell? ⟨wr.heap.size, 1, none⟩ = some (.int .i64 v) := (cell_of_row _ _ 1 _ _ (0, 0) hX4).trans rfl
          have htb4 : ∀ g, tv.ownBlock = some g → w4.heap[g]? = w9.heap[g]? := fun g e => (hg4.block g (by have := (hL.t.lt g e).2; simp; omega) (fun e2 => by cases e2; exact hL.bn.2.1 e)).trans ((hA.block g (hL.t.lt g e).2).trans (htb g e))
          have HL4 := hid (And.intro hL4 htb4)
          have hstep := fun q' hq' => hki.step (M' := fun y => if y = v then some (c : Int) else M2 y) (q' := q') (fun y => by rw [hc]) hq'
          rw [hc] at hstep
          have HST := hid hstep
          have hj0 : (0 : Int) ≤ (j : Int) := by omega
          have hj1 : (j : Int) < (T.length : Int) := by omega
          have hdn2 : d2.size ≤ 1000 := by
            have := nodup_le_of_subset hki.nq (s := txsP l) (fun y hy => HR.out.2.2.2.2 y (List.mem_filter.1 ((hki.mq y).1 hy).1).1)
            rw [Array.length_toList] at this
            omega
          clear hki hh2 hL htb hav hdr ca cv hgb hvl hMv hc hA hLa hI4 hg4 hL4 hX4 htb4 hstep hXb
          by_cases hc0 : c = 0
          · subst hc0
            have hlk3 : (Instr.lookup 69 (.map (some w1.heap.size)) (.int .i64 v) false).run Tryz.prog (wr.alloc (.cells #[.int .i64 a, .int .i64 v] 78)) = .ok (.int .i64 1) (wr.alloc (.cells #[.int .i64 a, .int .i64 v] 78)) := hlk1
            have hlk4 : (Instr.lookup 69 (.map (some w1.heap.size)) (.int .i64 v) false).run Tryz.prog w4 = .ok (.int .i64 0) w4 := hlk2
            have hrun5 : (Instr.mapUpdate 69 (.map (some w1.heap.size)) (.int .i64 v) (.int .i64 0)).run Tryz.prog (wr.alloc (.cells #[.int .i64 a, .int .i64 v] 78)) = .ok () w4 := hrun4
            clear hlk1 hlk2 hrun4
            have HPU := hid (heapPush_any w3.heap.size qv2 d2 v w4 HL4.out.1.q (by omega) HRI.out.2.1)
            go_wp2_with (go_at_call 72; refine HPU.out.mono ?_; rintro e w10 ⟨rfl, qv10, d10, hQ10, hh10, hp10, hK10⟩)
            go_roundw
            case rel =>
              refine ⟨j + 1, nb2 + 1, _, d10, qv10, by go_num, by omega, HST.out d10.toList (by rw [if_pos trivial]; exact hp10), hh10, HL4.out.1.queue hK10 hQ10, by omega, fun g e => ?_⟩
              exact (hK10.block g (HL4.out.1.t.lt g e).2 (HL4.out.1.tq e)).trans (HL4.out.2 g e)
            case measure => simp [intOf]; omega
          · have hcb : ((c : Int) == 0) = false := by simp; omega
            go_wp2
            go_roundw
            case rel => exact ⟨j + 1, nb2 + 1, _, d2, qv2, by go_num, by omega, HST.out d2.toList (by rw [if_neg hc0]), HRI.out.2.1, HL4.out.1, by omega, HL4.out.2⟩
            case measure => simp [intOf]; omega
        · obtain rfl : j = T.length := by omega
          have hj1 : ¬ (T.length : Int) < (T.length : Int) := by omega
          rw [List.drop_length] at hki
          have HK := hid hki.done
          have HL := hid hL
          clear hki hh2 hL htb
          go_wp2
          go_roundw
          case rel =>
            obtain ⟨fu, rfl⟩ : ∃ fu, fuel = fu + 1 := ⟨fuel - 1, by omega⟩
            have hfl := filter_lt HXL.out.1
            refine ⟨left.filter (fun z => z != x), out ++ [x], M2, d2, qv2, nb2, fu, HK.out, HRI.out.2.1, HL.out, by rw [List.length_append]; simp; omega, by rw [List.length_append]; simp; omega, by omega, ?_, fun y hy => HR.out.2.2.2.2 y (List.mem_filter.1 hy).1⟩
            rw [← HR.out.2.2.2.1, lineP_step HXL.out.1 HLEAST.out, Option.map_map]
            congr 1
            funext r
            simp
          case measure => rw [hlv]; simp [lenV]; omega
    · obtain hd00 : d.size = 0 := by omega
      have hd1 : ¬ (0 : Int) < (d.size : Int) := by omega
      have hnil : d.toList = [] := List.eq_nil_of_length_eq_zero (by simpa using hd00)
      have hstuck : leastP (left.filter (freeB E left)) = none := KS.stuck (M := M) (by rw [← hnil]; exact hks)
      obtain ⟨k, hlen, hk⟩ := imap_len hL.m 3
      have hkl : k = 0 ↔ left = [] := by
        rw [hk]
        constructor
        · intro h
          cases left with
          | nil => rfl
          | cons y r =>
            have h1 := h y (H64.out y ((HMT.out y).1 (hlt y (by simp))))
            rw [hks.m y, if_pos (by simp)] at h1
            cases h1
        · rintro rfl y _
          rw [hks.m y]
          simp
      by_cases hle : left = []
      · have hk0 := hkl.2 hle
        subst hk0
        have hres : lineP E (txsP l).length (txsP l) = some out := by
          rw [← hlp, hle, lineP_nil]
          simp
        have HRES := hid hres
        have hlen2 : (Builtin.len_ #[69] 3 #[.map (some w1.heap.size)]).run Tryz.prog wr = .ok (.int .i64 0) wr := hlen
        clear hks hhp hL hlp hlt hlen hk hkl hnil hstuck hres
        go_wp2
        go_ret2
        exact ⟨E, HE.out, HR.out.2.2.1.bel, .inl ⟨u8, rfl, out, HRES.out, HR.out.2.2.1.o⟩⟩
      · have hk0 : k ≠ 0 := fun e => hle (hkl.1 e)
        have hk1 : (0 : Int) < (k : Int) := by omega
        have hres : lineP E (txsP l).length (txsP l) = none := by
          obtain ⟨fu, rfl⟩ : ∃ fu, fuel = fu + 1 := ⟨fuel - 1, by
            have := List.length_pos_iff.2 hle
            omega⟩
          rw [← hlp, lineP_none hle hstuck]
          rfl
        have HRES := hid hres
        clear hks hhp hL hlp hlt hk hkl hnil hstuck hres
        go_wp2
        go_ret2
        exact ⟨E, HE.out, HR.out.2.2.1.bel, .inr ⟨rfl, HRES.out⟩⟩

end Go.Proofs.YtjefgmeejhakbaaGreatDoor

/- ActsRow SrPlay StAt: put together for a claim. -/
/- Lists of acts and of numbers that came in. -/
namespace Go.Proofs.YtjefgmeejhakbaaGreatDoor
open Go.ChangeShapes Go.WideShapes Go.ChangeAt Go.RowKit

theorem tryd_cells_act : Tryz.prog.cellsOf 62 = 4 := by kernel_rfl
section
variable {H : Type} {enc : TypeId × Value → H}
set_option maxRecDepth 100000 in
theorem open_acts {W : World} {base : Nat} {v : Value} {d : DataW H} {p : List MemPlace} (hv : Value.okWide Tryz.prog W .any base 56 v) (h : DataW.Trod enc Tryz.prog W 0 (fun _ => true) true 56 v d p) : ∃ ad n cap, v = .slice ad n cap ∧ ActsAt W ad n := by
  obtain ⟨ad, n, cap, rfl⟩ := okWide_slice Tryz.underlying56 hv
  refine ⟨ad, n, cap, rfl, ?_⟩
  obtain ⟨fuel, hf⟩ := h
  rcases Go.Deep.open_slice Tryz.underlying56 hf with ⟨e, _⟩ | ⟨a, len, cp, m, n', D, Pl, e, _, hl, _, hm, _, hx⟩
  · simp [Value.cells] at e
    obtain ⟨rfl, rfl, rfl⟩ := e
    intro i hi
    omega
  · simp [Value.cells] at e
    obtain ⟨rfl, rfl, rfl⟩ := e
    have hm' : m = cap := by simpa using hm
    have each : ∀ i, i < m → ∃ (v0 v1 v2 v3 : Value), W.cell? (a.add (i * 4)) = some v0 ∧ W.cell? (a.add (i * 4 + 1)) = some v1 ∧ W.cell? (a.add (i * 4 + 2)) = some v2 ∧ W.cell? (a.add (i * 4 + 3)) = some v3 ∧
        (∃ y, DataW.trod enc Tryz.prog W 0 (fun _ => true) true (n' - 1) 3 [v0] = some y) ∧ (∃ y, DataW.trod enc Tryz.prog W 0 (fun _ => true) true (n' - 1) 3 [v1] = some y) ∧ (∃ y, DataW.trod enc Tryz.prog W 0 (fun _ => true) true (n' - 1) 3 [v2] = some y) ∧ (∃ y, DataW.trod enc Tryz.prog W 0 (fun _ => true) true (n' - 1) 3 [v3] = some y) := by
      intro i hi
      obtain ⟨cs', h1, h2⟩ := hx i hi
      rw [tryd_cells_act] at h1
      obtain ⟨_, hlen, hcell⟩ := World.cells?_some h1
      obtain ⟨xs, k, hk, hxy, _, hxl, hf'⟩ := DataW.trod_struct Tryz.underlying62 h2
      have hk' : k = n' - 1 := by omega
      subst hk'
      match xs, hxl, cs', hlen with
      | [y0, y1, y2, y3], _, [v0, v1, v2, v3], _ =>
        have g0 := hf' 0 _ rfl
        have g1 := hf' 1 _ rfl
        have g2 := hf' 2 _ rfl
        have g3 := hf' 3 _ rfl
        simp [tryd_cells3] at g0 g1 g2 g3
        have e0 := hcell 0 (by omega)
        have e1 := hcell 1 (by omega)
        have e2 := hcell 2 (by omega)
        have e3 := hcell 3 (by omega)
        rw [Go.Deep.add_add] at e0 e1 e2 e3
        exact ⟨v0, v1, v2, v3, by simpa using e0, by simpa using e1, by simpa using e2, by simpa using e3, ⟨y0, g0⟩, ⟨y1, g1⟩, ⟨y2, g2⟩, ⟨y3, g3⟩⟩
    intro i hi
    obtain ⟨_, _, _, _, h00, _⟩ := each 0 (by omega)
    obtain ⟨b, off, rfl⟩ := addr_plain (by simpa using h00)
    obtain ⟨v0, v1, v2, v3, h0, h1, h2, h3, ⟨_, t0⟩, ⟨_, t1⟩, ⟨_, t2⟩, ⟨_, t3⟩⟩ := each i (by omega)
    rw [Addr.add_mid] at h0 h1 h2 h3
    obtain ⟨q0, e0, _⟩ := DataW.trod_int Tryz.underlying3 t0
    obtain ⟨q1, e1, _⟩ := DataW.trod_int Tryz.underlying3 t1
    obtain ⟨q2, e2, _⟩ := DataW.trod_int Tryz.underlying3 t2
    obtain ⟨q3, e3, _⟩ := DataW.trod_int Tryz.underlying3 t3
    rw [(List.cons.inj e0).1] at h0
    rw [(List.cons.inj e1).1] at h1
    rw [(List.cons.inj e2).1] at h2
    rw [(List.cons.inj e3).1] at h3
    exact ⟨b, off, q0, q1, q2, q3, rfl, h0, h1, h2, h3⟩
set_option maxRecDepth 100000 in
theorem open_nums {W : World} {base : Nat} {v : Value} {d : DataW H} {p : List MemPlace} (hv : Value.okWide Tryz.prog W .any base 29 v) (h : DataW.Trod enc Tryz.prog W 0 (fun _ => true) true 29 v d p) : ∃ ad n cap, v = .slice ad n cap ∧ IntsAt W ad n := by
  obtain ⟨ad, n, cap, rfl⟩ := okWide_slice Tryz.underlying29 hv
  refine ⟨ad, n, cap, rfl, ?_⟩
  obtain ⟨fuel, hf⟩ := h
  rcases Go.Deep.open_slice Tryz.underlying29 hf with ⟨e, _⟩ | ⟨a, len, cp, m, n', D, Pl, e, _, hl, _, hm, _, hx⟩
  · simp [Value.cells] at e
    obtain ⟨rfl, rfl, rfl⟩ := e
    intro i hi
    omega
  · simp [Value.cells] at e
    obtain ⟨rfl, rfl, rfl⟩ := e
    have hm' : m = cap := by simpa using hm
    have each : ∀ i, i < m → ∃ (v0 : Value) (k : Nat), W.cell? (a.add i) = some v0 ∧ (∃ y, DataW.trod enc Tryz.prog W 0 (fun _ => true) true k 3 [v0] = some y) := by
      intro i hi
      obtain ⟨cs', h1, h2⟩ := hx i hi
      rw [tryd_cells3] at h1
      obtain ⟨_, hlen, hcell⟩ := World.cells?_some h1
      match cs', hlen with
      | [v0], _ =>
        have e0 := hcell 0 (by omega)
        rw [Go.Deep.add_add] at e0
        exact ⟨v0, _, by simpa using e0, ⟨_, h2⟩⟩
    intro i hi
    obtain ⟨_, _, h00, _⟩ := each 0 (by omega)
    obtain ⟨b, off, rfl⟩ := addr_plain (by simpa using h00)
    obtain ⟨v0, k, h0, ⟨_, t0⟩⟩ := each i (by omega)
    rw [Addr.add_mid] at h0
    obtain ⟨q0, e0, _⟩ := DataW.trod_int Tryz.underlying3 t0
    rw [(List.cons.inj e0).1] at h0
    exact ⟨b, off, q0, rfl, h0⟩
end

end Go.Proofs.YtjefgmeejhakbaaGreatDoor

/- Plain: put one behind the other, as they stand in the line, each one reads just what it read; and in the end all is as it is. -/
namespace Go.Proofs.YtjefgmeejhakbaaGreatDoor

def posP (out : List Int) (x : Int) : Nat := (firstAt x out).getD 0
theorem pos_get {out : List Int} (hn : out.Nodup) {k : Nat} {y : Int} (h : out[k]? = some y) : posP out y = k := by
  unfold posP
  rw [firstAt_of h (fun j hj hx => by
    have := (List.getElem?_inj (List.getElem?_eq_some_iff.1 hx).1 hn).1 (hx.trans h.symm)
    omega)]
  rfl
def wroteB (E : Eng) (k x : Int) : Bool := (E.ce.v (x - 1).toNat k).isSome
def lastN (E : Eng) (p : List Int) (k : Int) : Option Int := (p.filter (wroteB E k)).getLast?
def nowP (E : Eng) (p : List Int) (k : Int) : Option Int := (lastN E p k).bind (fun x => E.ce.v (x - 1).toNat k)
theorem nowP_nil (E : Eng) (k : Int) : nowP E [] k = none := rfl
theorem nowP_snoc (E : Eng) (p : List Int) (x k : Int) : nowP E (p ++ [x]) k = match E.ce.v (x - 1).toNat k with
    | some y => some y
    | none => nowP E p k := by
  unfold nowP lastN
  rw [List.filter_append, List.filter_cons]
  unfold wroteB
  cases hv : E.ce.v (x - 1).toNat k with
  | none => simp
  | some y =>
    simp only [Option.isSome_some, if_true, List.filter_nil]
    rw [List.getLast?_concat]
    exact hv

structure Lined (E : Eng) (out : List Int) : Prop where
  nd : out.Nodup
  mem : ∀ x, x ∈ out ↔ ∃ o ∈ histP E, o.1 = x
  fit : ∀ a b, a ≠ b → Two (histP E) a b → posP out a < posP out b
theorem lined_of {E : Eng} {d : List (Int × Int)} (hd : IsEdges (histP E) d) {out : List Int} (hl : lineP d (txsP (histP E)).length (txsP (histP E)) = some out) : Lined E out := by
  obtain ⟨h1, h2, h3⟩ := line_ok d _ _ out (Nat.le_refl _) (nodup_txs _) hl
  refine ⟨h2, fun x => (h1 x).trans mem_txs, fun a b hne htwo => ?_⟩
  have hab := (hd.2 a b).2 ⟨hne, htwo⟩
  obtain ⟨ha, hb⟩ := edges_tx hd hab
  obtain ⟨p, q, e, hap⟩ := h3 a b hab hne ha hb
  obtain ⟨i, hi, ei⟩ := List.getElem_of_mem hap
  rw [pos_get h2 (k := i) (y := a) (by rw [e, List.getElem?_append_left hi, List.getElem?_eq_getElem hi, ei]), pos_get h2 (k := p.length) (y := b) (by rw [e]; simp)]
  exact hi
theorem pw_con (f : Int → Nat) : ∀ w : List Int, (∀ a b, (a, b) ∈ conP w → f a < f b) → w.Pairwise (fun a b => f a < f b)
  | [], _ => List.Pairwise.nil
  | [a], _ => List.pairwise_singleton _ _
  | a :: b :: r, h => by
    have ih := pw_con f (b :: r) (fun x y hxy => h x y (by simp only [conP]; exact List.mem_cons_of_mem _ hxy))
    refine List.pairwise_cons.2 ⟨fun y hy => ?_, ih⟩
    have hab := h a b (by simp only [conP]; exact List.mem_cons_self ..)
    rcases List.mem_cons.1 hy with rfl | hy
    · exact hab
    · have := (List.pairwise_cons.1 ih).1 y hy
      omega

section
variable {E : Eng} {T : Tal} {R : Nat → List Int} {N i m : Nat} {t : Tx} {out p q : List Int} {key k : Int}
theorem Lined.sorted (h : Lined E out) : out.Pairwise (fun a b => posP out a < posP out b) := by
  refine List.pairwise_iff_getElem.2 (fun a b ha hb hab => ?_)
  rw [pos_get h.nd (List.getElem?_eq_getElem ha), pos_get h.nd (List.getElem?_eq_getElem hb)]
  exact hab
theorem Lined.wsort (h : Lined E out) (hT : Tells E T) (key : Int) : (wrs E key).Pairwise (fun a b => posP out a < posP out b) := by
  refine pw_con _ _ (fun a b hab => ?_)
  obtain ⟨x, hx, hy⟩ := con_get _ _ _ hab
  obtain ⟨i, rfl, hi, hi2⟩ := wrs_get hT hx
  obtain ⟨j, rfl, hj, hj2⟩ := wrs_get hT hy
  have hlt := wl_lt hT (Nat.lt_succ_self _) hi hj
  obtain ⟨t, ht, hs, hv⟩ := (wl_iff hT.mid).1 hi2
  refine h.fit _ _ (fun e => ?_) (.inl ⟨_, hist_write hT.mid ht hs hv, by rw [writers_hist hT.mid]; exact hab⟩)
  have : i = j := by omega
  subst this
  omega
theorem Lined.has (h : Lined E out) (hT : Tells E T) (hi : i ∈ wl E key) : ((i : Int) + 1) ∈ out := by
  obtain ⟨t, ht, hs, hv⟩ := (wl_iff hT.mid).1 hi
  exact (h.mem _).2 ⟨_, hist_write hT.mid ht hs hv, rfl⟩
theorem Lined.tx (h : Lined E out) (hT : Tells E T) {x : Int} (hx : x ∈ out) : ∃ (i : Nat) (t : Tx), x = (i : Int) + 1 ∧ E.txs[i]? = some t ∧ t.state = 2 := by
  obtain ⟨o, ho, e⟩ := (h.mem x).1 hx
  obtain ⟨i, t, ht, hs, _, ⟨p, _, rfl⟩ | ⟨k, _, rfl⟩⟩ := mem_hist hT.mid ho
  · exact ⟨i, t, e.symm, ht, hs⟩
  · exact ⟨i, t, e.symm, ht, hs⟩
theorem Lined.wrote (h : Lined E out) (hT : Tells E T) {y : Int} (hy : y ∈ out) (hw : wroteB E key y = true) : ∃ j : Nat, y = (j : Int) + 1 ∧ j ∈ wl E key := by
  obtain ⟨j, u, rfl, hu, hs⟩ := h.tx hT hy
  refine ⟨j, rfl, (wl_iff hT.mid).2 ⟨u, hu, hs, fun e => ?_⟩⟩
  unfold wroteB at hw
  rw [show ((j : Int) + 1 - 1).toNat = j by omega, CE.v_some (cs_get hu)] at hw
  rw [show (cor u).vals key = none from e] at hw
  cases hw
theorem wrote_wl (_hT : Tells E T) (hm : m ∈ wl E key) : wroteB E key ((m : Int) + 1) = true := by
  unfold wroteB
  rw [show ((m : Int) + 1 - 1).toNat = m by omega]
  exact (List.mem_filter.1 hm).2
theorem Lined.last_is (h : Lined E out) (hT : Tells E T) (he : out = p ++ q) (hm : m ∈ wl E key) (hmp : ((m : Int) + 1) ∈ p) (hmax : ∀ j ∈ wl E key, ((j : Int) + 1) ∈ p → posP out ((j : Int) + 1) ≤ posP out ((m : Int) + 1)) : lastN E p key = some ((m : Int) + 1) := by
  have hmf : ((m : Int) + 1) ∈ p.filter (wroteB E key) := List.mem_filter.2 ⟨hmp, wrote_wl hT hm⟩
  have hps : p.Pairwise (fun a b => posP out a < posP out b) := by
    have := h.sorted
    rw [he] at this
    have := (List.pairwise_append.1 this).1
    rwa [← he] at this
  unfold lastN
  cases hx : (p.filter (wroteB E key)).getLast? with
  | none =>
    rw [List.getLast?_eq_none_iff] at hx
    rw [hx] at hmf
    cases hmf
  | some y =>
    have hyf := List.mem_filter.1 (List.mem_of_getLast? hx)
    obtain ⟨j, rfl, hj⟩ := h.wrote hT (by rw [he]; exact List.mem_append_left _ hyf.1) hyf.2
    have hle := hmax j hj hyf.1
    obtain ⟨l, e⟩ := List.getLast?_eq_some_iff.1 hx
    have hpf := hps.filter (wroteB E key)
    rw [e] at hpf hmf
    rcases List.mem_append.1 hmf with h5 | h5
    · have := (List.pairwise_append.1 hpf).2.2 _ h5 _ (List.mem_singleton.2 rfl)
      omega
    · rw [List.mem_singleton.1 h5]
theorem Lined.last_none (h : Lined E out) (hT : Tells E T) (he : out = p ++ q) (hno : ∀ j ∈ wl E key, ((j : Int) + 1) ∉ p) : lastN E p key = none := by
  unfold lastN
  rw [List.getLast?_eq_none_iff, List.filter_eq_nil_iff]
  intro y hy hw
  obtain ⟨j, rfl, hj⟩ := h.wrote hT (by rw [he]; exact List.mem_append_left _ hy) hw
  exact hno j hj hy
theorem pw_le {f : Int → Nat} {w : List Int} (h : w.Pairwise (fun a b => f a < f b)) {a b : Nat} {x y : Int} (hab : a ≤ b) (hx : w[a]? = some x) (hy : w[b]? = some y) : f x ≤ f y := by
  obtain ⟨h1, e1⟩ := List.getElem?_eq_some_iff.1 hx
  obtain ⟨h2, e2⟩ := List.getElem?_eq_some_iff.1 hy
  by_cases e : a = b
  · subst e
    rw [e1] at e2
    rw [e2]
    exact Nat.le_refl _
  · have := List.pairwise_iff_getElem.1 h a b h1 h2 (by omega)
    rw [e1, e2] at this
    omega
theorem wrs_at (hj : m ∈ wl E key) : ∃ d : Nat, (wrs E key)[d]? = some ((m : Int) + 1) := by
  obtain ⟨d, hd, ed⟩ := List.getElem_of_mem hj
  refine ⟨d, ?_⟩
  unfold wrs
  rw [List.getElem?_map, List.getElem?_eq_getElem hd, ed]
  rfl
theorem Lined.read (h : Lined E out) (hT : Tells E T) (hS : StrB noQ (keysR T) N E) (he : out = p ++ ((i : Int) + 1) :: q) (ht : E.txs[i]? = some t) (hs : t.state = 2) {l : List (Int × Int)} (hl : T.reads[i]? = some l) {r : Int × Int} (hr : r ∈ l) : (nowP E p r.1).getD (-1) = r.2 := by
  obtain ⟨f, hf⟩ := hS.tal i t ht (by omega) r.1 (by
    unfold keysR
    rw [hl]
    exact List.mem_map.2 ⟨r, hr, rfl⟩)
  have hv := (hT.rds i t l ht (by rw [hS.lev i t ht]; decide) hl r hr).2
  have hpn : posP out ((i : Int) + 1) = p.length := pos_get h.nd (by rw [he]; simp)
  have hin : ∀ y, y ∈ p → posP out y < p.length := fun y hy => by
    obtain ⟨d, hd, ed⟩ := List.getElem_of_mem hy
    rw [pos_get h.nd (k := d) (by rw [he, List.getElem?_append_left hd, List.getElem?_eq_getElem hd, ed])]
    exact hd
  have hin2 : ∀ y, y ∈ out → posP out y < p.length → y ∈ p := fun y hy hlt => by
    obtain ⟨d, hd, ed⟩ := List.getElem_of_mem hy
    have hg : out[d]? = some y := by rw [List.getElem?_eq_getElem hd, ed]
    rw [pos_get h.nd hg] at hlt
    rw [he, List.getElem?_append_left hlt] at hg
    exact List.mem_of_getElem? hg
  have hw := h.wsort hT r.1
  obtain ⟨l2, h1, _, h3⟩ := read_two hT hS ht hs hf
  have two : ∀ a b, (a, b) ∈ l2 → Two (histP E) a b := fun a b hab => .inr ⟨_, hist_read hT.mid ht hs hf, rfl, l2, by rw [writers_hist hT.mid]; exact h1, hab⟩
  have step : ∀ (d : Nat) (y z : Int), (wrs E r.1)[d]? = some z → ((i : Int) + 1, z) ∈ l2 → posP out z ≤ posP out y → y ∈ p → False := fun d y z hz hzl hle hy => by
    have := hin y hy
    by_cases e : (i : Int) + 1 = z
    · rw [← e, hpn] at hle
      omega
    · have := h.fit _ _ e (two _ _ hzl)
      omega
  rw [hv]
  rcases h3 with ⟨hr0, hall⟩ | ⟨m, x, d, hr0, hvm, hmi, hml, hd, hall⟩
  · have hno : lastN E p r.1 = none := h.last_none hT he (fun j hj hjp => by
      obtain ⟨dj, hdj⟩ := wrs_at hj
      have hdj : (wrs E r.1)[dj]? = some ((j : Int) + 1) := hdj
      obtain ⟨z, hz⟩ : ∃ z, (wrs E r.1)[0]? = some z := by
        have := (List.getElem?_eq_some_iff.1 hdj).1
        exact ⟨_, List.getElem?_eq_getElem (by omega)⟩
      exact step 0 _ z hz (hall z hz) (pw_le hw (Nat.zero_le _) hz hdj) hjp)
    unfold nowP
    rw [hno, hr0]
    rfl
  · obtain ⟨m2, em, _, hmw⟩ := wrs_get hT hd
    have em : m2 = m := by omega
    subst em
    have hmp : ((m2 : Int) + 1) ∈ p := hin2 _ (h.has hT hmw) (by
      have := h.fit _ _ (fun e => hmi (by omega)) (two _ _ hml)
      omega)
    have hls := h.last_is hT he hmw hmp (fun j hj hjp => by
      obtain ⟨dj, hdj⟩ := wrs_at hj
      have hdj : (wrs E r.1)[dj]? = some ((j : Int) + 1) := hdj
      by_cases hle : dj ≤ d
      · exact pw_le hw hle hdj hd
      · exfalso
        obtain ⟨z, hz⟩ : ∃ z, (wrs E r.1)[d + 1]? = some z := by
          have := (List.getElem?_eq_some_iff.1 hdj).1
          exact ⟨_, List.getElem?_eq_getElem (by omega)⟩
        exact step (d + 1) _ z hz (hall z hz) (pw_le hw (by omega) hz hdj) hjp)
    unfold nowP
    rw [hls, hr0]
    simp only [Option.bind_some]
    rw [show ((m2 : Int) + 1 - 1).toNat = m2 by omega, hvm]
    rfl
theorem Lined.last (h : Lined E out) (hT : Tells E T) (k : Int) : nowP E out k = (lastW E.ce.v E.com k).bind (fun i => E.ce.v i k) := by
  have hw := h.wsort hT k
  unfold nowP
  cases hl : lastW E.ce.v E.com k with
  | none =>
    have : wl E k = [] := List.getLast?_eq_none_iff.1 hl
    rw [h.last_none (q := []) hT (by simp) (fun j hj => by rw [this] at hj; cases hj)]
    rfl
  | some m =>
    have hm : m ∈ wl E k := List.mem_of_getLast? hl
    obtain ⟨l, e⟩ := List.getLast?_eq_some_iff.1 hl
    have e : wl E k = l ++ [m] := e
    rw [h.last_is (q := []) hT (by simp) hm (h.has hT hm) (fun j hj _ => by
      have hw' := hw
      unfold wrs at hw'
      rw [e] at hj hw'
      rw [List.map_append] at hw'
      rcases List.mem_append.1 hj with h5 | h5
      · have := (List.pairwise_append.1 hw').2.2 ((j : Int) + 1) (List.mem_map.2 ⟨j, h5, rfl⟩) ((m : Int) + 1) (by simp)
        omega
      · rw [List.mem_singleton.1 h5]
        exact Nat.le_refl _)]
    simp only [Option.bind_some]
    rw [show ((m : Int) + 1 - 1).toNat = m by omega]
end

end Go.Proofs.YtjefgmeejhakbaaGreatDoor

/- keep's EngineStrict: its closure at; the history's length; where the history lies. -/
namespace Go.Proofs.YtjefgmeejhakbaaGreatDoor
open Go.RowKit

set_option maxRecDepth 100000 in
set_option maxHeartbeats 400000 in
theorem at_any {bx mb nn : Nat} {f : Int → Option Int} {w : World} (hb : w.cell? ⟨bx, 0, none⟩ = some (.map (some mb))) (hI : IMap w mb nn (fun y => (f y).map (Value.int .i64))) {k : Int} (hk : I64 k) :
    Calls Tryz.prog 26 #[.int .i64 k, .pointer (some ⟨bx, 0, none⟩)] w fun e w' => e = .returned (.int .i64 ((f k).getD (-1))) ∧ w' = w := by
  have hl := hI.look Tryz.underlying69 (zeroI _) hk
  cases hf : f k with
  | none =>
    rw [hf] at hl
    simp only [Option.map_none, Option.getD_none, Option.isSome_none] at hl
    clear hI hf
    go_enter Tryz.func26, Tryz.ntmps26
    go_wp2
    go_ret
    exact ⟨rfl, rfl⟩
  | some v =>
    rw [hf] at hl
    simp only [Option.map_some, Option.getD_some, Option.isSome_some] at hl
    clear hI hf
    go_enter Tryz.func26, Tryz.ntmps26
    go_wp2
    go_ret
    exact ⟨rfl, rfl⟩

theorem sum_nodup (f : Nat → Nat) : ∀ (n : Nat) (l : List Nat), l.Nodup → (∀ x ∈ l, x < n) → (l.map f).sum ≤ ((List.range n).map f).sum
  | 0, [], _, _ => Nat.le_refl _
  | 0, x :: r, _, h => absurd (h x (List.mem_cons_self ..)) (by omega)
  | n + 1, l, hn, h => by
    have h1 := sum_nodup f n (l.filter (fun x => x != n)) (hn.filter _) (fun x hx => by
      have h2 := List.mem_filter.1 hx
      have h3 := h x h2.1
      have h4 : x ≠ n := by simpa using h2.2
      omega)
    have h2 : (l.map f).sum ≤ ((l.filter (fun x => x != n)).map f).sum + f n := by
      clear h1 h
      induction l with
      | nil => simp
      | cons x r ih =>
        have hn' := List.nodup_cons.1 hn
        have := ih hn'.2
        rw [List.filter_cons]
        by_cases e : x = n
        · subst e
          have : r.filter (fun y => y != x) = r := List.filter_eq_self.2 (fun y hy => by simp; rintro rfl; exact hn'.1 hy)
          simp [this]
          omega
        · rw [if_pos (by simpa using e)]
          simp only [List.map_cons, List.sum_cons]
          omega
    rw [List.range_succ, List.map_append, List.sum_append]
    simp
    omega
theorem hist_len {E : Eng} {Q : Nat → Prop} (h : Mid 0 (fun _ => none) E.ce Q) : (histP E).length ≤ cntR E + 10 * E.txs.length := by
  have hlt : ∀ x ∈ E.com, x < E.txs.length := fun x hx => by
    obtain ⟨u, hu, _⟩ := (h.com.coms x).1 hx
    obtain ⟨t, ht, _⟩ := cs_of hu
    exact (List.getElem?_eq_some_iff.1 ht).1
  have hn : E.com.Nodup := h.com.comn
  have h1 : ∀ l : List Nat, (l.flatMap (fun (i : Nat) => match E.txs[i]? with | some t => histOf ((i : Int) + 1) t | none => [])).length ≤ (l.map (fun i => match E.txs[i]? with | some t => t.reads.length | none => 0)).sum + 10 * l.length := by
    intro l
    induction l with
    | nil => simp
    | cons x r ih =>
      rw [List.flatMap_cons, List.length_append, List.map_cons, List.sum_cons, List.length_cons]
      cases hx : E.txs[x]? with
      | none =>
        simp only [List.length_nil, Nat.zero_add]
        omega
      | some t =>
        have h2 : (histOf ((x : Int) + 1) t).length ≤ t.reads.length + 10 := by
          unfold histOf readOps
          have := writesP_len t.vals
          simp
          omega
        simp only
        omega
  have h2 := sum_nodup (fun i => match E.txs[i]? with | some t => t.reads.length | none => 0) E.txs.length E.com hn hlt
  have h3 := nodup_lt E.txs.length E.com hn hlt
  have h4 : ((List.range E.txs.length).map (fun i => match E.txs[i]? with | some t => t.reads.length | none => 0)).sum = cntR E := by
    unfold cntR
    congr 1
    refine List.ext_getElem? (fun k => ?_)
    rw [List.getElem?_map, List.getElem?_map]
    by_cases hk : k < E.txs.length
    · rw [List.getElem?_range hk, List.getElem?_eq_getElem hk]
      simp only [Option.map_some, List.getElem?_eq_getElem hk]
    · rw [List.getElem?_eq_none (by simpa using hk), List.getElem?_eq_none (by omega)]
      rfl
  have h5 : (histP E).length ≤ (E.com.map (fun i => match E.txs[i]? with | some t => t.reads.length | none => 0)).sum + 10 * E.com.length := by
    unfold histP histTo
    rw [List.take_length]
    exact h1 E.com
  rw [h4] at h2
  omega
theorem hist_at {E : Eng} {T : Tal} {R : Nat → List Int} {N : Nat} (hT : Tells E T) (hS : StrB noQ R N E) {w : World} {base c : Nat} {ad : Option Addr} (hrow : w.ownsRow base 90 4 (.slice ad (histP E).length c) (histP E).length (opsV (histP E))) : OpsAt w ad (histP E) := fun i o ho => by
  have hi := (List.getElem?_eq_some_iff.1 ho).1
  rcases row_slice hrow with ⟨_, e0⟩ | ⟨g, c', e, hg, hc⟩
  · omega
  · injection e with e1 e2 e3
    obtain ⟨c0, c1, c2, c3⟩ := opsV_get _ i o ho
    refine ⟨g, 0, e1, hg, ?_, ?_⟩
    · rw [Nat.zero_add]
      exact ⟨hc _ _ c0, hc _ _ c1, hc _ _ c2, hc _ _ c3⟩
    · obtain ⟨j, t, ht, hs, _, ⟨q, hq, rfl⟩ | ⟨k, hk, rfl⟩⟩ := mem_hist hT.mid (List.mem_of_getElem? ho)
      · have hj := tx_lt hT ht
        obtain ⟨hk, hf, _⟩ := hS.rds j t ht q hq
        have h0 : 0 ≤ q.2 ∧ q.2 ≤ 200 := by
          rcases from_cases hT.mid q.1 t.start with ⟨_, h0, _⟩ | ⟨m, _, _, _, h0, hm, _⟩
          · rw [hf, h0]; omega
          · obtain ⟨u, hu, _⟩ := (wl_iff hT.mid).1 hm
            have := tx_lt hT hu
            rw [hf, h0]
            omega
        unfold I64
        simp only
        omega
      · have hj := tx_lt hT ht
        have hvk := (hT.mid.reg.fair j _ (cs_get ht)).vk k hk
        unfold I64
        simp only
        omega
theorem fineTo_all {p : Opp → Bool} {l : List Opp} (h : ∀ o ∈ l, p o = false) : FineTo p l l.length := ⟨Nat.le_refl _, fun _ o _ ho => h o (List.mem_of_getElem? ho), fun h => absurd h (Nat.lt_irrefl _)⟩

def putW (f : Int → Option Int) (l : List (Int × Int)) : Int → Option Int := l.foldl (fun f p => updT f p.1 (some p.2)) f
theorem putW_take {f : Int → Option Int} {l : List (Int × Int)} {a : Nat} {p : Int × Int} (h : l[a]? = some p) : putW f (l.take (a + 1)) = updT (putW f (l.take a)) p.1 (some p.2) := by
  rw [List.take_add_one, h]
  unfold putW
  rw [List.foldl_append]
  rfl
theorem putW_all (f V : Int → Option Int) (hV : ∀ k, V k ≠ none → 0 ≤ k ∧ k < 10) (k : Int) : putW f (writesP V) k = match V k with
    | some x => some x
    | none => f k := by
  have key : ∀ (ks : List Int) (f : Int → Option Int), putW f (ks.map (fun k => (k, (V k).getD 0))) k = if k ∈ ks then some ((V k).getD 0) else f k := by
    intro ks
    induction ks with
    | nil => intro f; simp [putW]
    | cons a r ih =>
      intro f
      have := ih (updT f a (some ((V a).getD 0)))
      unfold putW at this ⊢
      simp only [List.map_cons, List.foldl_cons]
      rw [this]
      by_cases e : k = a
      · subst e
        by_cases h : k ∈ r <;> simp [h, updT]
      · by_cases h : k ∈ r <;> simp [h, e, updT]
  unfold writesP
  rw [key]
  have hm := mem_keysOf hV k
  cases hv : V k with
  | none => rw [if_neg (fun hc => by rw [hm, hv] at hc; cases hc)]
  | some x => rw [if_pos (hm.2 (by rw [hv]; rfl))]; rfl
theorem putW_keys {f : Int → Option Int} {l : List (Int × Int)} (hf : ∀ k, f k ≠ none → 0 ≤ k ∧ k < 10) (hl : ∀ p ∈ l, 0 ≤ p.1 ∧ p.1 < 10) : ∀ k, putW f l k ≠ none → 0 ≤ k ∧ k < 10 := by
  induction l generalizing f with
  | nil => exact hf
  | cons p r ih =>
    refine ih (f := updT f p.1 (some p.2)) (fun k hk => ?_) (fun q hq => hl q (List.mem_cons_of_mem _ hq))
    by_cases e : k = p.1
    · rw [e]; exact hl p (List.mem_cons_self ..)
    · rw [updT_other _ _ e] at hk
      exact hf k hk
theorem nowP_keys {E : Eng} {Q : Nat → Prop} (h : Mid 0 (fun _ => none) E.ce Q) (p : List Int) (k : Int) (hk : nowP E p k ≠ none) : 0 ≤ k ∧ k < 10 := by
  unfold nowP at hk
  cases hl : lastN E p k with
  | none => rw [hl] at hk; exact absurd rfl hk
  | some x =>
    rw [hl] at hk
    simp only [Option.bind_some] at hk
    unfold CE.v at hk
    cases hc : E.ce.cs[(x - 1).toNat]? with
    | none => rw [hc] at hk; exact absurd rfl hk
    | some c => rw [hc] at hk; exact (h.reg.fair _ c hc).vk k hk
theorem writesP_key {V : Int → Option Int} {p : Int × Int} (h : p ∈ writesP V) : 0 ≤ p.1 ∧ p.1 < 10 := by
  unfold writesP at h
  obtain ⟨k, hk, rfl⟩ := List.mem_map.1 h
  exact keysOf_pos V hk
theorem now_count {E : Eng} {T : Tal} {out : List Int} (h : Lined E out) (hT : Tells E T) : (allE E).length = (keysOf (nowP E out)).length := by
  rw [all_count hT.mid, keysOf_range, keysOf_range]
  congr 1
  refine List.filter_congr (fun k _ => ?_)
  unfold histP
  rw [lastH_hist hT.mid _ _ (Nat.le_refl _), List.take_length, h.last hT]
  cases hl : lastW E.ce.v E.com k with
  | none => rfl
  | some i =>
    simp only [Option.map_some, Option.isSome_some, Option.bind_some]
    exact ((lastW_some hl).2).symm
theorem now_each {E : Eng} {T : Tal} {out : List Int} (h : Lined E out) (hT : Tells E T) {k x : Int} (hx : (k, x) ∈ allE E) : nowP E out k = some x ∧ 0 ≤ k ∧ k < 10 := by
  obtain ⟨i, t, h1, h2, h3, h4, h5⟩ := all_each hT.mid hx
  unfold histP at h1
  rw [lastH_hist hT.mid _ _ (Nat.le_refl _), List.take_length] at h1
  refine ⟨?_, h5⟩
  rw [h.last hT]
  obtain ⟨j, hj, e⟩ := Option.map_eq_some_iff.1 h1
  have : j = i := by omega
  subst this
  rw [hj, Option.bind_some, CE.v_some (cs_get h2)]
  exact h4

def StW (w6 wr : World) (mb : Nat) (f : Int → Option Int) : Prop := IMap wr mb 10 (fun y => (f y).map (Value.int .i64)) ∧ wr.cell? ⟨mb + 1, 0, none⟩ = some (.map (some mb)) ∧ Below mb w6 wr
theorem StW.more {w6 wr wr' : World} {mb : Nat} {f : Int → Option Int} (h : StW w6 wr mb f) (hB : Below wr.heap.size wr wr') (h6 : mb = w6.heap.size) : StW w6 wr' mb f := by
  obtain ⟨h1, h2, h3⟩ := h
  have hs := h3.size
  exact ⟨h1.same (hB.block _ h1.lt), (hB.cell (p := ⟨mb + 1, 0, none⟩) (World.block_lt_of_cell? wr _ h2)).trans h2, h3.trans (hB.mono (by omega))⟩
theorem StW.at {w6 wr : World} {mb : Nat} {f : Int → Option Int} (h : StW w6 wr mb f) {k : Int} (hk : I64 k) :
    Calls Tryz.prog 26 #[.int .i64 k, .pointer (some ⟨mb + 1, 0, none⟩)] wr fun e w' => e = .returned (.int .i64 ((f k).getD (-1))) ∧ w' = wr := at_any h.2.1 h.1 hk
theorem StW.congr {w6 wr : World} {mb : Nat} {f g : Int → Option Int} (h : StW w6 wr mb f) (e : ∀ k, f k = g k) : StW w6 wr mb g := (funext e : f = g) ▸ h
theorem line_len {E : Eng} {d : List (Int × Int)} {out : List Int} (hl : lineP d (txsP (histP E)).length (txsP (histP E)) = some out) : out.length ≤ (histP E).length := by
  obtain ⟨h1, h2, _⟩ := line_ok d _ _ out (Nat.le_refl _) (nodup_txs _) hl
  have := ((List.perm_ext_iff_of_nodup h2 (nodup_txs _)).2 h1).length_eq
  have := txs_length (histP E)
  omega

end Go.Proofs.YtjefgmeejhakbaaGreatDoor

/- keep's EngineStrict: put one behind the other, as they stand in the line, each one reads just what it read, and in the end all is as it is. -/
namespace Go.Proofs.YtjefgmeejhakbaaGreatDoor
open Go.RowKit

set_option maxRecDepth 100000 in
set_option maxHeartbeats 4000000 in
theorem strict_long (ad : Option Addr) (n cap : Nat) (w : World) (h : 90 < n) :
    Calls Tryz.prog 5 #[.slice ad n cap] w fun e w' => e = .returned (.bool true) ∧ w' = w := by
  have g1 : (90 : Int) < (n : Int) := by omega
  go_enter Tryz.func5, Tryz.ntmps5
  go_wp2
  go_ret
  exact ⟨rfl, rfl⟩

set_option maxRecDepth 100000 in
set_option maxHeartbeats 8000000 in
theorem strict_walk (ad : Option Addr) (n cap : Nat) (w : World) (hn : n ≤ 90) (hA : ActsAt w ad n) (hg : Handle w) :
    Calls Tryz.prog 5 #[.slice ad n cap] w fun e w' => e = .returned (.bool true) ∧ Below w.heap.size w w' := by
  have HR := hid (ran_any w hg)
  have HA := hid hA
  have HG := hid hg
  have g1 : ¬ (90 : Int) < (n : Int) := by omega
  clear hA hg
  go_enter Tryz.func5, Tryz.ntmps5
  go_wp2_with fail
  refine HR.out.mono ?_
  rintro e w1 ⟨rfl, hB1⟩
  have HT := hid (tells_any w1)
  have HB1 := hid hB1
  clear hB1 HR
  go_wp2_with fail
  refine HT.out.mono ?_
  rintro e w2 ⟨L, TL, rfl, hT⟩
  have hG3 : Handle w1 ∧ 0 < w1.heap.size := ⟨HG.out.below HB1.out HG.out.pos, Nat.lt_of_lt_of_le HG.out.pos HB1.out.size⟩
  have hPo : ∀ g, g < w.heap.size → g < w1.heap.size := fun g hg => Nat.lt_of_lt_of_le hg HB1.out.size
  obtain ⟨G, hG⟩ : ∃ G : Gr, (⟨w1, fun g => g < w1.heap.size⟩ : Gr) = G := ⟨_, rfl⟩
  have HGW := hid (show G.w = w1 by rw [← hG])
  have HPO := hid (show ∀ g, g < w.heap.size → G.P g by rw [← hG]; exact hPo)
  have HG3 := hid (show Handle G.w ∧ G.P 0 by rw [← hG]; exact hG3)
  rw [hG] at hT
  have HT3 := hid hT
  obtain ⟨tb, htb⟩ : ∃ tb, TL.b = tb := ⟨_, rfl⟩
  have HTB := hid htb
  rw [htb]
  clear hG3 hPo hG hT htb HT HG
  go_wp2
  go_loopw [4] (fun iv wr => ∃ (i : Nat) (L' : EnL) (E' : Eng) (TL' : TalL) (t' : Tal), iv = .int .i64 i ∧ i ≤ n ∧ Hid (TaleAt G wr L' E' TL' t' ∧ POk E' t' i ∧ Tells E' t' ∧ StrB noQ (keysR t') i E' ∧ TL'.b = tb)) (fun iv _ => n - (intOf iv).toNat)
  case atStart => exact ⟨0, L, eng0, TL, tal0, rfl, Nat.zero_le _, HT3.out, pok0, tells0, str0, HTB.out⟩
  case round =>
    clear HT3 HTB
    obtain ⟨i, L', E', TL', t', rfl, hi, HX⟩ := hrel
    by_cases hlt : i < n
    · obtain ⟨b, off, a0, a1, a2, a3, rfl, x0, x1, x2, x3⟩ := HA.out i hlt
      have hbw : b < w.heap.size := World.block_lt_of_cell? w _ x0
      have hold : ∀ (o : Nat) (v : Value), w.cell? ⟨b, o, none⟩ = some v → wr.cell? ⟨b, o, none⟩ = some v := fun o v hv => HX.out.1.cell (HPO.out b hbw) (by rw [HGW.out]; exact (HB1.out.cell (p := ⟨b, o, none⟩) hbw).trans hv)
      have s1 := hold _ _ x0
      have s2 := hold _ _ x1
      have s3 := hold _ _ x2
      have s4 := hold _ _ x3
      have HD := hid (does_strict HX.out.1 HX.out.2.1 HG3.out (by omega) a0 a1 a2 a3)
      rw [HX.out.2.2.2.2] at HD
      have gi1 : (i : Int) < (n : Int) := by omega
      have gi0 : (0 : Int) ≤ (i : Int) := by omega
      clear hold x0 x1 x2 x3 hbw
      go_wp2_with fail
      refine HD.out.mono ?_
      rintro e w4 ⟨rfl, L4, E4, TL4, t4, hT4, hD4, hb4⟩
      have hn4 : t'.n ≤ 1000000 := by have := HX.out.2.1.num; omega
      have HX4 := hid (And.intro hT4 (And.intro (hD4.pok HX.out.2.1 (by omega)) (And.intro (hD4.tells HX.out.2.2.1 hn4 ⟨_, HX.out.2.1.rd⟩) (And.intro (hD4.str HX.out.2.2.1 hn4 HX.out.2.2.2.1) hb4))))
      have z9 := hT4.tal.cell 9
      simp only [talCells, List.getElem?_toArray, List.getElem?_cons_zero, List.getElem?_cons_succ] at z9
      rw [HX4.out.2.2.1.ok, HX4.out.2.2.2.2] at z9
      clear hT4 hD4 hb4 HD s1 s2 s3 s4 hn4
      go_wp2
      go_roundw
      case rel => exact ⟨i + 1, L4, E4, TL4, t4, by go_num, by omega, HX4.out⟩
      case measure => simp [intOf]; omega
    · have gi1 : ¬ (i : Int) < (n : Int) := by omega
      have z0 := HX.out.1.tal.cell 0
      simp only [talCells, List.getElem?_toArray, List.getElem?_cons_zero] at z0
      rw [HX.out.2.2.2.2] at z0
      have HH := hid (hist_any HX.out.1.en (fun u hu => by have := HX.out.2.1.rd u hu; omega) HX.out.2.1.mid.com_len)
      have hlen : (histP E').length ≤ 1000 := by
        have h1 := hist_len HX.out.2.1.mid
        have h2 := HX.out.2.2.2.1.cnt
        omega
      have HLEN := hid hlen
      clear hlen
      go_wp2_with fail
      refine HH.out.mono ?_
      rintro e w4 ⟨hv, rfl, hrow, hB4⟩
      obtain ⟨had, hcap, hvv⟩ := row_form hrow
      subst hvv
      have HX4 := hid (HX.out.1.below hB4)
      have hfine := hist_fine HX.out.2.2.1 HX.out.2.2.2.1
      have HLN := hid (lineL_ok had hcap (histP E') w4 HLEN.out (hist_at HX.out.2.2.1 HX.out.2.2.2.1 hrow) (fineTo_all (fun o ho => (hfine o ho).1)) (fineTo_all (fun o ho => (hfine o ho).2)))
      clear hrow hB4 hfine HH z0
      go_wp2_with fail
      refine HLN.out.mono ?_
      rintro e w6 ⟨d, hd, hB6, ⟨lv, out, rfl, hlp, hlrow⟩ | ⟨rfl, hlp⟩⟩
      case inr =>
        exfalso
        obtain ⟨out, h⟩ := line_there HX.out.2.2.1 HX.out.2.2.2.1 hd
        rw [hlp] at h
        cases h
      case inl =>
        have HLD := hid (lined_of hd hlp)
        have hol := line_len hlp
        have hol2 : out.length ≤ 1000 := Nat.le_trans hol HLEN.out
        have HX6 := hid (HX4.out.below hB6)
        obtain ⟨lad, lcap, hlv⟩ := row_form hlrow
        subst hlv
        have HLR := hid hlrow
        have hmm := @run_makeMap Tryz.prog
        obtain ⟨mb, hmb⟩ : ∃ mb, w6.heap.size = mb := ⟨_, rfl⟩
        obtain ⟨w7, hw7⟩ : ∃ w7, (w6.alloc (.map #[] 0)).alloc (.cells #[.map (some mb)] 69) = w7 := ⟨_, rfl⟩
        have hs1 : (w6.alloc (.map #[] 0)).heap.size = w6.heap.size + 1 := by simp
        have HS7 := hid (show StW w6 w7 mb (nowP E' (out.take 0)) by
          rw [← hw7, ← hmb]
          refine ⟨((IMap.made w6).mono (Nat.zero_le _)).same (Below.heap_alloc _ _ _ (by omega)) |>.congr (fun a => rfl), ?_, ((Below.refl _ w6).alloc (Nat.le_refl _) _).alloc (by omega) _⟩
          rw [show w6.heap.size + 1 = (w6.alloc (.map #[] 0)).heap.size from hs1.symm]
          exact (cell_of_row _ _ 0 _ _ (0, 0) (heap_alloc_new _ _)).trans rfl)
        have HMB := hid hmb.symm
        have HW7 := hid hw7
        clear hd hlp hB6 hlrow HLN HX4 hol hw7
        go_wp2
        rw [HW7.out]
        clear HW7 hs1 hmb
        go_loopw [57] (fun jv wr => ∃ j : Nat, jv = .int .i64 j ∧ j ≤ out.length ∧ Hid (StW w6 wr mb (nowP E' (out.take j)))) (fun jv _ => out.length - (intOf jv).toNat)
        case atStart => exact ⟨0, rfl, Nat.zero_le _, HS7⟩
        case round =>
          clear HS7
          obtain ⟨j, rfl, hj, HJ⟩ := hrel
          have HXW := hid (HX6.out.below (show Below w6.heap.size w6 wr by rw [← HMB.out]; exact HJ.out.2.2))
          by_cases hlt : j < out.length
          · obtain ⟨x, hx⟩ : ∃ x, out[j]? = some x := ⟨_, List.getElem?_eq_getElem hlt⟩
            obtain ⟨m, u, hxm, hu, hus⟩ := HLD.out.tx HX.out.2.2.1 (List.mem_of_getElem? hx)
            subst hxm
            obtain ⟨N, hN⟩ : ∃ N, E'.txs.length = N := ⟨_, rfl⟩
            have hmN : m < N := by rw [← hN]; exact (List.getElem?_eq_some_iff.1 hu).1
            have hN2 := HXW.out.en.le
            rw [hN] at hN2
            have HN := hid hN
            have hsplit : out = out.take j ++ ((m : Int) + 1) :: out.drop (j + 1) := by
              obtain ⟨h1, h2⟩ := List.getElem?_eq_some_iff.1 hx
              rw [← h2, List.getElem_cons_drop, List.take_append_drop]
            have HSP := hid hsplit
            have HXJ := hid hx
            rcases row_slice HLR.out with ⟨_, e0⟩ | ⟨g, c, e, hg, hc⟩
            · omega
            · injection e with e1 e2 e3
              subst e1 e3
              have cl : wr.cell? ⟨g, j, none⟩ = some (.int .i64 ((m : Int) + 1)) := (HJ.out.2.2.cell (p := ⟨g, j, none⟩) (by rw [HMB.out]; exact hg)).trans (hc _ _ (intsV_get hx))
              obtain ⟨ad0, cap0, hr0⟩ := row_form (HXW.out.tal.rows 0 (by omega))
              have z1 := HXW.out.tal.cell 1
              simp only [talCells, List.getElem?_toArray, List.getElem?_cons_zero, List.getElem?_cons_succ] at z1
              rw [HX.out.2.2.2.2, hr0, hN] at z1
              have HC := hid (committed_any HXW.out hu)
              rw [HX.out.2.2.2.2, show decide (u.state = 2) = true by simpa using hus] at HC
              have ga : decide (((m : Int) + 1) < 1) = false := decide_eq_false (by omega)
              have gb : decide (((m : Int) + 1) > (N : Int)) = false := decide_eq_false (by omega)
              have gs : IntKind.i64.wrap ((m : Int) + 1 - 1) = (m : Int) := by rw [show (m : Int) + 1 - 1 = (m : Int) by omega]; exact IntWalk.i64_in _ (by omega)
              have gj0 : (0 : Int) ≤ (j : Int) := by omega
              have gj1 : (j : Int) < (out.length : Int) := by omega
              have HU := hid (And.intro hu hus)
              clear hsplit hr0 hN hc hx hu hus
              go_wp2_with fail
              refine HC.out.mono ?_
              rintro e w8 ⟨rfl, q8, hw8⟩
              have HS8 := hid (show StW w6 w8 mb (nowP E' (out.take j)) by rw [hw8]; exact HJ.out.more (below_drewN (Below.refl _ wr) q8) HMB.out)
              have HX8 := hid (HX6.out.below (show Below w6.heap.size w6 w8 by rw [← HMB.out]; exact HS8.out.2.2))
              clear hw8 HC cl z1 HXW
              have hNp : 0 < E'.txs.length := by have := HN.out; omega
              obtain ⟨g3, c3, e3⟩ := HX8.out.rowIs (j := 3) (by omega) hNp
              obtain ⟨rv, rl, hrv, hrl⟩ := HX8.out.tal.getR (i := m) (by have := HN.out; omega)
              have y3 : w8.cell? ⟨g3, m, none⟩ = some rv := HX8.out.rowAt (j := 3) (by omega) e3 hrv
              obtain ⟨rad, rcap, hrvf⟩ := row_form (HX8.out.tal.rd m rv rl hrv hrl)
              subst hrvf
              have z4 := HX8.out.tal.cell 4
              simp only [talCells, List.getElem?_toArray, List.getElem?_cons_zero, List.getElem?_cons_succ] at z4
              rw [HX.out.2.2.2.2, e3, HN.out] at z4
              have hrl2 : rl.length ≤ 90 := Nat.le_trans (HX.out.2.1.tr rl (List.mem_of_getElem? hrl)) (by omega)
              have gm0 : (0 : Int) ≤ (m : Int) := by omega
              have gm1 : (m : Int) < (N : Int) := by omega
              have HRV := hid (And.intro hrv hrl)
              clear e3 hrv hrl hNp
              go_wp2
              go_loopw [88] (fun kv wr2 => ∃ k : Nat, kv = .int .i64 k ∧ k ≤ rl.length ∧ Hid (StW w6 wr2 mb (nowP E' (out.take j)))) (fun kv _ => rl.length - (intOf kv).toNat)
              case atStart => exact ⟨0, rfl, Nat.zero_le _, HS8⟩
              case round =>
                clear HS8 HX8 y3 z4
                obtain ⟨k, rfl, hk, HK⟩ := hrel
                have HX9 := hid (HX6.out.below (show Below w6.heap.size w6 wr by rw [← HMB.out]; exact HK.out.2.2))
                by_cases hlt2 : k < rl.length
                · obtain ⟨⟨key, v⟩, hkv⟩ : ∃ p, rl[k]? = some p := ⟨_, List.getElem?_eq_getElem hlt2⟩
                  have hread := HLD.out.read HX.out.2.2.1 HX.out.2.2.2.1 HSP.out HU.out.1 HU.out.2 HRV.out.2 (List.mem_of_getElem? hkv)
                  have hkr := (HX.out.2.2.1.rds m u rl HU.out.1 (by rw [HX.out.2.2.2.1.lev m u HU.out.1]; decide) HRV.out.2 _ (List.mem_of_getElem? hkv)).1
                  simp only at hread hkr
                  rcases row_slice (HX9.out.tal.rd m _ rl HRV.out.1 HRV.out.2) with ⟨_, e0⟩ | ⟨g5, c5, e5, hg5, hc5⟩
                  · omega
                  · injection e5 with e1 e2 e3
                    subst e1 e3
                    have hget := vrow_get rl k _ _ hkv
                    have c0 := hc5 _ _ hget.1
                    have c1 := hc5 _ _ hget.2
                    obtain ⟨w10, hw10⟩ : ∃ w10, wr.alloc (.cells #[.int .i64 key, .int .i64 v] 75) = w10 := ⟨_, rfl⟩
                    have hB10 : Below wr.heap.size wr w10 := by rw [← hw10]; exact (Below.refl _ wr).alloc (Nat.le_refl _) _
                    have HS10 := hid (HK.out.more hB10 HMB.out)
                    have d0 : w10.cell? ⟨wr.heap.size, 0, none⟩ = some (.int .i64 key) := by rw [← hw10]; exact (cell_of_row _ wr.heap.size 0 _ _ (0, 0) (heap_alloc_new wr _)).trans rfl
                    have d1 : w10.cell? ⟨wr.heap.size, 1, none⟩ = some (.int .i64 v) := by rw [← hw10]; exact (cell_of_row _ wr.heap.size 1 _ _ (0, 0) (heap_alloc_new wr _)).trans rfl
                    have HAT := hid (fun q => (HS10.out.more (below_drewN (Below.refl _ w10) q) HMB.out).at (k := key) (by unfold I64; omega))
                    rw [hread] at HAT
                    have HW10 := hid hw10
                    have gk0 : (0 : Int) ≤ (k : Int) := by omega
                    have gk1 : (k : Int) < (rl.length : Int) := by omega
                    clear hw10 hB10 hget hc5 hread hkv
                    go_wp2
                    rw [HW10.out]
                    go_quiet (first | (go_at_call 26; refine Calls.quiet_of_same (HAT.out _)))
                    go_wp2
                    go_roundw
                    case rel => exact ⟨k + 1, by go_num, by omega, HS10.out.more (below_drewN (Below.refl _ _) _) HMB.out⟩
                    case measure => simp [intOf]; omega
                · have gk1 : ¬ (k : Int) < (rl.length : Int) := by omega
                  have z0 := HX9.out.tal.cell 0
                  simp only [talCells, List.getElem?_toArray, List.getElem?_cons_zero] at z0
                  rw [HX.out.2.2.2.2] at z0
                  have HWR := hid (writesE_ok HX9.out.en HU.out.1)
                  go_wp2_with fail
                  refine HWR.out.mono ?_
                  rintro e w9 ⟨wv, rfl, hwrow, hB9⟩
                  have HS9 := hid (HK.out.more hB9 HMB.out)
                  obtain ⟨wad, wcap, hwv⟩ := row_form hwrow
                  subst hwv
                  obtain ⟨xl, hxl⟩ : ∃ xl, writesP u.vals = xl := ⟨_, rfl⟩
                  have hxn := writesP_len u.vals
                  have hmlt : mb < wr.heap.size := HK.out.1.lt
                  rw [hxl] at hwrow hxn
                  rw [hxl]
                  have HXL := hid hxl
                  have HWROW := hid hwrow
                  have HMLT := hid hmlt
                  clear hxl hwrow hB9 HWR z0 hmlt
                  go_wp2
                  go_loopw [15] (fun av wr4 => ∃ a : Nat, av = .int .i64 a ∧ a ≤ xl.length ∧ IMap wr4 mb (10 + a) (fun y => (putW (nowP E' (out.take j)) (xl.take a) y).map (Value.int .i64)) ∧ Hid (wr4.cell? ⟨mb + 1, 0, none⟩ = some (.map (some mb)) ∧ Below mb w6 wr4 ∧ w9.heap.size ≤ wr4.heap.size ∧ ∀ g, g < w9.heap.size → g ≠ mb → wr4.heap[g]? = w9.heap[g]?)) (fun av _ => xl.length - (intOf av).toNat)
                  case atStart => exact ⟨0, rfl, Nat.zero_le _, HS9.out.1, HS9.out.2.1, HS9.out.2.2, Nat.le_refl _, fun _ _ _ => rfl⟩
                  case round =>
                    obtain ⟨a, rfl, ha, hI, HA2⟩ := hrel
                    by_cases hlt3 : a < xl.length
                    · obtain ⟨⟨kx, vx⟩, hkx⟩ : ∃ p, xl[a]? = some p := ⟨xl[a], List.getElem?_eq_getElem hlt3⟩
                      rcases row_slice HWROW.out with ⟨_, e0⟩ | ⟨g6, c6, e6, hg6, hc6⟩
                      · omega
                      · have hgb : g6 ≠ mb := by
                          have h1 := (HWROW.out.lt g6 (by rw [e6]; rfl)).1
                          have h2 := HMLT.out
                          omega
                        injection e6 with e1 e2 e3
                        subst e1 e3
                        have hget := vrow_get xl a _ _ hkx
                        have hsk : ∀ W : World, (∀ g, g < w9.heap.size → g ≠ mb → W.heap[g]? = w9.heap[g]?) → W.cell? ⟨g6, a * 2, none⟩ = some (.int .i64 kx) ∧ W.cell? ⟨g6, a * 2 + 1, none⟩ = some (.int .i64 vx) := fun W hW => ⟨(World.cell?_of_block (w := w9) (a := ⟨g6, a * 2, none⟩) (hW g6 hg6 hgb)).trans (hc6 _ _ hget.1), (World.cell?_of_block (w := w9) (a := ⟨g6, a * 2 + 1, none⟩) (hW g6 hg6 hgb)).trans (hc6 _ _ hget.2)⟩
                        have hkr : 0 ≤ kx ∧ kx < 10 := writesP_key (V := u.vals) (p := (kx, vx)) (by rw [HXL.out]; exact List.mem_of_getElem? hkx)
                        have hbl : mb + 1 < wr.heap.size := World.block_lt_of_cell? wr _ HA2.out.1
                        obtain ⟨w11, hrun, hI11, hg11⟩ := (hI.same (w' := wr.drew) ((below_drewN (Below.refl _ wr) 1).block _ hI.lt)).store Tryz.underlying69 (by unfold maxLen; omega) (a := kx) (by unfold I64; omega) (.int .i64 vx)
                        have hblk : ∀ g, g < wr.heap.size → g ≠ mb → w11.heap[g]? = wr.heap[g]? := fun g h1 h2 => hg11.block g h1 (fun e => by injection e with e; exact h2 e)
                        have hb11 : Below mb w6 w11 := (HA2.out.2.1.drew).grown hg11 (by show mb ≤ wr.heap.size; omega) (fun k e => by injection e with e; omega)
                        have H11 := hid (And.intro (show IMap w11 mb (10 + (a + 1)) (fun y => (putW (nowP E' (out.take j)) (xl.take (a + 1)) y).map (Value.int .i64)) from hI11.congr (fun y => by
                          rw [putW_take hkx]
                          by_cases ey : y = kx
                          · subst ey; simp [updT]
                          · simp [updT, ey])) (And.intro ((World.cell?_of_block (w := wr) (a := ⟨mb + 1, 0, none⟩) (hblk (mb + 1) hbl (by omega))).trans HA2.out.1) (And.intro hb11 (And.intro (Nat.le_trans HA2.out.2.2.1 hg11.size) (fun g h1 h2 => (hblk g (Nat.lt_of_lt_of_le h1 HA2.out.2.2.1) h2).trans (HA2.out.2.2.2 g h1 h2))))))
                        obtain ⟨s1, s2⟩ := hsk wr HA2.out.2.2.2
                        have s0 := HA2.out.1
                        have dK : w11.cell? ⟨mb + 1, 0, none⟩ = some (.map (some mb)) ∧ w11.cell? ⟨g6, a * 2, none⟩ = some (.int .i64 kx) ∧ w11.cell? ⟨g6, a * 2 + 1, none⟩ = some (.int .i64 vx) := ⟨H11.out.2.1, hsk w11 H11.out.2.2.2.2⟩
                        have ga0 : (0 : Int) ≤ (a : Int) := by omega
                        have ga1 : (a : Int) < (xl.length : Int) := by omega
                        clear hI hI11 hg11 hblk hb11 hsk hget hc6 hkx
                        go_wp2
                        go_region_held3 (fun W => W.cell? ⟨mb + 1, 0, none⟩ = some (.map (some mb)) ∧ W.cell? ⟨g6, a * 2, none⟩ = some (.int .i64 kx) ∧ W.cell? ⟨g6, a * 2 + 1, none⟩ = some (.int .i64 vx))
                          (first | go_keep | exact dK)
                          (fail)
                        go_wp2
                        go_roundw
                        case rel => exact ⟨a + 1, by go_num, by omega, H11.out.1, H11.out.2⟩
                        case measure => simp [intOf]; omega
                    · obtain rfl : a = xl.length := by omega
                      have ga1 : ¬ (xl.length : Int) < (xl.length : Int) := by omega
                      rw [List.take_length] at hI
                      have HS12 := hid (show StW w6 wr mb (nowP E' (out.take (j + 1))) from ⟨(hI.upTo 10 (fun y hy => putW_keys (nowP_keys HX.out.2.1.mid _) (fun p hp => writesP_key (V := u.vals) (by rw [HXL.out]; exact hp)) y (fun e => hy (by rw [e]; rfl)))).congr (fun y => by
                        rw [List.take_add_one, HXJ.out, ← HXL.out, putW_all _ u.vals (HX.out.2.1.mid.reg.fair _ _ (cs_get HU.out.1)).vk]
                        simp only [Option.toList_some]
                        rw [nowP_snoc, show ((m : Int) + 1 - 1).toNat = m by omega, CE.v_some (cs_get HU.out.1)]
                        rfl), HA2.out.1, HA2.out.2.1⟩)
                      clear hI
                      go_wp2
                      go_roundw
                      case rel => exact ⟨j + 1, by go_num, by omega, HS12⟩
                      case measure => simp [intOf]; omega
          · obtain rfl : j = out.length := by omega
            have gj1 : ¬ (out.length : Int) < (out.length : Int) := by omega
            rw [List.take_length] at HJ
            have z0 := HXW.out.tal.cell 0
            simp only [talCells, List.getElem?_toArray, List.getElem?_cons_zero] at z0
            rw [HX.out.2.2.2.2] at z0
            have HAL := hid (allE_any HXW.out.en HX.out.2.1.mid.fits)
            go_wp2_with fail
            refine HAL.out.mono ?_
            rintro e w8 ⟨av, rfl, harow, hB8⟩
            have HS8 := hid (HJ.out.more hB8 HMB.out)
            have hlen8 := fun ty => HS8.out.1.lenEq (fun a ha => nowP_keys HX.out.2.1.mid _ a (fun e => ha (by rw [e]; rfl))) Tryz.underlying69 ty
            rw [keysOf_mapI, ← now_count HLD.out HX.out.2.2.1] at hlen8
            have hbx := HS8.out.2.1
            obtain ⟨al, hal⟩ : ∃ al, allE E' = al := ⟨_, rfl⟩
            have gal : al.length ≤ 10 := by rw [← hal]; exact all_len E'
            rw [hal] at harow hlen8
            have HALL := hid hal
            have HAR := hid harow
            obtain ⟨aad, acap, hav⟩ := row_form harow
            subst hav
            clear harow hB8 hal HAL z0 HXW HJ
            go_wp2
            go_loopw [17] (fun iv wr => ∃ i : Nat, iv = .int .i64 i ∧ i ≤ al.length ∧ Hid (Below w8.heap.size w8 wr)) (fun iv _ => al.length - (intOf iv).toNat)
            case atStart => exact ⟨0, rfl, Nat.zero_le _, Below.refl _ _⟩
            case round =>
              clear hlen8 hbx
              obtain ⟨i, rfl, hi, HBR⟩ := hrel
              have HSR := hid (HS8.out.more HBR.out HMB.out)
              by_cases hlt : i < al.length
              · obtain ⟨⟨k, x⟩, hkx⟩ : ∃ o, al[i]? = some o := ⟨al[i], List.getElem?_eq_getElem hlt⟩
                obtain ⟨hnow, hkr⟩ := now_each HLD.out HX.out.2.2.1 (k := k) (x := x) (by rw [HALL.out]; exact List.mem_of_getElem? hkx)
                rcases row_slice HAR.out with ⟨_, e0⟩ | ⟨g, c, e, hg, hc⟩
                · omega
                · injection e with e1 e2 e3
                  subst e1 e3
                  have hget := vrow_get al i _ _ hkx
                  have c0 := (HBR.out.cell (p := ⟨g, i * 2, none⟩) hg).trans (hc _ _ hget.1)
                  have c1 := (HBR.out.cell (p := ⟨g, i * 2 + 1, none⟩) hg).trans (hc _ _ hget.2)
                  have HAT := hid (fun q => (HSR.out.more (below_drewN (Below.refl _ wr) q) HMB.out).at (k := k) (by unfold I64; omega))
                  rw [hnow, Option.getD_some] at HAT
                  have gi0 : (0 : Int) ≤ (i : Int) := by omega
                  have gi1 : (i : Int) < (al.length : Int) := by omega
                  clear hget hc hkx hnow
                  go_wp2
                  go_quiet (first | (go_at_call 26; refine Calls.quiet_of_same (HAT.out _)))
                  go_wp2
                  go_roundw
                  case rel => exact ⟨i + 1, by go_num, by omega, below_drewN HBR.out _⟩
                  case measure => simp [intOf]; omega
              · have gi1 : ¬ (i : Int) < (al.length : Int) := by omega
                go_wp2
                go_ret
                refine ⟨rfl, ?_⟩
                have hk := (HX6.out.below (show Below w6.heap.size w6 wr by rw [← HMB.out]; exact HSR.out.2.2)).kept
                have hb := HB1.out
                have hs := hk.size
                rw [← HGW.out] at hb
                exact ⟨hk.os.trans hb.os, hk.tape.trans hb.tape, hk.output.trans hb.output, Nat.le_trans hb.size hs, fun g hg => (hk.block g (HPO.out g hg)).trans (hb.block g hg)⟩

end Go.Proofs.YtjefgmeejhakbaaGreatDoor

/- keep.EngineStrict answers true at every argument, and its argument reads as it read before: the row and its tied card. Condition: the library's variable errors.errorType starts as the program's text lays it (the card ties it). -/
namespace Go.Proofs.YtjefgmeejhakbaaGreatDoor
open Go.ChangeShapes Go.WideShapes Go.ChangeAt Go.RowKit

set_option maxRecDepth 100000 in
theorem estrict_contract (H : Type) (enc : TypeId × Value → H) (W : World) (base : Nat) (args : Array Value) (ds gs : List (DataW H)) (before : List MemPlace)
    (hval : ∀ (j : Nat) t v, Tryz.f5.params[j]? = some t → args[j]? = some v → Value.okWide Tryz.prog W .any base t v)
    (hW : DataW.Whole enc Tryz.prog Tryz.f5.params.toList Rows.engineStrictSpec.vars false W args.toList ds gs before) (hL : laidMetH Tryz.prog Rows.engineStrictRow.laid W) :
    Calls Tryz.prog 5 args W fun e W' => ∃ v, e = .returned v ∧ Rows.engineStrictSpec.post enc Tryz.prog Tryz.f5 false true false false W args v W' := by
  have hW' := hW
  obtain ⟨p, q, hA0, hV, rfl, hfz, hnd⟩ := hW
  have hA : DataW.TrodAll enc Tryz.prog W 0 (fun _ => true) true Tryz.f5.params.toList args.toList ds p := hA0
  rw [Tryz.params5] at hA hval
  obtain ⟨v0, d0, rfl, rfl, h0⟩ := trodAll_one hA
  obtain ⟨rfl, rfl⟩ := trodVars_none hV
  obtain ⟨ad, n, cap, rfl, hO⟩ := open_acts (hval 0 56 v0 rfl rfl) h0
  have hH := handle_of_laid hL
  clear hA0
  simp only [List.append_nil] at hW'
  have hlt : ∀ x ∈ p, x.block < W.heap.size := fun x hx => hW'.lt x hx
  have walk : Calls Tryz.prog 5 #[.slice ad n cap] W fun e w' => e = .returned (.bool true) ∧ Below W.heap.size W w' := by
    by_cases hn : 90 < n
    · refine (strict_long ad n cap W hn).mono ?_
      rintro e w' ⟨he, rfl⟩
      exact ⟨he, Below.refl _ _⟩
    · exact strict_walk ad n cap W (by omega) hO hH
  refine walk.mono fun e W' ⟨he, hB⟩ => ?_
  subst he
  have e1 : Rows.engineStrictSpec.fn H ([d0] ++ []) = { results := [.lit (.bool true)], args := [d0] } := by simp [Rows.engineStrictSpec]
  refine ⟨_, rfl, _, _, _, [], p, [], hW', ?_, ?_, ?_, hB.frame _, fun h => by cases h⟩
  · rw [e1]; exact trodAll_mk1 (shut_bool Tryz.underlying4 true)
  · rw [e1]; exact trodAll_mk1 (Below.trod tryd_laidOut (by kernel_rfl) (of_decide_eq_true (by kernel_rfl)) h0 hB hlt)
  · rw [e1]; rfl

/- The witness' world is written out: the settled one, the listed variable laid. -/
theorem estrict_laid_met (os : Os) : laidMetH Tryz.prog Rows.engineStrictRow.laid (({ World.holding Tryz.prog os ⟨#[], #[], []⟩ with heap := (World.holding Tryz.prog os ⟨#[], #[], []⟩).heap.modify 0 fun | .cells _ t frozen => .cells #[.iface 263 (.agg #[.pointer (some ⟨1, 33, none⟩)])] t frozen | o => o } : World).forCall (fun _ _ => 0) ⟨#[], #[.slice none 0 0], []⟩).memory :=
  laidMetH_of_parts (laidMet_nil _ _) (by kernel_rfl)
theorem estrict_reads (os : Os) {H : Type} (enc : TypeId × Value → H) : ∃ places, DataW.whole enc Tryz.prog (({ World.holding Tryz.prog os ⟨#[], #[], []⟩ with heap := (World.holding Tryz.prog os ⟨#[], #[], []⟩).heap.modify 0 fun | .cells _ t frozen => .cells #[.iface 263 (.agg #[.pointer (some ⟨1, 33, none⟩)])] t frozen | o => o } : World).forCall (fun _ _ => 0) ⟨#[], #[.slice none 0 0], []⟩).memory Tryz.f5.params.toList Rows.engineStrictSpec.vars false #[Value.slice none 0 0].toList 8 = some ([.nil], [], places) :=
  ⟨[], by kernel_rfl⟩

set_option maxRecDepth 100000 in
theorem estrict_lifted (os : Os) (started : os.Started) (H : Type) (enc : TypeId × Value → H) (F : Stop.Interp) :
    ReturnsInHanded {} Tryz.checked os 5 .any ((OpenSpec.ofChange Rows.engineStrictSpec).preRow enc Tryz.prog Tryz.f5 Rows.engineStrictRow.domain false Rows.engineStrictRow.laid) (((OpenSpec.ofChange Rows.engineStrictSpec).at F).post enc Tryz.prog Tryz.f5 false true false false) := by
  obtain ⟨places, hx⟩ := estrict_reads os enc
  refine returnsInHanded_of_row (C := Tryz.checked) (s := OpenSpec.ofChange Rows.engineStrictSpec) tryd_own started (by kernel_rfl) Tryz.func5
    (witness_row_at (enc := enc) (C := Tryz.checked) false { World.holding Tryz.prog os ⟨#[], #[], []⟩ with heap := (World.holding Tryz.prog os ⟨#[], #[], []⟩).heap.modify 0 fun | .cells _ t frozen => .cells #[.iface 263 (.agg #[.pointer (some ⟨1, 33, none⟩)])] t frozen | o => o } #[.slice none 0 0] rfl (by kernel_rfl) (by kernel_rfl) (by kernel_rfl)
      (OpenSpec.preRow_of_cond 8 hx (by kernel_rfl) (fun k hk => by cases hk) (by kernel_rfl) (estrict_laid_met os))) ?_
  intro W base args ds gs before hval hW _ _ _ hL _ _
  exact estrict_contract H enc W base args ds gs before hval hW hL

theorem engineStrict_said : Rows.EngineStrictSaid :=
  OpenClaim.holds_of_cond 5 Tryz.f5 rfl rfl rfl rfl rfl rfl rfl ⟨rfl, rfl, rfl, rfl, rfl⟩ rfl rfl rfl rfl rfl (by kernel_rfl) Tryz.func5 (by kernel_rfl)
    (of_decide_eq_true (by kernel_rfl)) (by unfold Func.isWrapper; first | (rw [if_pos (by decide +kernel)]; kernel_rfl) | (rw [if_neg (by decide +kernel)]; exact ⟨rfl, rfl⟩))
    (fun os started H enc _ F => by rw [OpenClaim.pre_eq_preRow]; exact estrict_lifted os started H enc F)

theorem estrict_plain (f : FuncId) (fn : Func) (hf : Tryz.pinned.checked.prog.funcNamed Rows.engineStrictRow.func = some f) (hfn : Tryz.pinned.checked.prog.funcs[f]? = some fn) :
    true = Tryz.pinned.checked.prog.looks [] ∧ ∀ (j : Nat) t, fn.params[j]? = some t → Tryz.pinned.checked.prog.wantsStandIn t = false := by
  obtain rfl : f = 5 := Option.some.inj ((show Tryz.prog.funcNamed Rows.engineStrictRow.func = some 5 by kernel_rfl).symm.trans hf) |>.symm
  obtain rfl : fn = Tryz.f5 := (Option.some.inj (Tryz.func5.symm.trans hfn)).symm
  refine ⟨by kernel_rfl, fun j t ht => ?_⟩
  rw [Tryz.params5] at ht
  have hm := Array.mem_of_getElem? ht
  have h2 : t = 56 := by simpa using hm
  rw [h2]
  exact (show Tryz.prog.wantsStandIn 56 = false by kernel_rfl)

theorem engineStrict_holds : Rows.EngineStrictCardSaid :=
  Claim7.holds_tied_plain_at .later [] _ _ _ _ engineStrict_said (fun _ h => by cases h) (by kernel_rfl) (fun _ h => by cases h) engineStrict_row_tie rfl ⟨rfl, rfl⟩ (by kernel_rfl) rfl estrict_plain (by kernel_rfl)

end Go.Proofs.YtjefgmeejhakbaaGreatDoor
