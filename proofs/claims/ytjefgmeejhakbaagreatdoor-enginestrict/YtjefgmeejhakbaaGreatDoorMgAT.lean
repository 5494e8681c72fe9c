/- KtActs SrStep SrDoes SrHist: put together for a claim. -/
import Derived.Test.YtjefgmeejhakbaaGreatDoorMgAS
import Derived.Test.YtjefgmeejhakbaaGreatDoorMgAZ
import Derived.Test.YtjefgmeejhakbaaGreatDoorMgAD
import Derived.Test.YtjefgmeejhakbaaGreatDoorMgAP
/- Acts, and numbers, that came in. -/
namespace Go.Proofs.YtjefgmeejhakbaaGreatDoor
open Go.RowKit

def ActsAt (W : World) (ad : Option Addr) (n : Nat) : Prop := ∀ i, i < n → ∃ (b off : Nat) (a0 a1 a2 a3 : Int), ad = some ⟨b, off, none⟩ ∧ W.cell? ⟨b, off + i * 4, none⟩ = some (.int .i64 a0) ∧ W.cell? ⟨b, off + i * 4 + 1, none⟩ = some (.int .i64 a1) ∧ W.cell? ⟨b, off + i * 4 + 2, none⟩ = some (.int .i64 a2) ∧ W.cell? ⟨b, off + i * 4 + 3, none⟩ = some (.int .i64 a3)
def IntsAt (W : World) (ad : Option Addr) (n : Nat) : Prop := ∀ i, i < n → ∃ (b off : Nat) (x : Int), ad = some ⟨b, off, none⟩ ∧ W.cell? ⟨b, off + i, none⟩ = some (.int .i64 x)

end Go.Proofs.YtjefgmeejhakbaaGreatDoor

/- Plain: each step of strict ones keeps that all that must be ahead is noted. -/
namespace Go.Proofs.YtjefgmeejhakbaaGreatDoor

theorem StrB.le {x : Nat → Prop} {R : Nat → List Int} {N N' : Nat} {E : Eng} (h : StrB x R N E) (hN : N ≤ N') : StrB x R N' E := ⟨Nat.le_trans h.cnt hN, h.lev, h.sl, h.full, h.btw, h.bae, h.ovr, h.rds, h.tal⟩

section
variable {i j N : Nat} {R : Nat → List Int} {E E' E2 : Eng} {t t' : Tx} {Q : Nat → Prop} {why : Int} {x : Nat → Prop}
theorem own1 (h : StrB x R N E) (hL : Later E.ce E'.ce) (hC : Com 0 (fun _ => none) E.ce) (hC' : Com 0 (fun _ => none) E'.ce) (ht : E.txs[i]? = some t) (h3 : t.state ≠ 3) (e1 : t'.level = t.level) (e2 : t'.start = t.start) (e3 : t'.seen = t.seen) (e4 : t'.reads = t.reads) (hw : liveB t'.state = true ∨ t'.bae = E.txs.length) : Own1 R 0 i E E' t t' := by
  have hi := (List.getElem?_eq_some_iff.1 ht).1
  refine ⟨by rw [e4]; exact Nat.le_refl _, e1, e2, by rw [e3]; exact h.sl i t ht, fun m hm => ?_, fun hl => ?_, fun p hp => ?_, fun _ a ha => by rw [e4]; exact h.tal i t ht h3 a ha⟩
  · unfold wasOverB
    rcases hw with hw | hw
    · rw [hw]; rfl
    · rw [hw, decide_eq_false (by omega), Bool.and_false]
  · rcases hw with hw | hw
    · rw [hw] at hl; cases hl
    · rw [hw]; omega
  · rw [e4] at hp
    obtain ⟨h1, h2, h4⟩ := h.rds i t ht p hp
    rw [e2, e3, from_later hL hC hC' (show t.start ≤ E.ce.last from (hC.start i _ (cs_get ht)).2)]
    exact ⟨h1, h2, h4⟩
theorem gone_txs (ht : E.txs[i]? = some t) : (overE (loseE E i why) i 3).txs = (E.txs.map (freeOf ((i : Int) + 1))).set i { freeOf ((i : Int) + 1) { t with why := why } with reads := [], state := 3, bae := E.txs.length } := by
  have hi := (List.getElem?_eq_some_iff.1 ht).1
  have h2 : ({ E with txs := (E.txs.set i { t with why := why }).map (freeOf ((i : Int) + 1)) } : Eng).txs[i]? = some (freeOf ((i : Int) + 1) { t with why := why }) := by simp [hi]
  have h3 : loseE E i why = Eng.setTx { E with txs := (E.txs.set i { t with why := why }).map (freeOf ((i : Int) + 1)) } i { freeOf ((i : Int) + 1) { t with why := why } with reads := [] } := by
    unfold loseE
    rw [ht]
    exact Eng.upd_some h2 _
  have h4 : (loseE E i why).txs[i]? = some { freeOf ((i : Int) + 1) { t with why := why } with reads := [] } := by rw [h3]; exact setTx_get h2
  have h5 : (loseE E i why).txs.length = E.txs.length := by rw [h3]; simp [Eng.setTx]
  unfold overE
  rw [Eng.upd_some h4, h5]
  show (loseE E i why).txs.set i _ = _
  rw [h3]
  simp [Eng.setTx, List.map_set]
theorem StrB.lose (h : StrB (· = i) R N E) (hC : Com 0 (fun _ => none) E.ce) (ht : E.txs[i]? = some t) (hl : liveB t.state = true) : StrB noQ R N (overE (loseE E i why) i 3) := by
  have hi := (List.getElem?_eq_some_iff.1 ht).1
  have htx := gone_txs (why := why) ht
  have hne : ∀ k, k ≠ i → (overE (loseE E i why) i 3).txs[k]? = (E.txs[k]?).map (freeOf ((i : Int) + 1)) := fun k hk => by rw [htx, List.getElem?_set_ne (fun e => hk e.symm), List.getElem?_map]
  have hii : (overE (loseE E i why) i 3).txs[i]? = some { freeOf ((i : Int) + 1) { t with why := why } with reads := [], state := 3, bae := E.txs.length } := by rw [htx, List.getElem?_set_self (by simpa using hi)]
  have hwr : (overE (loseE E i why) i 3).wr = E.wr := by
    obtain ⟨u, hu, e⟩ := lose_get (why := why) ht
    have := congrArg CE.wr (ce_over hu 3)
    rw [ce_lose] at this
    exact this
  have hT : Turn i E (overE (loseE E i why) i 3) := ⟨by rw [htx]; simp, fun k t' hk ht' => by
      rw [hne k hk] at ht'
      obtain ⟨t0, h0, rfl⟩ := Option.map_eq_some_iff.1 ht'
      exact ⟨t0, fun a => t0.ahead a && a != (i : Int) + 1, fun a => t0.behind a && a != (i : Int) + 1, h0, rfl, fun a ha => by simp [ha], fun a ha => by simp [ha]⟩, fun c k _ => by rw [hwr]⟩
  have h1 := h.turn (d := 0) (R' := R) hT (later_gone ht hl why) hC (by
    obtain ⟨u, hu, e⟩ := lose_get (why := why) ht
    rw [ce_over hu, e, ce_lose]
    exact hC.set (t' := { cor t with state := 3 }) (cs_get ht) hl (by show (3 : Int) ≠ 2; omega) rfl rfl _ (fun _ _ _ _ h3 => (h3 rfl).elim)) ht hii ⟨Nat.zero_le _, rfl, rfl, h.sl i t ht, fun m hm => by
    show (!liveB 3 && decide ((E.txs.length : Int) < (m : Int) + 1)) = false
    rw [decide_eq_false (by omega), Bool.and_false], fun _ => by show (i : Int) < (E.txs.length : Int); omega, fun p hp => (by cases hp), fun h3 => absurd rfl h3⟩ (fun _ _ => rfl)
  refine h1.whole (fun m x u a _ hx _ hN => ?_) (fun k x u a _ _ hu hN => ?_) (fun k x hx hs hb => ?_)
  · rw [hii] at hx
    cases hx
    exact (hN.1 rfl).elim
  · rw [hii] at hu
    cases hu
    exact (hN.2.1 rfl).elim
  · by_cases e : k = i
    · subst e
      rw [hii] at hx
      cases hx
      cases hs
    · rw [hne k e] at hx
      obtain ⟨x0, h0, rfl⟩ := Option.map_eq_some_iff.1 hx
      obtain ⟨⟨a, ha⟩, b, hb⟩ := hb
      simp only [freeOf, Bool.and_eq_true, bne_iff_ne, ne_eq] at ha hb
      exact h.btw k x0 e h0 hs ⟨⟨a, ha.1, fun m hm => by rw [hm]; exact ha.2⟩, b, hb.1, fun m hm => by rw [hm]; exact hb.2⟩
theorem StrB.commit (h : StrB noQ R N E) (hM : Mid 0 (fun _ => none) E.ce Q) (hq : ¬ Q i) (ht : E.txs[i]? = some t) (hl : liveB t.state = true) (hb : ¬ Between t.ahead t.behind) : StrB noQ R N (overE { (installE E i) with com := E.com ++ [i] } i 2) := by
  have hi := (List.getElem?_eq_some_iff.1 ht).1
  have h3 : t.state ≠ 3 := by rcases live_iff.1 hl with e | e <;> omega
  have ht0 : ({ (installE E i) with com := E.com ++ [i] } : Eng).txs[i]? = some t := by show (installE E i).txs[i]? = _; rw [inst_txs]; exact ht
  have htx : (overE { (installE E i) with com := E.com ++ [i] } i 2).txs = E.txs.set i { t with state := 2, bae := E.txs.length } := by
    unfold overE
    rw [Eng.upd_some ht0]
    show (installE E i).txs.set i { t with state := 2, bae := (installE E i).txs.length } = _
    rw [inst_txs]
  have hii : (overE { (installE E i) with com := E.com ++ [i] } i 2).txs[i]? = some { t with state := 2, bae := E.txs.length } := by rw [htx, List.getElem?_set_self hi]
  have hw0 : (overE { (installE E i) with com := E.com ++ [i] } i 2).wr = (installE E i).wr := by
    unfold overE
    rw [Eng.upd_some ht0]
    rfl
  have hwr : ∀ (c : Int) (k : Nat), k ≠ i → ((overE { (installE E i) with com := E.com ++ [i] } i 2).wr c = some ((k : Int) + 1) ↔ E.wr c = some ((k : Int) + 1)) := fun c k hk => by
    rw [hw0]
    unfold installE
    rw [ht]
    simp only
    split
    · rfl
    · show updT E.wr (E.last + 1) (some ((i : Int) + 1)) c = _ ↔ _
      by_cases e : c = E.last + 1
      · subst e
        rw [updT_same]
        constructor
        · intro h5; injection h5 with h5; omega
        · intro h5
          have := (hM.com.wr_le (C := E.ce) (c := E.last + 1) h5).2
          have e : E.ce.last = E.last := rfl
          omega
      · rw [updT_other _ _ e]
  have hT : Turn i E (overE { (installE E i) with com := E.com ++ [i] } i 2) := ⟨by rw [htx]; simp, fun k u hk hu => by
    rw [htx, List.getElem?_set_ne (fun e => hk e.symm)] at hu
    exact ⟨u, u.ahead, u.behind, hu, rfl, fun _ _ => rfl, fun _ _ => rfl⟩, hwr⟩
  have hL := later_commit ht hl
  have hC' := (hM.commitE (i := i) hq ht hl).1.com
  refine h.step (d := 0) (R' := R) hT (Mono.set ht htx rfl rfl) hL hM.com hC' ht hl (fun c => hM.open_wr ht hl c) hii (own1 h hL hM.com hC' ht h3 rfl rfl rfl rfl (.inr rfl)) (fun _ _ => rfl) (fun k u hu hs => ?_) (fun m u a _ _ hN hs => ?_) (fun k u a _ _ hN hv => ?_)
  · by_cases e : k = i
    · subst e
      rw [hii] at hu
      cases hu
      exact hb
    · rw [htx, List.getElem?_set_ne (fun h => e h.symm)] at hu
      exact h.bt k u hu hs
  · have := hN.2.2.1
    rw [show ({ t with state := 2, bae := (E.txs.length : Int) } : Tx).seen = t.seen from rfl, hs] at this
    cases this
  · exact (hN.2.2.2.2.1 hv).elim
theorem StrB.same (h : StrB noQ R N E) (hL : Later E.ce E'.ce) (hC : Com 0 (fun _ => none) E.ce) (hC' : Com 0 (fun _ => none) E'.ce) (ht : E.txs[i]? = some t) (hl : liveB t.state = true) (hw : ∀ c, E.wr c ≠ some ((i : Int) + 1)) (htx : E'.txs = E.txs.set i t') (hwr : E'.wr = E.wr) (e1 : t'.level = t.level) (e2 : t'.start = t.start) (e3 : t'.seen = t.seen) (e4 : t'.reads = t.reads) (e5 : t'.vals = t.vals) (e6 : t'.ahead = t.ahead) (e7 : t'.behind = t.behind) (hl' : liveB t'.state = true) : StrB noQ R N E' := by
  have hi := (List.getElem?_eq_some_iff.1 ht).1
  have h3 : t.state ≠ 3 := by rcases live_iff.1 hl with e | e <;> omega
  have hii : E'.txs[i]? = some t' := by rw [htx, List.getElem?_set_self hi]
  refine h.step (d := 0) (R' := R) (Turn.set htx hwr) (Mono.set ht htx e6 e7) hL hC hC' ht hl hw hii (own1 h hL hC hC' ht h3 e1 e2 e3 e4 (.inl hl')) (fun _ _ => rfl) (fun k u hu hs => ?_) (fun m u a _ _ hN hs => ?_) (fun k u a _ _ hN hv => ?_)
  · by_cases e : k = i
    · subst e
      rw [hii] at hu
      cases hu
      rcases live_iff.1 hl' with e | e <;> omega
    · rw [htx, List.getElem?_set_ne (fun h => e h.symm)] at hu
      exact h.bt k u hu hs
  · have := hN.2.2.1
    rw [e3, hs] at this
    cases this
  · exact (hN.2.2.2.2.1 (by rw [e5]; exact hv)).elim
theorem StrB.put (h : StrB noQ R N E) (hC : Com 0 (fun _ => none) E.ce) (ht : E.txs[i]? = some t) (hl : liveB t.state = true) (hwk : 0 ≤ t.wk ∧ t.wk < 10) (hw : ∀ c, E.wr c ≠ some ((i : Int) + 1)) (hp : putE E i = (why, E2)) : (why = 0 → StrB noQ R N E2) ∧ StrB (· = i) R N E2 ∧ Com 0 (fun _ => none) E2.ce := by
  have hi := (List.getElem?_eq_some_iff.1 ht).1
  have h3 : t.state ≠ 3 := by rcases live_iff.1 hl with e | e <;> omega
  have h2 : t.state ≠ 2 := by rcases live_iff.1 hl with e | e <;> omega
  have hcp := ce_put ht hp
  unfold putE at hp
  rw [ht] at hp
  simp only at hp
  split at hp
  · injection hp with h1 h2
    subst h2
    exact ⟨fun e => by omega, h.weak i, hC⟩
  · rename_i hnn
    rw [if_pos (h.lev i t ht)] at hp
    obtain ⟨E1, hE1⟩ : ∃ E1, E.setTx i { t with vals := updT t.vals t.wk (some t.wv) } = E1 := ⟨_, rfl⟩
    rw [hE1] at hp
    rcases hb : behindP E1 i t.wk with ⟨b, E3⟩
    rw [hb] at hp
    have e32 : E3 = E2 := by cases b <;> simp only [Prod.mk.injEq] at hp <;> exact hp.2
    subst e32
    have h1i : E1.txs[i]? = some { t with vals := updT t.vals t.wk (some t.wv) } := by rw [← hE1]; exact setTx_get ht
    have h1o : ∀ k, k ≠ i → E1.txs[k]? = E.txs[k]? := fun k hk => by rw [← hE1]; exact setTx_get_ne (fun e => hk e.symm)
    have h1x : E1.txs = E.txs.set i { t with vals := updT t.vals t.wk (some t.wv) } := by rw [← hE1]; rfl
    have h1w : E1.wr = E.wr := by rw [← hE1]; rfl
    obtain ⟨g, k0⟩ := all_str i _ _ _ _ hb (fun j hj => by
      have := (List.mem_filter.1 hj).2
      split at this
      · simp only [hasReadB, Bool.and_eq_true, decide_eq_true_eq] at this
        exact this.2.1
      · cases this)
    have hT : Turn i E E3 := (Turn.set h1x h1w).trans g.turn
    have hm : Mono E E3 := (Mono.set ht h1x rfl rfl).trans g.mono
    obtain ⟨A, B, ht2, _⟩ := g.all i _ h1i
    have hce : E3.ce = { E.ce with cs := E.ce.cs.set i { cor t with vals := updT t.vals t.wk (some t.wv) } } := by
      rcases hcp with ⟨_, _, hc1, hc2⟩ | ⟨_, _, he⟩
      · exact (hnn ⟨hc1, hc2⟩).elim
      · exact he
    have hC2 : Com 0 (fun _ => none) E3.ce := by
      rw [hce]
      exact hC.put (t' := { cor t with vals := updT t.vals t.wk (some t.wv) }) (k0 := t.wk) (x0 := t.wv) (cs_get ht) hl hl rfl rfl hwk rfl E.ce.T hnn
    have hL : Later E.ce E3.ce := Later.set (t' := { cor t with vals := updT t.vals t.wk (some t.wv) }) (cs_get ht) hl rfl rfl (by rw [hce]) (by rw [hce])
    have ho : Own1 R 0 i E E3 t { t with vals := updT t.vals t.wk (some t.wv), ahead := A, behind := B } := own1 h hL hC hC2 ht h3 rfl rfl rfl rfl (.inl hl)
    refine ⟨fun e0 => ?_, (h.weak i).turn (d := 0) hT hL hC hC2 ht ht2 ho (fun _ _ => rfl), hC2⟩
    have hbt : b = true := by
      cases b with
      | true => rfl
      | false => simp only [Prod.mk.injEq] at hp; omega
    have hB1 : BT E1 := fun k u hu hs => by
      by_cases e : k = i
      · subst e
        rw [h1i] at hu
        cases hu
        exact (h2 hs).elim
      · rw [h1o k e] at hu
        exact h.bt k u hu hs
    refine h.step (d := 0) (R' := R) hT hm hL hC hC2 ht hl hw ht2 ho (fun _ _ => rfl) ((k0 hbt).1 hB1) (fun m u a _ _ hN hs => ?_) (fun k u a hk hu hN hv => ?_)
    · have := hN.2.2.1
      rw [show ({ t with vals := updT t.vals t.wk (some t.wv), ahead := A, behind := B } : Tx).seen = t.seen from rfl, hs] at this
      cases this
    · obtain ⟨n1, n2, n3, n4, n5, n6, n7⟩ := hN
      have ea : a = t.wk := Classical.byContradiction fun hne => n5 (by
        show updT t.vals t.wk (some t.wv) a = none
        rw [updT_other _ _ hne]
        exact hv)
      subst ea
      obtain ⟨u0, A0, B0, hu0, rfl, _⟩ := g.inv hu
      refine (k0 hbt).2 k (List.mem_filter.2 ⟨List.mem_range.2 (List.getElem?_eq_some_iff.1 hu0).1, ?_⟩)
      rw [hu0]
      have hlv := h.lev k u0 (by rw [← h1o k hk]; exact hu0)
      show hasReadB t.wk i k u0 = true
      unfold hasReadB
      have n3' : u0.seen[t.wk.toNat]?.getD false = true := n3
      have n7' : wasOverB u0 ((i : Int) + 1) = false := n7
      have n1' : u0.state ≠ 3 := n1
      rw [n3', n7', hlv]
      simp [hk, n1']
theorem goes_str (R : Nat → List Int) (N : Nat) : Goes 0 (fun _ => none) (fun E _ => StrB noQ R N E) := by
  have key : ∀ (E : Eng) (Q : Nat → Prop) (j : Nat) (why : Int) (E2 : Eng), Mid 0 (fun _ => none) E.ce Q → StrB noQ R N E → Q j → putE (wakeE E j) j = (why, E2) → (why = 0 → StrB noQ R N E2) ∧ StrB (· = j) R N E2 ∧ Com 0 (fun _ => none) E2.ce := fun E Q j why E2 hM hP hq hp => by
    obtain ⟨u, hu, h1, _⟩ := hM.loc.pend j hq
    obtain ⟨t, ht, rfl⟩ := cs_of hu
    have hl : liveB t.state = true := live_iff.2 (.inr h1)
    have hw : wakeE E j = E.setTx j { t with state := 0 } := by unfold wakeE; exact Eng.upd_some ht _
    have hwc : (wakeE E j).ce = { E.ce with cs := E.ce.cs.set j { cor t with state := 0 } } := by unfold wakeE; rw [ce_upd ht]; rfl
    have hC' : Com 0 (fun _ => none) (wakeE E j).ce := by rw [hwc]; exact (hM.wake hq hu).com
    have hL : Later E.ce (wakeE E j).ce := Later.set (t' := { cor t with state := 0 }) (cs_get ht) hl rfl rfl (by rw [hwc]) (by rw [hwc])
    have hop := fun c => hM.open_wr ht hl c
    have h2 : StrB noQ R N (wakeE E j) := hP.same (t' := { t with state := 0 }) hL hM.com hC' ht hl hop (by rw [hw]; rfl) (by rw [hw]; rfl) rfl rfl rfl rfl rfl rfl rfl rfl
    exact h2.put (t := { t with state := 0 }) hC' (by rw [hw]; exact setTx_get ht) rfl (hM.reg.fair j _ hu).wan.1 (by rw [hw]; exact hop) hp
  refine ⟨fun E Q j E2 hM hP hq hp => (key E Q j 0 E2 hM hP hq hp).1 rfl, fun E Q j why E2 hM hP hq hp _ => ?_⟩
  obtain ⟨hM2, _, _, ⟨u, hu, hs⟩, _⟩ := hM.putE hq hp
  have hk := key E Q j why E2 hM hP hq hp
  exact hk.2.1.lose hk.2.2 hu (live_iff.2 (.inl hs))
end

end Go.Proofs.YtjefgmeejhakbaaGreatDoor

/- Plain: each act of strict ones keeps that all that must be ahead is noted. -/
namespace Go.Proofs.YtjefgmeejhakbaaGreatDoor

theorem newer_mem {E : Eng} {Q : Nat → Prop} (hM : Mid 0 (fun _ => none) E.ce Q) {a u c x : Int} (ha : 0 ≤ a ∧ a < 10) (hu : E.ce.Sees u) (hc : (c, x) ∈ full0 E.ce a) (hlt : u < c) : c ∈ newerP E a u := by
  obtain ⟨d, h1, h3, h4⟩ := hM.com.kss a.toNat (by omega)
  have ha' : ((a.toNat : Nat) : Int) = a := by omega
  rw [ha'] at h1 h3 h4
  have hsort : (full0 E.ce a).Pairwise (fun p q => p.1 < q.1) := by
    unfold full0 full
    simp only [List.nil_append]
    exact fullFrom_sorted _ _ _ _
  have hmem : (c, x) ∈ (full0 E.ce a).drop d := by
    rcases h4 u hu with e | ⟨q, hq, hqu⟩
    · subst e
      rw [List.drop_zero]
      exact hc
    · have hc2 := hc
      rw [← List.take_append_drop d (full0 E.ce a)] at hc2 hsort
      rcases List.mem_append.1 hc2 with h5 | h5
      · have := (List.pairwise_append.1 hsort).2.2 _ h5 q hq
        simp only at this
        omega
      · exact h5
  unfold newerP
  rw [show E.ks[a.toNat]? = some ((full0 E.ce a).drop d) from h3]
  simp only [Option.getD_some]
  obtain ⟨l, hl⟩ : ∃ l, (full0 E.ce a).drop d = l := ⟨_, rfl⟩
  have hs2 : l.Pairwise (fun p q => p.1 < q.1) := by rw [← hl]; exact hsort.sublist (List.drop_sublist d _)
  rw [hl] at hmem ⊢
  obtain ⟨n, hn, e⟩ := List.mem_iff_getElem.1 hmem
  have key : ∀ m, m ≤ l.length → 0 ≤ latN l u m → ∃ p, l[(latN l u m).toNat]? = some p ∧ p.1 ≤ u := by
    intro m
    induction m with
    | zero => intro _ h; simp [latN] at h
    | succ m ih =>
      intro hm h
      have hget : l[m]? = some (l[m]'(by omega)) := List.getElem?_eq_getElem _
      by_cases hc : (l[m]'(by omega)).1 ≤ u
      · simp only [latN, hget, Option.getD_some, if_pos hc]
        exact ⟨_, by rw [Int.toNat_natCast]; exact hget, hc⟩
      · simp only [latN, hget, Option.getD_some, if_neg hc] at h ⊢
        exact ih (by omega) h
  have hb := lat_bounds l u
  have hgt : lat l u < n := by
    refine Classical.byContradiction fun hn2 => ?_
    obtain ⟨p, hp, hpu⟩ := key l.length (Nat.le_refl _) (show 0 ≤ lat l u by omega)
    have hp' : l[(lat l u).toNat]? = some p := hp
    by_cases e2 : n = (lat l u).toNat
    · rw [← e2, List.getElem?_eq_getElem hn, e] at hp'
      injection hp' with hp'
      rw [← hp'] at hpu
      simp only at hpu
      omega
    · obtain ⟨h5, h6⟩ := List.getElem?_eq_some_iff.1 hp'
      have := List.pairwise_iff_getElem.1 hs2 n (lat l u).toNat hn h5 (by omega)
      rw [e, h6] at this
      simp only at this
      omega
  refine List.mem_map.2 ⟨(c, x), ?_, rfl⟩
  have : l[n]? = some (c, x) := by rw [List.getElem?_eq_getElem hn, e]
  refine List.mem_of_getElem? (i := n - (lat l u + 1).toNat) ?_
  rw [List.getElem?_drop, show (lat l u + 1).toNat + (n - (lat l u + 1).toNat) = n by omega]
  exact this

section
variable {i N : Nat} {R : Nat → List Int} {E E' E2 : Eng} {t u : Tx} {Q : Nat → Prop} {why key : Int}
def extR (R : Nat → List Int) (i : Nat) (key : Int) : Nat → List Int := fun k => if k = i then R i ++ [key] else R k
theorem aow_str {b : Bool} (h : aowP E i key = (b, E')) (ht : E.txs[i]? = some t) (h2 : t.state ≠ 2) (hv : t.vals key = none) (hlv : ∀ (k : Nat) (u : Tx), E.txs[k]? = some u → u.level = 2) (hw : ∀ (c : Int) (m : Nat), E.wr c = some ((m : Int) + 1) → m ≠ i) :
    Grow i E E' ∧ (b = true → (BT E → BT E') ∧ (∀ c ∈ newerP E key t.start, ∀ m : Nat, E.wr c = some ((m : Int) + 1) → Marked E' i m) ∧ ∀ (m : Nat) (u : Tx), E.txs[m]? = some u → writesB key u = true → Marked E' i m) := by
  unfold aowP at h
  rw [ht] at h
  simp only at h
  rcases hp : aheadTimes i (newerP E key t.start) E with ⟨b1, E1⟩
  rw [hp] at h
  obtain ⟨g, k⟩ := times_str i _ _ _ _ hp hw hlv
  cases b1 with
  | false =>
    cases h
    exact ⟨g, fun h => by cases h⟩
  | true =>
    simp only [Prod.mk.injEq] at h
    obtain ⟨rfl, rfl⟩ := h
    have hjs : ∀ j, j ∈ thoseP E1 (fun _ u => writesB key u) → j ≠ i ∧ ∀ t, E1.txs[j]? = some t → t.state ≠ 2 := fun j hj => by
      have h5 := (List.mem_filter.1 hj).2
      split at h5
      · rename_i v hv1
        simp only [writesB, Bool.and_eq_true] at h5
        refine ⟨fun e => ?_, fun t' ht' => ?_⟩
        · subst e
          obtain ⟨t0, A, B, h0, rfl, _⟩ := g.inv hv1
          rw [ht] at h0
          cases h0
          have := h5.1
          rw [show ({ t with ahead := A, behind := B } : Tx).vals key = t.vals key from rfl, hv] at this
          cases this
        · rw [hv1] at ht'
          cases ht'
          rcases live_iff.1 h5.2.2 with e | e <;> omega
      · cases h5
    obtain ⟨g2, k1, k2⟩ := each_str i _ E1 (fun j hj => (hjs j hj).1)
    refine ⟨g.trans g2, fun _ => ⟨fun hB => k2 (fun t' ht' => ?_) (fun j hj => (hjs j hj).2) ((k rfl).1 hB), fun c hc m hm => ((k rfl).2 c hc m hm).mono g2.mono, fun m u hu hwb => k1 m ?_⟩⟩
    · obtain ⟨t0, A, B, h0, rfl, _⟩ := g.inv ht'
      rw [ht] at h0
      cases h0
      exact h2
    · obtain ⟨A, B, h1, _⟩ := g.all m u hu
      refine List.mem_filter.2 ⟨List.mem_range.2 (List.getElem?_eq_some_iff.1 h1).1, ?_⟩
      rw [h1]
      exact hwb
theorem StrB.aow {b : Bool} (h : StrB noQ R N E) (hM : Mid 0 (fun _ => none) E.ce Q) (ht : E.txs[i]? = some t) (hs : t.state = 0) (hk : 0 ≤ key ∧ key < 10) (hv : t.vals key = none) (ha : aowP (noteE E i t key) i key = (b, E2)) : (b = true → StrB noQ (extR R i key) (N + 1) E2) ∧ StrB (· = i) R (N + 1) E2 := by
  have hl : liveB t.state = true := live_iff.2 (.inl hs)
  have hi := (List.getElem?_eq_some_iff.1 ht).1
  have hop := fun c => hM.open_wr ht hl c
  have hce0 : (noteE E i t key).ce = E.ce := ce_note ht
  have hlt := h.lev i t ht
  have hst := hM.com.start i _ (cs_get ht)
  have hsee : E.ce.Sees t.start := .inr ⟨i, _, cs_get ht, hl, (by show t.level ≠ 0; omega), Int.le_refl _⟩
  obtain ⟨f, hf⟩ : ∃ f, (E.wr (verP E key (seesP E t)).1.1).getD 0 = f := ⟨_, rfl⟩
  have hfrom : f = fromP E.ce key t.start := by
    rw [← hf]
    unfold seesP verP fromP
    rw [if_neg (by omega), hM.rd_full hk hsee]
    cases rdP t.start (full0 E.ce key) with
    | none =>
      simp only
      have : E.wr 0 = none := by
        cases h0 : E.wr 0 with
        | none => rfl
        | some n =>
          have := (hM.com.wr_le (C := E.ce) (c := 0) h0).1
          omega
      rw [this]
      rfl
    | some p => rfl
  obtain ⟨t1, ht1⟩ : ∃ t1, noteReadP t key f = t1 := ⟨_, rfl⟩
  have hn : noteE E i t key = E.setTx i t1 := by unfold noteE; rw [hf, ht1]
  obtain ⟨E1, hE1⟩ : ∃ E1, noteE E i t key = E1 := ⟨_, rfl⟩
  rw [hE1] at ha hce0
  have h1x : E1.txs = E.txs.set i t1 := by rw [← hE1, hn]; rfl
  have h1w : E1.wr = E.wr := by rw [← hE1, hn]; rfl
  have h1i : E1.txs[i]? = some t1 := by rw [h1x, List.getElem?_set_self hi]
  have h1o : ∀ k, k ≠ i → E1.txs[k]? = E.txs[k]? := fun k hk => by rw [h1x, List.getElem?_set_ne (fun e => hk e.symm)]
  have f1 : t1.level = t.level ∧ t1.start = t.start ∧ t1.state = t.state ∧ t1.vals = t.vals ∧ t1.ahead = t.ahead ∧ t1.behind = t.behind ∧ t1.reads = t.reads ++ [(key, f)] ∧ t1.seen = t.seen.set key.toNat true := by
    rw [← ht1]
    exact ⟨rfl, rfl, rfl, rfl, rfl, rfl, rfl, rfl⟩
  obtain ⟨fl, fs, fst, fv, fa, fb, fr, fe⟩ := f1
  obtain ⟨g, k0⟩ := aow_str ha h1i (by rw [fst]; omega) (by rw [fv]; exact hv) (fun k u hu => by
    by_cases e : k = i
    · subst e; rw [h1i] at hu; cases hu; rw [fl]; exact hlt
    · rw [h1o k e] at hu; exact h.lev k u hu) (fun c m hc e => by rw [h1w, e] at hc; exact hop c hc)
  have hT : Turn i E E2 := (Turn.set h1x h1w).trans g.turn
  have hm : Mono E E2 := (Mono.set ht h1x fa fb).trans g.mono
  obtain ⟨A, B, ht2, _⟩ := g.all i _ h1i
  have hce : E2.ce = E.ce := g.ce.trans hce0
  have hL : Later E.ce E2.ce := by rw [hce]; exact Later.refl _
  have hC2 : Com 0 (fun _ => none) E2.ce := by rw [hce]; exact hM.com
  have hsl := h.sl i t ht
  have hset : ∀ a : Nat, (t.seen.set key.toNat true)[a]?.getD false = if a = key.toNat then true else t.seen[a]?.getD false := fun a => by
    by_cases e : a = key.toNat
    · subst e
      rw [if_pos rfl, List.getElem?_set_self (by omega)]
      rfl
    · rw [if_neg e, List.getElem?_set_ne (fun h => e h.symm)]
  have ho : ∀ R', (∀ a ∈ R' i, a ∈ R i ∨ a = key) → Own1 R' 1 i E E2 t { t1 with ahead := A, behind := B } := fun R' hR' => by
    refine ⟨by show t1.reads.length ≤ _; rw [fr]; simp, fl, fs, by show t1.seen.length = 10; rw [fe]; simpa using hsl, fun m _ => ?_, fun hl2 => ?_, fun p hp => ?_, fun _ a ha => ?_⟩
    · show (!liveB t1.state && _) = false
      rw [fst, hl]
      rfl
    · have : liveB t1.state = false := hl2
      rw [fst, hl] at this
      cases this
    · have hp' : p ∈ t1.reads := hp
      show (0 ≤ p.1 ∧ p.1 < 10) ∧ p.2 = fromP E2.ce p.1 t1.start ∧ t1.seen[p.1.toNat]?.getD false = true
      rw [hce, fs, fe, hset]
      rw [fr] at hp'
      rcases List.mem_append.1 hp' with h5 | h5
      · obtain ⟨q1, q2, q3⟩ := h.rds i t ht p h5
        refine ⟨q1, q2, ?_⟩
        split
        · rfl
        · exact q3
      · rw [List.mem_singleton.1 h5]
        exact ⟨hk, hfrom, by simp⟩
    · show ∃ f, (a, f) ∈ t1.reads
      rw [fr]
      rcases hR' a ha with h5 | h5
      · obtain ⟨f', h6⟩ := h.tal i t ht (by omega) a h5
        exact ⟨f', List.mem_append_left _ h6⟩
      · exact ⟨f, List.mem_append_right _ (by rw [h5]; exact List.mem_singleton.2 rfl)⟩
  refine ⟨fun hb => ?_, (h.weak i).turn (d := 1) hT hL hM.com hC2 ht ht2 (ho R (fun a ha => .inl ha)) (fun _ _ => rfl)⟩
  have hB1 : BT E1 := fun k u hu hs2 => by
    by_cases e : k = i
    · subst e
      rw [h1i] at hu
      cases hu
      rw [fst] at hs2
      omega
    · rw [h1o k e] at hu
      exact h.bt k u hu hs2
  refine h.step (d := 1) (R' := extR R i key) hT hm hL hM.com hC2 ht hl hop ht2 (ho _ (fun a ha => ?_)) (fun k hk => by unfold extR; rw [if_neg hk]) ((k0 hb).1 hB1) (fun m u a hmi hu hN hsf => ?_) (fun k u a _ _ hN hv2 => ?_)
  · unfold extR at ha
    rw [if_pos rfl] at ha
    rcases List.mem_append.1 ha with h5 | h5
    · exact .inl h5
    · exact .inr (List.mem_singleton.1 h5)
  · obtain ⟨n1, n2, n3, n4, n5, n6, n7⟩ := hN
    have n3' : t1.seen[a.toNat]?.getD false = true := n3
    rw [fe, hset] at n3'
    have ea : a = key := by
      split at n3'
      · omega
      · rw [hsf] at n3'; cases n3'
    subst ea
    obtain ⟨u1, A1, B1, hu1, rfl, _⟩ := g.inv hu
    have hu0 : E.txs[m]? = some u1 := by rw [← h1o m hmi]; exact hu1
    have n5' : u1.vals a ≠ none := n5
    have n2' : u1.state ≠ 3 := n2
    have hfair := hM.reg.fair m _ (cs_get hu0)
    have hst01 : 0 ≤ u1.state ∧ u1.state ≤ 3 := hfair.sta
    cases hlu : liveB u1.state with
    | true => exact (k0 hb).2.2 m u1 hu1 (by
        unfold writesB
        rw [hlu, h.lev m u1 hu0]
        cases hx : u1.vals a with
        | none => exact absurd hx n5'
        | some y => rfl)
    | false =>
      have hs2 : u1.state = 2 := by
        have : ¬ (u1.state = 0 ∨ u1.state = 1) := fun hc => by rw [live_iff.2 hc] at hlu; cases hlu
        omega
      have hcw : m ∈ E.ce.cw := by
        refine List.mem_filter.2 ⟨(hM.com.coms m).2 ⟨_, cs_get hu0, hs2⟩, decide_eq_true ?_⟩
        rw [CE.v_some (cs_get hu0)]
        have hm2 : a ∈ keysOf u1.vals := (mem_keysOf (f := u1.vals) hfair.vk a).2 (by cases hx : u1.vals a with | none => exact absurd hx n5' | some y => rfl)
        intro e
        have : (keysOf u1.vals).map (fun k => (k, (u1.vals k).getD 0)) = [] := e
        rw [List.map_eq_nil_iff] at this
        rw [this] at hm2
        cases hm2
      obtain ⟨c, hc⟩ := hM.com.wr_of hcw
      have hcs : t.start < c := by
        have := n6 c (by rw [show E2.wr = E2.ce.wr from rfl, hce]; exact hc)
        have e : ({ t1 with ahead := A, behind := B } : Tx).start = t.start := fs
        omega
      obtain ⟨y, hy⟩ : ∃ y, u1.vals a = some y := by cases hx : u1.vals a with | none => exact absurd hx n5' | some y => exact ⟨y, rfl⟩
      have hful := hM.com.full_of (a := a) (x := y) hc (by rw [CE.v_some (cs_get hu0)]; exact hy)
      have hnm := newer_mem hM hk hsee hful hcs
      refine (k0 hb).2.1 c ?_ m (by rw [h1w]; exact hc)
      rw [fs]
      have hks : E1.ks = E.ks := congrArg CE.ks hce0
      unfold newerP at hnm ⊢
      rw [hks]
      exact hnm
  · have n5 : t1.vals a ≠ none := hN.2.2.2.2.1
    rw [fv] at n5
    exact (n5 hv2).elim
theorem str_read (h : StrB noQ R N E) (hM : Mid0 E) (ht : E.txs[i]? = some t) (hs : t.state = 0) (hk : 0 ≤ key ∧ key < 10) {Rr : (Int × Int) × Eng} (hR : readE 7 E i key = some Rr) :
    (∃ v, t.vals key = some v ∧ Rr.2 = E) ∨ (t.vals key = none ∧ Rr.1.2 = 13 ∧ StrB noQ R (N + 1) Rr.2) ∨ (t.vals key = none ∧ StrB noQ (extR R i key) (N + 1) Rr.2) := by
  have hkb : keyB key = true := by simp [keyB]; omega
  unfold readE at hR
  rw [ht] at hR
  simp only at hR
  cases hv : t.vals key with
  | some v =>
    rw [hv] at hR
    simp only [Option.some.injEq] at hR
    exact .inl ⟨v, rfl, by rw [← hR]⟩
  | none =>
    rw [hv] at hR
    simp only at hR
    rw [if_neg (by rw [hkb]; simp), if_pos (h.lev i t ht)] at hR
    rcases ha : aowP (noteE E i t key) i key with ⟨b, E2⟩
    rw [show aowP (E.setTx i (noteReadP t key ((E.wr (verP E key (seesP E t)).1.1).getD 0))) i key = (b, E2) from ha] at hR
    obtain ⟨k1, k2⟩ := h.aow hM ht hs hk hv ha
    cases b with
    | true =>
      simp only [Option.some.injEq] at hR
      exact .inr (.inr ⟨rfl, by rw [← hR]; exact k1 rfl⟩)
    | false =>
      have hce : E2.ce = E.ce := by
        have h6 := ce_aow (noteE E i t key) i key
        rw [ha] at h6
        exact h6.trans (ce_note ht)
      have hM2 : Mid0 E2 := by unfold Mid0; rw [hce]; exact hM
      obtain ⟨v, hv2, e⟩ : ∃ v, E2.txs[i]? = some v ∧ cor v = cor t := cs_of (by rw [hce]; exact cs_get ht)
      have hvs : v.state = 0 := by have := congrArg Cor.state e; exact this.trans hs
      have hvl : liveB v.state = true := live_iff.2 (.inl hvs)
      obtain ⟨E3, e1, _, e3, _⟩ := lose_ok (goes_str R (N + 1)) hM2 hv2 hvl (why := 13) (k2.lose hM2.com hv2 hvl)
      simp only at hR
      rw [e1] at hR
      simp only [Option.map_some, Option.some.injEq] at hR
      exact .inr (.inl ⟨rfl, by rw [← hR], by rw [← hR]; exact e3⟩)
theorem str_write (h : StrB noQ R N E) (hM : Mid0 E) (ht : E.txs[i]? = some t) (hs : t.state = 0) {val : Int} (hk : 0 ≤ key ∧ key < 10) (hv : -1099511627776 ≤ val ∧ val ≤ 1099511627776) {q : Int → Nat} (hq : Ranked E.T q) {Rr : (Bool × Int) × Eng} (hR : writeE 7 q E i key val = some Rr) : StrB noQ R N Rr.2 := by
  have hl : liveB t.state = true := live_iff.2 (.inl hs)
  have hop := fun c => hM.open_wr ht hl c
  have hC : ∀ T', Com 0 (fun _ => none) (wantE E i t key val T').ce := fun T' => by
    rw [want_ce]
    exact (hM.want (cs_get ht) hs hk hv).com.tab T'
  have hW : ∀ T', StrB noQ R N (wantE E i t key val T') := fun T' =>
    h.same (t' := { t with wk := key, wv := val }) (later_want ht hs key val T') hM.com (hC T') ht hl hop rfl rfl rfl rfl rfl rfl rfl rfl rfl hl
  obtain ⟨R', h1, h2, h3, _⟩ := write_ok (goes_str R N) hM ht hs hk hv hq
    (((hW E.T).weak i).lose (hC E.T) (want_get ht E.T) hl)
    (by
      have hL2 : Later (wantE E i t key val (updT E.T key (E.T key ++ [(i : Int) + 1]))).ce ((wantE E i t key val (updT E.T key (E.T key ++ [(i : Int) + 1]))).setTx i { t with wk := key, wv := val, state := 1 }).ce := by
        rw [ce_set]
        exact Later.set (t' := cor { t with wk := key, wv := val, state := 1 }) (cs_get (want_get (key := key) (val := val) ht _)) hl rfl rfl rfl rfl
      refine (hW (updT E.T key (E.T key ++ [(i : Int) + 1]))).same (t' := { t with wk := key, wv := val, state := 1 }) hL2 (hC _) ?_ (want_get ht _) hl hop rfl rfl rfl rfl rfl rfl rfl rfl rfl rfl
      rw [ce_set]
      exact (hC _).set (t' := cor { t with wk := key, wv := val, state := 1 }) (cs_get (want_get ht _)) hl (by show (1 : Int) ≠ 2; omega) rfl rfl _ (fun a c j hlv _ hva hc hvj hlt => (hC _).none_since (cs_get (want_get ht _)) hl a c j hlv hva hc hvj hlt))
    (fun T' E2 _ hp => ((hW T').put (hC T') (want_get ht T') hl hk hop hp).1 rfl)
    (fun T' why E2 hT' _ hp => by
      have hp2 := ((hW T').put (hC T') (want_get ht T') hl hk hop hp).2
      obtain ⟨h6, v, hv2, hvs⟩ := later_putOpen (want_get (key := key) (val := val) ht T') hs hp
      exact hp2.1.lose hp2.2 hv2 (live_iff.2 (.inl hvs)))
  rw [h1] at hR
  injection hR with hR
  subst hR
  exact h3
theorem str_commit (h : StrB noQ R N E) (hM : Mid0 E) (ht : E.txs[i]? = some t) (hs : t.state = 0) {Rr : Int × Eng} (hR : commitE 7 E i = some Rr) : StrB noQ R N Rr.2 := by
  have hl : liveB t.state = true := live_iff.2 (.inl hs)
  by_cases hb : Between t.ahead t.behind
  · obtain ⟨E', h1, _, h3, _⟩ := commit_bad (goes_str R N) hM ht hl hb ((h.weak i).lose hM.com ht hl)
    rw [h1] at hR
    injection hR with hR
    subst hR
    exact h3
  · obtain ⟨E', h1, _, h3, _⟩ := commit_ok (goes_str R N) hM ht hl hb (h.commit hM (fun h => h) ht hl hb)
    rw [h1] at hR
    injection hR with hR
    subst hR
    exact h3
theorem str_abort (h : StrB noQ R N E) (hM : Mid0 E) (ht : E.txs[i]? = some t) (hl : liveB t.state = true) (hR : endF 7 (loseE E i 0) i 3 = some E') : StrB noQ R N E' := by
  obtain ⟨E2, h1, _, h3, _⟩ := lose_ok (goes_str R N) hM ht hl (why := 0) ((h.weak i).lose hM.com ht hl)
  rw [h1] at hR
  injection hR with hR
  subst hR
  exact h3
theorem str_begin {R' : Nat → List Int} (h : StrB noQ R N E) (hM : Mid0 E) (hM' : Mid0 { E with txs := E.txs ++ [newTx 2 E.last] }) (hR : ∀ k, k < E.txs.length → R' k = R k) (hR2 : R' E.txs.length = []) : StrB noQ R' (N + 1) { E with txs := E.txs ++ [newTx 2 E.last] } := by
  have hL := later_begin E (newTx 2 E.last)
  have part : ∀ (k : Nat) (u : Tx), ({ E with txs := E.txs ++ [newTx 2 E.last] } : Eng).txs[k]? = some u → (E.txs[k]? = some u ∧ k < E.txs.length) ∨ (k = E.txs.length ∧ u = newTx 2 E.last) := fun k u hu => by
    have hu : (E.txs ++ [newTx 2 E.last])[k]? = some u := hu
    rcases Nat.lt_or_ge k E.txs.length with hi | hi
    · rw [List.getElem?_append_left hi] at hu; exact .inl ⟨hu, hi⟩
    · rw [List.getElem?_append_right hi] at hu
      have h0 : k - E.txs.length = 0 := by
        have := (List.getElem?_eq_some_iff.1 hu).1
        simp at this
        omega
      rw [h0] at hu
      simp at hu
      exact .inr ⟨by omega, hu.symm⟩
  refine ⟨?_, fun k u hu => ?_, fun k u hu => ?_, fun k m u v a _ _ hne hu hv hN => ?_, fun k u _ hu hs hb => ?_, fun k u hu hlv => ?_, fun k m u v c hu hv hwo hc => ?_, fun k u hu p hp => ?_, fun k u hu hs3 a ha => ?_⟩
  · have := h.cnt
    unfold cntR at this ⊢
    simp [newTx]
    omega
  · rcases part k u hu with ⟨h1, _⟩ | ⟨rfl, rfl⟩
    · exact h.lev k u h1
    · rfl
  · rcases part k u hu with ⟨h1, _⟩ | ⟨rfl, rfl⟩
    · exact h.sl k u h1
    · rfl
  · rcases part k u hu with ⟨h1, hk⟩ | ⟨rfl, rfl⟩
    · rcases part m v hv with ⟨h2, hm⟩ | ⟨rfl, rfl⟩
      · intro x y hx hy
        rw [hu] at hx
        rw [hv] at hy
        cases hx
        cases hy
        exact h.full k m u v a (fun h => h) (fun h => h) hne h1 h2 hN u v h1 h2
      · exact (hN.2.2.2.2.1 rfl).elim
    · have := hN.2.2.1
      exfalso
      have e : ∀ n : Nat, (List.replicate 10 false)[n]?.getD false = false := fun n => by
        cases hx : (List.replicate 10 false)[n]? with
        | none => rfl
        | some y => exact (List.eq_of_mem_replicate (List.mem_of_getElem? hx))
      rw [show (newTx 2 E.last).seen = List.replicate 10 false from rfl, e] at this
      cases this
  · rcases part k u hu with ⟨h1, _⟩ | ⟨rfl, rfl⟩
    · exact h.btw k u (fun h => h) h1 hs hb
    · cases hs
  · rcases part k u hu with ⟨h1, _⟩ | ⟨rfl, rfl⟩
    · exact h.bae k u h1 hlv
    · cases hlv
  · rcases part k u hu with ⟨h1, _⟩ | ⟨rfl, rfl⟩
    · rcases part m v hv with ⟨h2, _⟩ | ⟨rfl, rfl⟩
      · exact h.ovr k m u v c h1 h2 hwo hc
      · exact (hM.com.wr_le (C := E.ce) (c := c) hc).2
    · cases hwo
  · rcases part k u hu with ⟨h1, _⟩ | ⟨rfl, rfl⟩
    · obtain ⟨q1, q2, q3⟩ := h.rds k u h1 p hp
      exact ⟨q1, by rw [from_later hL hM.com hM'.com (show u.start ≤ E.ce.last from (hM.com.start k _ (cs_get h1)).2)]; exact q2, q3⟩
    · cases hp
  · rcases part k u hu with ⟨h1, hk⟩ | ⟨rfl, rfl⟩
    · rw [hR k hk] at ha
      exact h.tal k u h1 hs3 a ha
    · rw [hR2] at ha
      cases ha
end

def keysR (t : Tal) : Nat → List Int := fun i => (t.reads[i]?.getD []).map (·.1)
theorem str0 : StrB noQ (keysR tal00) 0 eng0 := ⟨Nat.le_refl _, fun k t h => (by cases h), fun k t h => (by cases h), fun k m t u a _ _ _ h => (by cases h), fun k t _ h => (by cases h), fun k t h => (by cases h), fun k m t u c h => (by cases h), fun k t h => (by cases h), fun k t h => (by cases h)⟩
theorem Does.str {E E' : Eng} {t t' : Tal} {N : Nat} (hd : Does 2 E t E' t') (h : Tells E t) (hn : t.n ≤ 1000000) (hs : StrB noQ (keysR t) N E) : StrB noQ (keysR t') (N + 1) E' := by
  have hnum := h.num
  cases hd with
  | same => exact hs.le (Nat.le_succ _)
  | begin level hl0 hl ho =>
    obtain rfl : level = 2 := hl0.2 (by omega)
    refine str_begin hs h.mid (h.mid.begin (.inr (.inr rfl)) hl (by rw [← live_len]; exact ho)) (fun k hk => ?_) ?_
    · show ((t.reads ++ [[]])[k]?.getD []).map _ = _
      rw [List.getElem?_append_left (by rw [h.lreads]; exact hk)]
      rfl
    · show ((t.reads ++ [[]])[E.txs.length]?.getD []).map _ = _
      rw [List.getElem?_append_right (by rw [h.lreads]; exact Nat.le_refl _), h.lreads]
      simp
  | sweep => exact ⟨Nat.le_succ_of_le hs.cnt, hs.lev, hs.sl, hs.full, hs.btw, hs.bae, hs.ovr, hs.rds, hs.tal⟩
  | shut => exact hs.le (Nat.le_succ _)
  | wshut => exact hs.le (Nat.le_succ _)
  | commit x u R hu hs0 hR => exact (str_commit hs h.mid hu hs0 hR).le (Nat.le_succ _)
  | abort x u E' hu hl hR => exact (str_abort hs h.mid hu hl hR).le (Nat.le_succ _)
  | read x u key R hu hs0 hk hR =>
    have hov : ownT (stepT t) x = u.vals := own_of h hu hs0
    have hxl : x < t.reads.length := by rw [h.lreads]; exact (List.getElem?_eq_some_iff.1 hu).1
    rcases str_read hs h.mid hu hs0 (key := key) (by omega) hR with ⟨v, hv, e⟩ | ⟨hv, e, h1⟩ | ⟨hv, h1⟩
    · have hk2 : keysR (endT R.2 (readT E (stepT t) x key R.1)) = keysR t := by
        unfold readT
        rw [hov, hv]
        split <;> rfl
      rw [hk2, e]
      exact hs.le (Nat.le_succ _)
    · have hk2 : keysR (endT R.2 (readT E (stepT t) x key R.1)) = keysR t := by
        unfold readT
        rw [if_pos (by rw [e]; decide)]
        rfl
      rw [hk2]
      exact h1
    · by_cases h13 : R.1.2 ≠ 0 ∧ R.1.2 ≠ 8
      · have hk2 : keysR (endT R.2 (readT E (stepT t) x key R.1)) = keysR t := by
          unfold readT
          rw [if_pos h13]
          rfl
        rw [hk2]
        exact ⟨h1.cnt, h1.lev, h1.sl, h1.full, h1.btw, h1.bae, h1.ovr, h1.rds, fun k y hy hy3 a ha => h1.tal k y hy hy3 a (by
          unfold extR
          split
          · rename_i e; subst e; exact List.mem_append_left _ ha
          · exact ha)⟩
      · have hk2 : keysR (endT R.2 (readT E (stepT t) x key R.1)) = extR (keysR t) x key := by
          unfold readT
          rw [if_neg h13, hov, hv]
          funext k
          unfold extR
          show ((t.reads.set x ((t.reads[x]?.getD []) ++ [(key, readV R.1)]))[k]?.getD []).map _ = _
          by_cases e : k = x
          · subst e
            rw [if_pos rfl, List.getElem?_set_self hxl]
            simp [keysR]
          · rw [if_neg e, List.getElem?_set_ne (fun h => e h.symm)]
            rfl
        rw [hk2]
        exact h1
  | write x u key q R hu hs0 hk hq hR =>
    have hk2 : keysR (endT R.2 (writeT (nextT (stepT t)) x key R.1 (openB R.2 x))) = keysR t := by
      unfold writeT
      split <;> rfl
    rw [hk2]
    exact (str_write hs h.mid hu hs0 (key := key) (val := t.n + 1) (by omega) (by omega) hq hR).le (Nat.le_succ _)

end Go.Proofs.YtjefgmeejhakbaaGreatDoor

/- Plain: the history of an engine of strict ones: whoever must be ahead of another one is so by a rank. -/
namespace Go.Proofs.YtjefgmeejhakbaaGreatDoor

theorem fold_reads (key n : Int) : ∀ (r : List (Int × Int)) (w : List Int), (readOps n r).foldl (wStep key) w = w
  | [], _ => rfl
  | p :: r, w => by
    have := fold_reads key n r w
    unfold readOps at this ⊢
    simp only [List.map_cons, List.foldl_cons]
    rw [show wStep key w (n, p.1, false, p.2) = w from by simp [wStep]]
    exact this
theorem fold_other (key n : Int) (V : Int → Option Int) : ∀ (ks : List Int) (w : List Int), key ∉ ks → ((ks.map (fun k => (k, (V k).getD 0))).map (fun p => (n, p.1, true, (0 : Int)))).foldl (wStep key) w = w
  | [], _, _ => rfl
  | a :: r, w, h => by
    have h1 : key ≠ a ∧ key ∉ r := ⟨fun e => h (by rw [e]; exact List.mem_cons_self ..), fun hm => h (List.mem_cons_of_mem _ hm)⟩
    simp only [List.map_cons, List.foldl_cons]
    rw [show wStep key w (n, a, true, 0) = w from by
      have h2 : a ≠ key := fun e => h1.1 e.symm
      simp [wStep, h2]]
    exact fold_other key n V r w h1.2
theorem fold_writes (key n : Int) (V : Int → Option Int) : ∀ (ks : List Int) (w : List Int), ks.Nodup → n ∉ w → ((ks.map (fun k => (k, (V k).getD 0))).map (fun p => (n, p.1, true, (0 : Int)))).foldl (wStep key) w = if key ∈ ks then w ++ [n] else w
  | [], w, _, _ => by simp
  | a :: r, w, hn, hw => by
    have hn' := List.nodup_cons.1 hn
    by_cases e : a = key
    · subst e
      rw [if_pos (List.mem_cons_self ..)]
      simp only [List.map_cons, List.foldl_cons]
      have h1 : w.getLast? ≠ some n := fun h => hw (List.mem_of_getLast? h)
      rw [show wStep a w (n, a, true, 0) = w ++ [n] from by simp [wStep, h1]]
      exact fold_other a n V r _ hn'.1
    · simp only [List.map_cons, List.foldl_cons]
      rw [show wStep key w (n, a, true, 0) = w from by simp [wStep, e], fold_writes key n V r w hn'.2 hw]
      have : key ∈ a :: r ↔ key ∈ r := by
        rw [List.mem_cons]
        exact ⟨fun h => h.resolve_left (fun h => e h.symm), .inr⟩
      simp only [this]
def wl (E : Eng) (key : Int) : List Nat := E.com.filter (fun i => (E.ce.v i key).isSome)
def wrs (E : Eng) (key : Int) : List Int := (wl E key).map (fun (i : Nat) => (i : Int) + 1)
section
variable {E : Eng} {Q : Nat → Prop} {key : Int}
theorem writers_to (h : Mid 0 (fun _ => none) E.ce Q) (key : Int) : ∀ j : Nat, j ≤ E.com.length → writersP (histTo E j) key = ((E.com.take j).filter (fun i => (E.ce.v i key).isSome)).map (fun (i : Nat) => (i : Int) + 1)
  | 0, _ => by simp [histTo, writersP]
  | j + 1, hj => by
    have hi : E.com[j]? = some E.com[j] := List.getElem?_eq_getElem (by omega)
    obtain ⟨c, hc, _⟩ := (h.com.coms E.com[j]).1 (show E.com[j] ∈ E.com from List.getElem_mem _)
    obtain ⟨t, ht, rfl⟩ := cs_of hc
    have hvk := (h.reg.fair _ _ hc).vk
    have ih := writers_to h key j (by omega)
    unfold writersP at ih ⊢
    rw [histTo_step hi ht, List.foldl_append, ih, histOf, List.foldl_append, fold_reads, List.take_add_one, hi]
    simp only [Option.toList_some]
    rw [List.filter_append, List.map_append]
    unfold writesP
    have hno : ((E.com[j] : Int) + 1) ∉ ((E.com.take j).filter (fun i => (E.ce.v i key).isSome)).map (fun (i : Nat) => (i : Int) + 1) := fun hm => by
      obtain ⟨x, hx, e⟩ := List.mem_map.1 hm
      have e : x = E.com[j] := by omega
      have hx := (List.mem_filter.1 hx).1
      rw [e] at hx
      obtain ⟨y, hy, e2⟩ := List.mem_take_iff_getElem.1 hx
      have hn : E.com.Nodup := h.com.comn
      have := (List.getElem_inj hn).1 e2
      omega
    rw [fold_writes key _ t.vals _ _ (keysOf_nodup _) hno, List.filter_cons, CE.v_some hc]
    have hm := mem_keysOf (f := t.vals) hvk key
    show _ = _ ++ List.map _ (if (t.vals key).isSome = true then _ else _)
    by_cases hs : (t.vals key).isSome = true
    · rw [if_pos (hm.2 hs), if_pos hs]
      simp
    · rw [if_neg (fun hc => hs (hm.1 hc)), if_neg hs]
      simp
theorem writers_hist (h : Mid 0 (fun _ => none) E.ce Q) (key : Int) : writersP (histP E) key = wrs E key := by
  unfold histP wrs wl
  rw [writers_to h key _ (Nat.le_refl _), List.take_length]
theorem mem_hist {o : Int × Int × Bool × Int} (h : Mid 0 (fun _ => none) E.ce Q) (ho : o ∈ histP E) : ∃ (i : Nat) (t : Tx), E.txs[i]? = some t ∧ t.state = 2 ∧ i ∈ E.com ∧ ((∃ p ∈ t.reads, o = ((i : Int) + 1, p.1, false, p.2)) ∨ ∃ k, t.vals k ≠ none ∧ o = ((i : Int) + 1, k, true, 0)) := by
  unfold histP histTo at ho
  rw [List.take_length] at ho
  obtain ⟨i, hi, ho⟩ := List.mem_flatMap.1 ho
  obtain ⟨c, hc, hs⟩ := (h.com.coms i).1 hi
  obtain ⟨t, ht, rfl⟩ := cs_of hc
  rw [ht] at ho
  refine ⟨i, t, ht, hs, hi, ?_⟩
  rcases List.mem_append.1 ho with ho | ho
  · unfold readOps at ho
    obtain ⟨p, hp, e⟩ := List.mem_map.1 ho
    exact .inl ⟨p, hp, e.symm⟩
  · obtain ⟨p, hp, e⟩ := List.mem_map.1 ho
    unfold writesP at hp
    obtain ⟨k, hk, e2⟩ := List.mem_map.1 hp
    refine .inr ⟨k, fun hv => ?_, by rw [← e, ← e2]⟩
    have := (mem_keysOf (f := t.vals) (h.reg.fair _ _ hc).vk k).1 hk
    rw [hv] at this
    cases this
theorem hist_write (h : Mid 0 (fun _ => none) E.ce Q) {i : Nat} {t : Tx} (ht : E.txs[i]? = some t) (hs : t.state = 2) {k : Int} (hv : t.vals k ≠ none) : ((i : Int) + 1, k, true, 0) ∈ histP E := by
  unfold histP histTo
  rw [List.take_length]
  refine List.mem_flatMap.2 ⟨i, (h.com.coms i).2 ⟨_, cs_get ht, hs⟩, ?_⟩
  rw [ht]
  refine List.mem_append_right _ (List.mem_map.2 ⟨(k, (t.vals k).getD 0), ?_, rfl⟩)
  unfold writesP
  exact List.mem_map.2 ⟨k, (mem_keysOf (f := t.vals) (h.reg.fair _ _ (cs_get ht)).vk k).2 (by cases hx : t.vals k with | none => exact absurd hx hv | some y => rfl), rfl⟩
theorem hist_read (h : Mid 0 (fun _ => none) E.ce Q) {i : Nat} {t : Tx} (ht : E.txs[i]? = some t) (hs : t.state = 2) {p : Int × Int} (hp : p ∈ t.reads) : ((i : Int) + 1, p.1, false, p.2) ∈ histP E := by
  unfold histP histTo
  rw [List.take_length]
  refine List.mem_flatMap.2 ⟨i, (h.com.coms i).2 ⟨_, cs_get ht, hs⟩, ?_⟩
  rw [ht]
  unfold histOf readOps
  exact List.mem_append_left _ (List.mem_map.2 ⟨p, hp, rfl⟩)

open Classical in
noncomputable def cAt (E : Eng) (i : Nat) : Int := if h : ∃ c, E.wr c = some ((i : Int) + 1) then Classical.choose h else 0
theorem cAt_of (h : Mid 0 (fun _ => none) E.ce Q) {i : Nat} {c : Int} (hc : E.wr c = some ((i : Int) + 1)) : cAt E i = c := by
  have hx : ∃ c, E.wr c = some ((i : Int) + 1) := ⟨c, hc⟩
  unfold cAt
  rw [dif_pos hx]
  exact h.com.wr_inj (C := E.ce) (Classical.choose_spec hx) hc
theorem wl_iff (h : Mid 0 (fun _ => none) E.ce Q) {i : Nat} : i ∈ wl E key ↔ ∃ t, E.txs[i]? = some t ∧ t.state = 2 ∧ t.vals key ≠ none := by
  unfold wl
  rw [List.mem_filter]
  constructor
  · rintro ⟨h1, h2⟩
    obtain ⟨c, hc, hs⟩ := (h.com.coms i).1 h1
    obtain ⟨t, ht, rfl⟩ := cs_of hc
    rw [CE.v_some hc] at h2
    exact ⟨t, ht, hs, fun e => by rw [show (cor t).vals key = _ from e] at h2; cases h2⟩
  · rintro ⟨t, ht, hs, hv⟩
    refine ⟨(h.com.coms i).2 ⟨_, cs_get ht, hs⟩, ?_⟩
    rw [CE.v_some (cs_get ht)]
    show (t.vals key).isSome = true
    cases hx : t.vals key with
    | none => exact absurd hx hv
    | some y => rfl
theorem wl_cw (h : Mid 0 (fun _ => none) E.ce Q) {i : Nat} (hi : i ∈ wl E key) : i ∈ E.ce.cw := by
  obtain ⟨t, ht, hs, hv⟩ := (wl_iff h).1 hi
  refine List.mem_filter.2 ⟨(h.com.coms i).2 ⟨_, cs_get ht, hs⟩, decide_eq_true ?_⟩
  have hvk := (h.reg.fair i _ (cs_get ht)).vk
  rw [← CE.v_some (cs_get ht)] at hvk
  refine wrote_of hvk (a := key) ?_
  rw [CE.v_some (cs_get ht)]
  exact hv
theorem wl_wr (h : Mid 0 (fun _ => none) E.ce Q) {i : Nat} (hi : i ∈ wl E key) : E.wr (cAt E i) = some ((i : Int) + 1) := by
  obtain ⟨c, hc⟩ := h.com.wr_of (wl_cw h hi)
  have hc' : E.wr c = some ((i : Int) + 1) := hc
  rw [cAt_of h hc']
  exact hc'
theorem wl_sorted (h : Mid 0 (fun _ => none) E.ce Q) (key : Int) : (wl E key).Pairwise (fun i j => cAt E i < cAt E j) := by
  have h1 : E.ce.cw.Pairwise (fun i j => cAt E i < cAt E j) := by
    refine List.pairwise_iff_getElem.2 (fun a b ha hb hab => ?_)
    have key : ∀ (a : Nat) (ha : a < E.ce.cw.length), cAt E E.ce.cw[a] = (a : Int) + 1 := fun a ha => by
      refine cAt_of h ?_
      have := h.com.wrc ((a : Int) + 1)
      rw [if_pos (by omega), show ((a : Int) + 1 - 0 - 1).toNat = a by omega, List.getElem?_eq_getElem ha] at this
      exact this
    rw [key a ha, key b hb]
    omega
  have h2 : wl E key = E.ce.cw.filter (fun i => (E.ce.v i key).isSome) := by
    unfold wl CE.cw
    rw [List.filter_filter]
    refine List.filter_congr (fun i hi => ?_)
    cases hv : (E.ce.v i key).isSome with
    | false => simp
    | true =>
      have : i ∈ E.ce.cw := wl_cw (key := key) h (List.mem_filter.2 ⟨hi, hv⟩)
      have := (List.mem_filter.1 this).2
      rw [this]
      rfl
  rw [h2]
  exact h1.filter _

theorem full_sorted (C : CE) (a : Int) : (full0 C a).Pairwise (fun p q => p.1 < q.1) := by
  unfold full0 full
  simp only [List.nil_append]
  exact fullFrom_sorted _ _ _ _
theorem from_cases (h : Mid 0 (fun _ => none) E.ce Q) (key s : Int) : (rdP s (full0 E.ce key) = none ∧ fromP E.ce key s = 0 ∧ ∀ j ∈ wl E key, s < cAt E j) ∨ ∃ (m : Nat) (x : Int), rdP s (full0 E.ce key) = some (cAt E m, x) ∧ E.ce.v m key = some x ∧ fromP E.ce key s = (m : Int) + 1 ∧ m ∈ wl E key ∧ cAt E m ≤ s ∧ ∀ j ∈ wl E key, cAt E m < cAt E j → s < cAt E j := by
  have hin : ∀ j ∈ wl E key, ∃ x, (cAt E j, x) ∈ full0 E.ce key := fun j hj => by
    obtain ⟨t, ht, hs, hv⟩ := (wl_iff h).1 hj
    obtain ⟨y, hy⟩ : ∃ y, t.vals key = some y := by cases hx : t.vals key with | none => exact absurd hx hv | some y => exact ⟨y, rfl⟩
    exact ⟨y, h.com.full_of (C := E.ce) (wl_wr h hj) (by rw [CE.v_some (cs_get ht)]; exact hy)⟩
  cases hr : rdP s (full0 E.ce key) with
  | none =>
    refine .inl ⟨rfl, by unfold fromP; rw [hr], fun j hj => ?_⟩
    obtain ⟨x, hx⟩ := hin j hj
    refine Classical.byContradiction fun hn => ?_
    rw [rdP_last, List.getLast?_eq_none_iff, List.filter_eq_nil_iff] at hr
    exact hr _ hx (decide_eq_true (by simp only; omega))
  | some p =>
    obtain ⟨hp, hps⟩ := rdP_le hr
    have hp' : p ∈ fullFrom E.ce.v key (0 + 1) E.ce.cw := by
      unfold full0 full at hp
      simpa using hp
    obtain ⟨j, m, h1, h2, h3⟩ := (fullFrom_mem _ _ _ _ p.1 p.2).1 hp'
    have hc : E.wr p.1 = some ((m : Int) + 1) := by
      have := h.com.wrc p.1
      rw [if_pos (by omega), show (p.1 - 0 - 1).toNat = j by omega, h1] at this
      exact this
    have hcm := cAt_of h hc
    have hml : m ∈ wl E key := List.mem_filter.2 ⟨(List.mem_filter.1 (List.mem_of_getElem? h1)).1, by rw [h3]; rfl⟩
    refine .inr ⟨m, p.2, by rw [hcm], h3, by unfold fromP; rw [hr]; simp only; rw [show E.ce.wr p.1 = _ from hc]; rfl, hml, by rw [hcm]; exact hps, fun j hj hlt => ?_⟩
    obtain ⟨x, hx⟩ := hin j hj
    refine Classical.byContradiction fun hn => ?_
    rw [rdP_last] at hr
    have hsf := (full_sorted E.ce key).filter (fun p => decide (p.1 ≤ s))
    have hmf : (cAt E j, x) ∈ (full0 E.ce key).filter (fun p => decide (p.1 ≤ s)) := List.mem_filter.2 ⟨hx, decide_eq_true (by simp only; omega)⟩
    obtain ⟨l, e⟩ : ∃ l, (full0 E.ce key).filter (fun p => decide (p.1 ≤ s)) = l ++ [p] := List.getLast?_eq_some_iff.1 hr
    rw [e] at hsf hmf
    rcases List.mem_append.1 hmf with h5 | h5
    · have := (List.pairwise_append.1 hsf).2.2 _ h5 p (List.mem_singleton.2 rfl)
      simp only at this
      omega
    · have := congrArg Prod.fst (List.mem_singleton.1 h5)
      simp only at this
      omega
end

open Classical in
noncomputable def rk (E : Eng) (i : Nat) : Int := match E.txs[i]? with
  | some t => (if (∃ c, E.wr c = some ((i : Int) + 1)) ∧ (∀ a, t.behind a = false) then 2 * cAt E i else 2 * t.start + 1) * 1000 + (i : Int)
  | none => 0
section
variable {E : Eng} {T : Tal} {R : Nat → List Int} {N i j : Nat} {t u : Tx} {key c a b : Int}
theorem rk_le (h : Tells E T) (ht : E.txs[i]? = some t) (hc : E.wr c = some ((i : Int) + 1)) : rk E i ≤ 2 * c * 1000 + i := by
  have h1 := h.late c i t hc ht
  have h2 := cAt_of h.mid hc
  unfold rk
  rw [ht]
  simp only
  split
  · rw [h2]; exact Int.le_refl _
  · omega
theorem rk_ge (h : Tells E T) (ht : E.txs[i]? = some t) : (2 * t.start + 1) * 1000 + i ≤ rk E i := by
  unfold rk
  rw [ht]
  simp only
  split
  · rename_i hx
    obtain ⟨⟨c, hc⟩, _⟩ := hx
    rw [cAt_of h.mid hc]
    have h1 := h.late c i t hc ht
    omega
  · exact Int.le_refl _
theorem rk_beh (ht : E.txs[i]? = some t) (hb : t.behind a = true) : rk E i = (2 * t.start + 1) * 1000 + i := by
  unfold rk
  rw [ht]
  simp only
  rw [if_neg (fun hx => by rw [hx.2 a] at hb; cases hb)]
theorem rk_free (h : Tells E T) (ht : E.txs[i]? = some t) (hc : E.wr c = some ((i : Int) + 1)) (hb : ∀ a, t.behind a = false) : rk E i = 2 * c * 1000 + i := by
  unfold rk
  rw [ht]
  simp only
  rw [if_pos ⟨⟨c, hc⟩, hb⟩, cAt_of h.mid hc]
theorem rk_none (ht : E.txs[i]? = some t) (hc : ∀ c, E.wr c ≠ some ((i : Int) + 1)) : rk E i = (2 * t.start + 1) * 1000 + i := by
  unfold rk
  rw [ht]
  simp only
  rw [if_neg (fun hx => by obtain ⟨c, h⟩ := hx.1; exact hc c h)]
theorem tx_lt (h : Tells E T) (ht : E.txs[i]? = some t) : i < 200 := by
  have h1 := h.mid.reg.len
  have h2 := (List.getElem?_eq_some_iff.1 ht).1
  simp only [Eng.ce, List.length_map] at h1
  omega
theorem rw_rises (h : Tells E T) (hS : StrB noQ R N E) (hij : i ≠ j) (ht : E.txs[i]? = some t) (hs : t.state = 2) (hk : 0 ≤ key) (hse : t.seen[key.toNat]?.getD false = true) (hj : j ∈ wl E key) (hlt : t.start < cAt E j) : rk E i < rk E j := by
  obtain ⟨u, hu, hsu, hv⟩ := (wl_iff h.mid).1 hj
  have hcj := wl_wr h.mid hj
  have hi2 := tx_lt h ht
  have hj2 := tx_lt h hu
  have hgj := rk_ge h hu
  cases hwo : wasOverB t ((j : Int) + 1) with
  | true =>
    have hbe : (i : Int) < t.bae := hS.bae i t ht (by rw [hs]; rfl)
    have hlt2 : t.bae < (j : Int) + 1 := by
      unfold wasOverB at hwo
      simp only [Bool.and_eq_true, decide_eq_true_eq] at hwo
      exact hwo.2
    have hm := h.mono j i u t (by omega) ht hu
    by_cases hw : ∃ c, E.wr c = some ((i : Int) + 1)
    · obtain ⟨c, hc⟩ := hw
      have h1 := rk_le h ht hc
      have h2 := hS.ovr i j t u c ht hu hwo hc
      omega
    · rw [rk_none ht (fun c hc => hw ⟨c, hc⟩)]
      omega
  | false =>
    obtain ⟨m1, m2⟩ := hS.full i j t u key (fun h => h) (fun h => h) hij ht hu ⟨by omega, by omega, hse, hk, hv, fun c hc => by rw [← cAt_of h.mid hc]; exact hlt, hwo⟩ t u ht hu
    have hb : ∀ a, u.behind a = false := fun a => by
      cases hx : u.behind a with
      | false => rfl
      | true => exact (hS.bt j u hu hsu ⟨⟨_, m2⟩, a, hx⟩).elim
    rw [rk_beh ht m1, rk_free h hu hcj hb]
    omega
theorem ww_rises (h : Tells E T) (hS : StrB noQ R N E) (hi : i ∈ wl E key) (hj : j ∈ wl E key) (hlt : cAt E i < cAt E j) : rk E i < rk E j := by
  obtain ⟨t, ht, hs, hv⟩ := (wl_iff h.mid).1 hi
  obtain ⟨u, hu, hsu, hvu⟩ := (wl_iff h.mid).1 hj
  have hci := wl_wr h.mid hi
  have hcj := wl_wr h.mid hj
  have h1 := rk_le h ht hci
  have h2 := rk_ge h hu
  have hst : cAt E i ≤ u.start := Classical.byContradiction fun hn => by
    obtain ⟨c', hc', hlt'⟩ := h.mid.com.fuw j i _ key (cAt E i) (cs_get hu) (by rw [show (cor u).level = 2 from hS.lev j u hu]; decide) (show u.state ≠ 3 by omega) hvu hci (fun e => by subst e; omega) (by rw [CE.v_some (cs_get ht)]; exact hv) (show u.start < cAt E i by omega)
    have := cAt_of h.mid hc'
    omega
  have hi2 := tx_lt h ht
  omega
theorem con_get : ∀ (w : List Int) (a b : Int), (a, b) ∈ conP w → ∃ x : Nat, w[x]? = some a ∧ w[x + 1]? = some b
  | [], a, b, h => by cases h
  | [y], a, b, h => by cases h
  | y :: z :: r, a, b, h => by
    simp only [conP, List.mem_cons, Prod.mk.injEq] at h
    rcases h with ⟨rfl, rfl⟩ | h
    · exact ⟨0, rfl, rfl⟩
    · obtain ⟨x, h1, h2⟩ := con_get (z :: r) a b h
      exact ⟨x + 1, by simpa using h1, by simpa using h2⟩
theorem wrs_get (_h : Tells E T) {x : Nat} (hx : (wrs E key)[x]? = some a) : ∃ i : Nat, a = (i : Int) + 1 ∧ (wl E key)[x]? = some i ∧ i ∈ wl E key := by
  unfold wrs at hx
  rw [List.getElem?_map] at hx
  obtain ⟨i, hi, e⟩ := Option.map_eq_some_iff.1 hx
  exact ⟨i, e.symm, hi, List.mem_of_getElem? hi⟩
theorem wl_lt (h : Tells E T) {x y : Nat} (hxy : x < y) (hi : (wl E key)[x]? = some i) (hj : (wl E key)[y]? = some j) : cAt E i < cAt E j := by
  obtain ⟨h1, e1⟩ := List.getElem?_eq_some_iff.1 hi
  obtain ⟨h2, e2⟩ := List.getElem?_eq_some_iff.1 hj
  have := List.pairwise_iff_getElem.1 (wl_sorted h.mid key) x y h1 h2 hxy
  rwa [e1, e2] at this
theorem con_rises (h : Tells E T) (hS : StrB noQ R N E) (hab : (a, b) ∈ conP (wrs E key)) : ∃ i j : Nat, a = (i : Int) + 1 ∧ b = (j : Int) + 1 ∧ rk E i < rk E j := by
  obtain ⟨x, hx, hy⟩ := con_get _ _ _ hab
  obtain ⟨i, rfl, hi, hi2⟩ := wrs_get h hx
  obtain ⟨j, rfl, hj, hj2⟩ := wrs_get h hy
  exact ⟨i, j, rfl, rfl, ww_rises h hS hi2 hj2 (wl_lt h (Nat.lt_succ_self _) hi hj)⟩
theorem read_two (h : Tells E T) (hS : StrB noQ R N E) (ht : E.txs[i]? = some t) (hs : t.state = 2) {p : Int × Int} (hp : p ∈ t.reads) : ∃ l, readP (wrs E p.1) ((i : Int) + 1, p.1, false, p.2) = some l ∧ (∀ a b, (a, b) ∈ l → a ≠ b → ∃ i j : Nat, a = (i : Int) + 1 ∧ b = (j : Int) + 1 ∧ rk E i < rk E j) ∧
    ((rdP t.start (full0 E.ce p.1) = none ∧ ∀ y, (wrs E p.1)[0]? = some y → ((i : Int) + 1, y) ∈ l) ∨ ∃ (m : Nat) (x : Int) (d : Nat), rdP t.start (full0 E.ce p.1) = some (cAt E m, x) ∧ E.ce.v m p.1 = some x ∧ m ≠ i ∧ ((m : Int) + 1, (i : Int) + 1) ∈ l ∧ (wrs E p.1)[d]? = some ((m : Int) + 1) ∧ ∀ y, (wrs E p.1)[d + 1]? = some y → ((i : Int) + 1, y) ∈ l) := by
  obtain ⟨hk, hf, hse⟩ := hS.rds i t ht p hp
  have next : ∀ (j : Nat) , j ∈ wl E p.1 → t.start < cAt E j → (i : Int) + 1 ≠ (j : Int) + 1 → rk E i < rk E j := fun j hj hlt hne => rw_rises h hS (fun e => hne (by rw [e])) ht hs hk.1 hse hj hlt
  rcases from_cases h.mid p.1 t.start with ⟨hr, h0, hall⟩ | ⟨m, x, hr, hv, hfm, hml, hms, hall⟩
  · refine ⟨((wrs E p.1)[0]?).toList.map (fun x => ((i : Int) + 1, x)), ?_, fun a b hab hne => ?_, .inl ⟨hr, fun y hy => ?_⟩⟩
    · unfold readP
      rw [if_pos (hf.trans h0)]
    · obtain ⟨y, hy, e⟩ := List.mem_map.1 hab
      injection e with e1 e2
      subst e1 e2
      obtain ⟨j, rfl, hj, hj2⟩ := wrs_get h (Option.mem_toList.1 hy)
      exact ⟨i, j, rfl, rfl, next j hj2 (hall j hj2) hne⟩
    · rw [hy]
      simp
  · have hmi : m ≠ i := fun e => by
      subst e
      have h1 := h.late _ m t (wl_wr h.mid hml) ht
      omega
    have hfne : p.2 ≠ 0 := by rw [hf, hfm]; omega
    obtain ⟨d, hd, ed⟩ := List.getElem_of_mem hml
    have hdw : (wrs E p.1)[d]? = some ((m : Int) + 1) := by
      unfold wrs
      rw [List.getElem?_map, List.getElem?_eq_getElem hd, ed]
      rfl
    have hfa : firstAt p.2 (wrs E p.1) = some d := by
      refine firstAt_of (by rw [hf, hfm]; exact hdw) (fun j hj hx => ?_)
      obtain ⟨m2, e, h2, _⟩ := wrs_get h hx
      have e : m2 = m := by rw [hf, hfm] at e; omega
      subst e
      have := wl_lt h hj h2 (by rw [List.getElem?_eq_getElem hd, ed])
      omega
    refine ⟨(p.2, (i : Int) + 1) :: ((wrs E p.1)[d + 1]?).toList.map (fun x => ((i : Int) + 1, x)), ?_, fun a b hab hne => ?_, .inr ⟨m, x, d, hr, hv, hmi, ?_, hdw, fun y hy => ?_⟩⟩
    · unfold readP
      rw [if_neg hfne, hfa]
      rfl
    · rcases List.mem_cons.1 hab with e | hab
      · injection e with e1 e2
        subst e1 e2
        refine ⟨m, i, hf.trans hfm, rfl, ?_⟩
        obtain ⟨um, hum, _⟩ := (wl_iff h.mid).1 hml
        have h1 := rk_le h hum (wl_wr h.mid hml)
        have h2 := rk_ge h ht
        have h3 := tx_lt h hum
        omega
      · obtain ⟨y, hy, e⟩ := List.mem_map.1 hab
        injection e with e1 e2
        subst e1 e2
        obtain ⟨j, rfl, hj, hj2⟩ := wrs_get h (Option.mem_toList.1 hy)
        exact ⟨i, j, rfl, rfl, next j hj2 (hall j hj2 (wl_lt h (Nat.lt_succ_self _) (by rw [List.getElem?_eq_getElem hd, ed]) hj)) hne⟩
    · rw [hf, hfm]
      exact List.mem_cons_self ..
    · rw [hy]
      simp
theorem two_rises (h : Tells E T) (hS : StrB noQ R N E) (hne : a ≠ b) (hab : Two (histP E) a b) : ∃ i j : Nat, a = (i : Int) + 1 ∧ b = (j : Int) + 1 ∧ rk E i < rk E j := by
  rcases hab with ⟨o, _, hab⟩ | ⟨o, ho, hr, p, hp, hab⟩
  · rw [writers_hist h.mid] at hab
    exact con_rises h hS hab
  · obtain ⟨i, t, ht, hs, _, ⟨q, hq, rfl⟩ | ⟨k, _, rfl⟩⟩ := mem_hist h.mid ho
    · rw [writers_hist h.mid] at hp
      obtain ⟨l, h1, h2, _⟩ := read_two h hS ht hs hq
      rw [show readP (wrs E ((i : Int) + 1, q.1, false, q.2).2.1) ((i : Int) + 1, q.1, false, q.2) = some l from h1] at hp
      cases hp
      exact h2 a b hab hne
    · cases hr
theorem line_there (h : Tells E T) (hS : StrB noQ R N E) {d : List (Int × Int)} (hd : IsEdges (histP E) d) : ∃ out, lineP d (txsP (histP E)).length (txsP (histP E)) = some out := by
  cases hl : lineP d (txsP (histP E)).length (txsP (histP E)) with
  | some out => exact ⟨out, rfl⟩
  | none =>
    exfalso
    obtain ⟨m, h1, h2, h3⟩ := line_stuck d _ _ (Nat.le_refl _) hl
    refine no_line h1 h2 h3 (fun x => (rk E (x - 1).toNat).toNat) (fun a b hab => ?_)
    obtain ⟨hne, htwo⟩ := (hd.2 a b).1 hab
    obtain ⟨i, j, rfl, rfl, hlt⟩ := two_rises h hS hne htwo
    rw [show ((i : Int) + 1 - 1).toNat = i by omega, show ((j : Int) + 1 - 1).toNat = j by omega]
    have h0 : 0 ≤ rk E i := by
      cases hi : E.txs[i]? with
      | none => unfold rk; rw [hi]; exact Int.le_refl _
      | some t =>
        have h5 := rk_ge h hi
        have h6 : (0 : Int) ≤ t.start := (h.mid.com.start i _ (cs_get hi)).1
        omega
    omega
theorem hist_fine (h : Tells E T) (hS : StrB noQ R N E) : ∀ o ∈ histP E, opBad o = false ∧ badRead (histP E) o = false := fun o ho => by
  obtain ⟨i, t, ht, hs, _, ⟨q, hq, rfl⟩ | ⟨k, hk, rfl⟩⟩ := mem_hist h.mid ho
  · obtain ⟨l, h1, _⟩ := read_two h hS ht hs hq
    obtain ⟨hk, hf, _⟩ := hS.rds i t ht q hq
    have h0 : 0 ≤ q.2 := by
      rcases from_cases h.mid q.1 t.start with ⟨_, h0, _⟩ | ⟨m, _, _, _, h0, _⟩ <;> rw [hf, h0] <;> omega
    refine ⟨?_, ?_⟩
    · unfold opBad
      exact decide_eq_false (by simp only; omega)
    · unfold badRead
      rw [writers_hist h.mid, show readP (wrs E ((i : Int) + 1, q.1, false, q.2).2.1) ((i : Int) + 1, q.1, false, q.2) = some l from h1]
      rfl
  · have hvk := (h.mid.reg.fair i _ (cs_get ht)).vk k hk
    refine ⟨?_, rfl⟩
    unfold opBad
    exact decide_eq_false (by simp only; omega)
end

end Go.Proofs.YtjefgmeejhakbaaGreatDoor
