/- FeSweep FrReady FrCommit FeComA FeComB AnyInv QuietLast: put together for a claim. -/
import Derived.Test.YtjefgmeejhakbaaGreatDoorFeBeginM
import Derived.Test.YtjefgmeejhakbaaGreatDoorMgAQ
import Derived.Test.YtjefgmeejhakbaaGreatDoorFsSweep
import Derived.Test.YtjefgmeejhakbaaGreatDoorMgAV
import Derived.Test.YtjefgmeejhakbaaGreatDoorMgAX
import Derived.Test.YtjefgmeejhakbaaGreatDoorMgAO
import Derived.Test.YtjefgmeejhakbaaGreatDoorEnHist
import Derived.Deep.RegionHeld3
import Derived.Deep.Draws
import Derived.BigQuiet
/- The document's engine: Sweep. -/
namespace Go.Proofs.YtjefgmeejhakbaaGreatDoor
open Go.RowKit
def lowE (E : Eng) (j : Nat) : Int := leastOf E (thoseN E (fun _ t => liveB t.state) j) E.last
theorem lowE_all (E : Eng) : lowE E E.txs.length = leastE E := by unfold lowE leastE liveOnes; rw [thoseN_all]
theorem lowE_step {E : Eng} {j : Nat} {t : Tx} (h : E.txs[j]? = some t) : lowE E (j + 1) = if liveB t.state = true ∧ t.level ≠ 0 ∧ t.start < lowE E j then t.start else lowE E j := by
  unfold lowE
  cases hl : liveB t.state with
  | false => rw [thoseN_step h, hl]; simp
  | true =>
    rw [thoseN_step h, hl]
    simp only [if_true]
    generalize hm : leastOf E (thoseN E (fun _ t => liveB t.state) j) E.last = m
    unfold leastOf at hm ⊢
    rw [List.foldl_append, hm]
    simp only [List.foldl_cons, List.foldl_nil, h]
    by_cases h0 : t.level ≠ 0
    · rw [if_pos h0]
      by_cases h1 : t.start < m
      · rw [if_pos ⟨trivial, h0, h1⟩]; omega
      · rw [if_neg (fun h' => h1 h'.2.2)]; omega
    · rw [if_neg h0, if_neg (fun h' => h0 h'.2.1)]
section
variable {w w' : World} {L : REnL} {B : Nat} {E E' : Eng} {R : REng} {i : Nat} {t : Tx}
theorem Rel.sweep (h : Rel B E R) : Rel B (sweepE E) { R with kept := refSweep (leastE E) R.kept } :=
  { len := h.len
    le := h.le
    tx := h.tx
    last := h.last
    T := h.T
    good := h.good
    mem := h.mem
    doc := h.doc.sweep _
    lb := h.lb
    tim := fun x hx => h.tim x (List.mem_filter.1 hx).1
    wr := h.wr
    wrc := h.wrc
    nw := h.nw
    coms := h.coms
    comn := h.comn
    hist := h.hist
    bg := h.bg
    bae := h.bae
    ord := h.ord
    s0 := h.s0
    wy := h.wy
    sz := by
      obtain ⟨N, h1, h2, h3, h4⟩ := h.sz
      refine ⟨N, h1, h2, h3, ?_⟩
      have := refSweep_length (leastE E) R.kept
      show N + 1000 * pot E + 1000 * (refSweep (leastE E) R.kept).length ≤ B
      omega }
theorem RefAt.swept (h : RefAt w L B E) (hB : B ≤ 100000000) : Calls Tryz.prog 144 #[.pointer (some ⟨L.R, 0, none⟩), .int .i64 (leastE E)] w fun e w' => e = .returned (.int .i64 (sweepN (leastE E) E.ks : Nat)) ∧ RefPost L B (sweepE E) w w' := by
  obtain ⟨R, hA, hRel⟩ := h
  obtain ⟨N, h1, h2, h3, h4⟩ := hRel.sz
  refine (refSweep_any (L.R + 1) L.R (leastE E) R.last L.lv R.kept w hRel.doc.key (by omega) hA.lt hA.sto).mono ?_
  rintro e w' ⟨rfl, lv', hS, hK, hg⟩
  rw [hRel.doc.sweepN]
  obtain ⟨a1, a2⟩ := hA.setSto hS hK (fun g hg' => .inr (hg g hg'))
  exact ⟨rfl, _, ⟨_, a1, hRel.sweep⟩, a2, ⟨rfl, rfl⟩, rfl⟩
set_option maxRecDepth 100000 in
set_option maxHeartbeats 4000000 in
theorem rsweep_any (h : RefAt w L B E) (hB : B ≤ 100000000) :
    Calls Tryz.prog 83 #[.pointer (some ⟨L.R, 0, none⟩)] w fun e w' => e = .returned (.int .i64 (sweepN (leastE E) E.ks : Nat)) ∧ RefPost L B (sweepE E) w w' := by
  obtain ⟨ad, cap, hav, c12, hl200⟩ := h.av
  obtain ⟨n, hn⟩ : ∃ n, E.txs.length = n := ⟨_, rfl⟩
  rw [hav, hn] at c12
  rw [hn] at hl200
  obtain ⟨lz, hlz⟩ : ∃ lz, E.last = lz := ⟨_, rfl⟩
  have c1 := h.lastc
  rw [hlz] at c1
  have hS := h.swept hB
  have h0 : lowE E 0 = lz := by rw [← hlz]; rfl
  have HRF := hid h
  have HN := hid hn
  have HAV := hid hav
  have HS := hid hS
  have H0 := hid h0
  clear h hav hn hS hlz h0
  go_enter Tryz.func83, Tryz.ntmps83
  go_wp2
  go_loop [3, 16] (fun mv iv => ∃ j : Nat, j ≤ n ∧ iv = .int .i64 j ∧ mv = .int .i64 (lowE E j)) (fun _ iv => n - (intOf iv).toNat)
  case atStart => exact ⟨0, by omega, rfl, by rw [H0.out]⟩
  case round =>
    obtain ⟨j, hj, rfl, rfl⟩ := hrel
    by_cases hlt : j < n
    · obtain ⟨u, hu⟩ : ∃ u, E.txs[j]? = some u := ⟨E.txs[j]'(by rw [HN.out]; exact hlt), List.getElem?_eq_getElem _⟩
      obtain ⟨bj, hbj⟩ := HRF.out.place hu
      obtain ⟨g, cap2, hav2, hcj, _, _⟩ := HRF.out.place2 hu hbj
      rw [HAV.out] at hav2
      have e1 : ad = some ⟨g, 0, none⟩ := by injection hav2
      subst e1
      have hac := HRF.out.alive hu hbj
      obtain ⟨_, _, _, _, u0, u3, _⟩ := HRF.out.cells hu hbj
      have hst := lowE_step hu
      obtain ⟨m, hm⟩ : ∃ m, lowE E j = m := ⟨_, rfl⟩
      rw [hm] at hst ⊢
      obtain ⟨lv, hlv⟩ : ∃ lv, u.level = lv := ⟨_, rfl⟩
      obtain ⟨st, hst2⟩ : ∃ st, u.start = st := ⟨_, rfl⟩
      rw [hlv] at hst u0
      rw [hst2] at hst u3
      have hj0 : (0 : Int) ≤ (j : Int) := by omega
      have hj1 : (j : Int) < (n : Int) := by omega
      obtain ⟨al, hal⟩ : ∃ al, liveB u.state = al := ⟨_, rfl⟩
      rw [hal] at hac hst
      have HAC := hid hac
      clear hu hbj hav2 hac hal hm hlv hst2
      cases al with
      | false =>
        rw [if_neg (by simp)] at hst
        have HST := hid hst
        clear hst
        go_wp2_with fail
        refine HAC.out.mono ?_
        rintro e w5 ⟨rfl, hw5⟩
        rw [hw5]
        clear hw5 w5
        go_wp2
        go_round
        case rel => exact ⟨j + 1, by omega, by go_num, by rw [HST.out]⟩
        case measure => simp [intOf]; omega
      | true =>
        by_cases h0 : lv = 0
        · subst h0
          rw [if_neg (by simp)] at hst
          have HST := hid hst
          clear hst
          go_wp2_with fail
          refine HAC.out.mono ?_
          rintro e w5 ⟨rfl, hw5⟩
          rw [hw5]
          clear hw5 w5
          go_wp2
          go_round
          case rel => exact ⟨j + 1, by omega, by go_num, by rw [HST.out]⟩
          case measure => simp [intOf]; omega
        · have gl : (lv != 0) = true := by simpa using h0
          by_cases h1 : st < m
          · rw [if_pos ⟨rfl, h0, h1⟩] at hst
            have HST := hid hst
            clear hst
            go_wp2_with fail
            refine HAC.out.mono ?_
            rintro e w5 ⟨rfl, hw5⟩
            rw [hw5]
            clear hw5 w5
            go_wp2
            go_round
            case rel => exact ⟨j + 1, by omega, by go_num, by rw [HST.out]⟩
            case measure => simp [intOf]; omega
          · rw [if_neg (fun h' => h1 h'.2.2)] at hst
            have HST := hid hst
            clear hst
            go_wp2_with fail
            refine HAC.out.mono ?_
            rintro e w5 ⟨rfl, hw5⟩
            rw [hw5]
            clear hw5 w5
            go_wp2
            go_round
            case rel => exact ⟨j + 1, by omega, by go_num, by rw [HST.out]⟩
            case measure => simp [intOf]; omega
    · have hjn : j = n := by omega
      subst hjn
      have hj1 : ¬ (j : Int) < (j : Int) := by omega
      have he : lowE E j = leastE E := by rw [← HN.out]; exact lowE_all E
      rw [he]
      clear he
      go_wp2_with fail
      refine HS.out.mono ?_
      rintro e w5 ⟨rfl, hP⟩
      have HP := hid hP
      clear hP
      go_wp2
      go_ret
      exact ⟨rfl, HP.out⟩
end
end Go.Proofs.YtjefgmeejhakbaaGreatDoor

/- The document's engine: Ready, Writes, Waits and Commit's ways out, by the landed one's plain engine. -/
namespace Go.Proofs.YtjefgmeejhakbaaGreatDoor
open Go.RowKit
theorem allK_range (f : Nat → Option (Int × Int)) : ∀ j, allK f j = ((List.range j).filter (fun k => (f k).isSome)).map (fun (k : Nat) => ((k : Int), ((f k).getD (0, 0)).2))
  | 0 => rfl
  | j + 1 => by
    rw [allK, allK_range f j, List.range_succ, List.filter_append, List.map_append]
    congr 1
    cases h : f j with
    | none => simp [h]
    | some p => simp [h]
theorem rwritesP_eq {own : List (Int × Int)} {V : Int → Option Int} (h : ∀ k, lastOf own k = V k) : rwritesP own = writesP V := by
  unfold rwritesP writesP keysOf
  rw [allK_range, show keysP = (List.range 10).map (fun (k : Nat) => (k : Int)) by decide, List.filter_map, List.map_map]
  have e : (fun (k : Nat) => ((lastOf own (k : Int)).map (fun v => ((0 : Int), v))).isSome) = ((fun k => (V k).isSome) ∘ fun (k : Nat) => (k : Int)) := by
    funext k
    simp [h]
  rw [e]
  refine List.map_congr_left (fun k _ => ?_)
  simp only [Function.comp, h]
  cases V (k : Int) <;> rfl
section
variable {w w' : World} {L : REnL} {B : Nat} {E E' : Eng} {R : REng} {i : Nat} {t : Tx}
theorem RefAt.ready_shut (h : RefAt w L B E) {n c : Int} (hc : Shut E n c) :
    Calls Tryz.prog 85 #[.pointer (some ⟨L.R, 0, none⟩), .int .i64 n] w fun e w' => e = .returned (.int .i64 c) ∧ w' = w := by
  obtain ⟨R, hA, hRel⟩ := h
  refine rready_shut hA (by rw [hRel.len]; have := hRel.le; omega) ?_
  rcases hc with ⟨rfl, hn⟩ | ⟨rfl, i, t, rfl, ht, hs⟩
  · exact .inl ⟨rfl, by rw [hRel.len]; exact hn⟩
  · obtain ⟨r, hr, hX⟩ := hRel.getR ht
    exact .inr ⟨rfl, i, r, rfl, hr, by rw [hX.state]; exact hs⟩
noncomputable def rdyE (t : Tx) : Int := if betB t.ahead t.behind = true then 13 else 0
theorem RefAt.ready (h : RefAt w L B E) (hB : B ≤ 1000000000) (ht : E.txs[i]? = some t) (hs : t.state = 0) :
    Calls Tryz.prog 85 #[.pointer (some ⟨L.R, 0, none⟩), .int .i64 ((i : Int) + 1)] w fun e w' => e = .returned (.int .i64 (rdyE t)) ∧ w' = w := by
  obtain ⟨R, hA, hRel⟩ := h
  obtain ⟨r, hr, hX⟩ := hRel.getR ht
  have hz := hRel.szR hr
  have := rready_main hA hr (by rw [hX.state]; exact hs) (by rw [hRel.len]; have := hRel.le; omega) (fun x hx => by rw [hRel.len]; exact hX.bl x hx) (fun x hx => by rw [hRel.len]; exact hX.al x hx) (by have := hz.2.2.1; omega) (by have := hz.2.2.2; omega)
  have e : rdyR R r = rdyE t := by
    unfold rdyR rdyE
    rw [← hRel.bet ht hr]
    by_cases h2 : r.level = 2
    · simp only [h2, true_and]
    · rw [if_neg (fun h' => h2 h'.1)]
      obtain ⟨e1, e2⟩ := hX.non (by rw [← hX.level]; exact h2)
      have hb := hRel.bet ht hr
      rw [e1, e2] at hb
      rw [hb]
      rfl
  rw [e] at this
  exact this
theorem RefAt.writes_miss (h : RefAt w L B E) {n : Int} (hn : n < 1 ∨ (E.txs.length : Int) < n) :
    Calls Tryz.prog 91 #[.pointer (some ⟨L.R, 0, none⟩), .int .i64 n] w fun e w' => e = .returned (.tuple #[.slice none 0 0, .int .i64 7]) ∧ w' = w := by
  obtain ⟨R, hA, hRel⟩ := h
  exact rwritesE_miss hA (by rw [hRel.len]; exact hn)
theorem RefAt.writes (h : RefAt w L B E) (hB : B ≤ 1000000000) (ht : E.txs[i]? = some t) :
    Calls Tryz.prog 91 #[.pointer (some ⟨L.R, 0, none⟩), .int .i64 ((i : Int) + 1)] w fun e w' => ∃ tv, e = .returned (.tuple #[tv, .int .i64 0]) ∧
      w'.ownsRow w.heap.size 78 2 tv (writesP t.vals).length (vrow (writesP t.vals)) ∧ Below w.heap.size w w' := by
  obtain ⟨R, hA, hRel⟩ := h
  obtain ⟨r, hr, hX⟩ := hRel.getR ht
  have := rwritesE_ok hA hr (by rw [hRel.len]; have := hRel.le; omega) (by have := (hRel.szR hr).2.1; omega)
  rw [rwritesP_eq hX.own] at this
  exact this
set_option maxRecDepth 100000 in
set_option maxHeartbeats 1000000 in
theorem rcommit_shut (h : RefAt w L B E) {n c : Int} (hc : Shut E n c) :
    Calls Tryz.prog 80 #[.pointer (some ⟨L.R, 0, none⟩), .int .i64 n] w fun e w' => e = .returned (.int .i64 c) ∧ w' = w := by
  have HR := hid (h.ready_shut hc)
  have hc0 : c = 6 ∨ c = 7 := by rcases hc with ⟨rfl, _⟩ | ⟨rfl, _⟩ <;> simp
  clear h hc
  rcases hc0 with rfl | rfl
  all_goals
    go_enter Tryz.func80, Tryz.ntmps80
    go_wp2_with fail
    refine HR.out.mono ?_
    rintro e w1 ⟨rfl, rfl⟩
    go_wp2
    go_ret
    exact ⟨rfl, rfl⟩
set_option maxRecDepth 100000 in
set_option maxHeartbeats 1000000 in
theorem rcommit_bad (hg : GoneOk 7) (h : RefAt w L B E) (hB : B ≤ 10000000) (hM : Mid2 E.ce noQ) (ht : E.txs[i]? = some t) (hs : t.state = 0) (hb : betB t.ahead t.behind = true) (he : commitE 7 E i = some (13, E')) :
    Calls Tryz.prog 80 #[.pointer (some ⟨L.R, 0, none⟩), .int .i64 ((i : Int) + 1)] w fun e w' => e = .returned (.int .i64 13) ∧ RefPost L B E' w w' := by
  have hr := h.ready (by omega) ht hs
  rw [show rdyE t = 13 by unfold rdyE; rw [if_pos hb]] at hr
  have hE : endF 7 (loseE E i 13) i 3 = some E' := by
    unfold commitE at he
    rw [ht] at he
    simp only [hb, if_true] at he
    cases hf : endF 7 (loseE E i 13) i 3 with
    | none => rw [hf] at he; cases he
    | some X =>
      rw [hf] at he
      simp only [Option.map_some, Option.some.injEq, Prod.mk.injEq, true_and] at he
      rw [he]
  have HG := hid (hg w L B E E' i t 13 noQ h hB hM hM.live7 ht (live_iff.2 (.inl hs)) (fun h => h) hE)
  have HR := hid hr
  clear h hr hE ht hM
  go_enter Tryz.func80, Tryz.ntmps80
  go_wp2_with fail
  refine HR.out.mono ?_
  rintro e w1 ⟨rfl, hw1⟩
  rw [hw1]
  clear hw1 w1
  go_wp2_with fail
  refine HG.out.mono ?_
  rintro e w1 ⟨rfl, hP⟩
  have HP := hid hP
  clear hP
  go_wp2
  go_ret
  exact ⟨rfl, HP.out⟩
end
end Go.Proofs.YtjefgmeejhakbaaGreatDoor

/- How the document's engine is like the landed one behind a commit. -/
namespace Go.Proofs.YtjefgmeejhakbaaGreatDoor
open Go.RowKit
section
variable {B : Nat} {E : Eng} {R : REng} {i : Nat} {t : Tx} {r : RTx}
def doneT (E : Eng) (t : Tx) : Tx := { t with state := 2, bae := E.txs.length }
def doneR (R : REng) (r : RTx) : RTx := { r with state := 2, over := R.step + 1 }
def cmE (E : Eng) (i : Nat) (t : Tx) (last' : Int) (ks' : List (List (Int × Int))) (wr' : Int → Option Int) (nw' : Nat) : Eng := ({ E with last := last', ks := ks', wr := wr', nw := nw', com := E.com ++ [i] } : Eng).setTx i (doneT E t)
def cmR (R : REng) (i : Nat) (r : RTx) (t : Tx) (last' : Int) (kept' : List (Int × Int × Int)) (wr' : Int → Option Int) (nb' : Nat) : REng := ({ R with last := last', kept := kept', wr := wr', nb := nb', hist := R.hist ++ histOf ((i : Int) + 1) t, step := R.step + 1 } : REng).setTx i (doneR R r)
theorem hist_more {E E' : Eng} {i : Nat} {t : Tx} (hc : E'.com = E.com ++ [i]) (ht : E'.txs[i]? = some t) (h : ∀ j ∈ E.com, E'.txs[j]? = E.txs[j]?) : histP E' = histP E ++ histOf ((i : Int) + 1) t := by
  unfold histP histTo
  rw [hc, List.take_length, List.take_length, List.flatMap_append]
  congr 1
  · rw [List.flatMap_def, List.flatMap_def]
    congr 1
    exact List.map_congr_left (fun j hj => by rw [h j hj])
  · simp [ht]
theorem Rel.done (h : Rel B E R) (ht : E.txs[i]? = some t) (hr : R.txs[i]? = some r) (hl : liveB t.state = true) {last' : Int} {ks' : List (List (Int × Int))} {wr' wrR' : Int → Option Int} {nw' nb' : Nat} {kept' : List (Int × Int × Int)}
    (hdoc : Doc last' ks' kept') (hlb : 0 ≤ last' ∧ last' ≤ 1099511627776) (htim : ∀ x ∈ kept', 0 ≤ x.2.1) (hwr : ∀ c, c ≤ last' → wrR' c = wr' c) (hwrc : ∀ c x, wr' c = some x → E.wr c = some x ∨ x = (i : Int) + 1) (hnw : nw' ≤ nb') (hnb : nb' ≤ R.nb + 1) (hkl : kept'.length ≤ R.kept.length + 10) :
    Rel (B + 10000) (cmE E i t last' ks' wr' nw') (cmR R i r t last' kept' wrR' nb') := by
  have hi := (List.getElem?_eq_some_iff.1 ht).1
  have hx := h.tx i t r ht hr
  have h3 : t.state ≠ 3 := by rcases live_iff.1 hl with e | e <;> omega
  have h2 : t.state ≠ 2 := by rcases live_iff.1 hl with e | e <;> omega
  have hself : (cmE E i t last' ks' wr' nw').txs[i]? = some (doneT E t) := setTx_get (E := { E with last := last', ks := ks', wr := wr', nw := nw', com := E.com ++ [i] }) ht
  have hne : ∀ j, j ≠ i → (cmE E i t last' ks' wr' nw').txs[j]? = E.txs[j]? := fun j hj => by
    show (E.txs.set i _)[j]? = _
    rw [List.getElem?_set_ne (fun e => hj e.symm)]
  have hlen : (cmE E i t last' ks' wr' nw').txs.length = E.txs.length := by show (E.txs.set i _).length = _; rw [List.length_set]
  have hst : ∀ j, stE (cmE E i t last' ks' wr' nw') j = if j = i then 2 else stE E j := fun j => by
    by_cases e : j = i
    · subst e
      rw [if_pos rfl, stE_some hself]
      rfl
    · rw [if_neg e]
      unfold stE
      rw [hne j e]
  have hst3 : ∀ j, stE (cmE E i t last' ks' wr' nw') j ≠ 3 ↔ stE E j ≠ 3 := fun j => by
    rw [hst]
    by_cases e : j = i
    · subst e
      rw [if_pos rfl, stE_some ht]
      exact ⟨fun _ => h3, fun _ => by decide⟩
    · rw [if_neg e]
  have hst2 : ∀ j, stE E j = 2 → stE (cmE E i t last' ks' wr' nw') j = 2 := fun j hj => by
    rw [hst]
    split
    · rfl
    · exact hj
  have hcom : ∀ j ∈ E.com, j ≠ i := fun j hj e => by
    have := h.coms j hj
    rw [e, stE_some ht] at this
    exact h2 this
  obtain ⟨N, z1, z2, z3, z4⟩ := h.sz
  have hp : pot (cmE E i t last' ks' wr' nw') + potT t = pot E + potT (doneT E t) := pot_set (E := { E with last := last', ks := ks', wr := wr', nw := nw', com := E.com ++ [i] }) (doneT E t) ht
  have hp0 : potT (doneT E t) = 0 := rfl
  have hRl : (cmR R i r t last' kept' wrR' nb').txs.length = R.txs.length := by show (R.txs.set i _).length = _; rw [List.length_set]
  refine ⟨by rw [hRl, hlen]; exact h.len, by rw [hlen]; exact h.le, fun j a b ha hb => ?_, rfl, h.T, h.good, by rw [hlen]; exact h.mem, hdoc, hlb, htim, hwr, fun c x hc => ?_, hnw, fun j hj => ?_, ?_, ?_, fun b hb => ?_, fun a ha => ?_, fun a b ra rb tb hra hrb htb hlb' => ?_, by show 0 ≤ R.step + 1; have := h.s0; omega, fun a ha h3a => ?_, N + 1, fun b hb => ?_, by show R.step + 1 ≤ _; omega, by show (nb' : Nat) ≤ _; omega, by show N + 1 + 1000 * pot (cmE E i t last' ks' wr' nw') + 1000 * kept'.length ≤ B + 10000; have : 1 ≤ potT t := (by unfold potT; rw [if_pos hl]; omega); omega⟩
  · rw [hlen]
    rcases rset_cases hb with ⟨rfl, rfl⟩ | ⟨e, hb⟩
    · rw [hself] at ha
      cases ha
      have hx' := hx.st hst3
      exact ⟨hx'.level, rfl, hx'.why, hx'.start, hx'.want, hx'.own, fun _ => hx'.reads h3, fun _ => hx'.seen h3, hx'.be, hx'.ah, hx'.bl, hx'.al, hx'.non⟩
    · rw [hne j e] at ha
      exact (h.tx j a b ha hb).st hst3
  · rcases hwrc c x hc with h' | h'
    · obtain ⟨m, e, hm⟩ := h.wrc c x h'
      exact ⟨m, e, hst2 m hm⟩
    · exact ⟨i, h', by rw [hst, if_pos rfl]⟩
  · rcases List.mem_append.1 hj with hj | hj
    · exact hst2 j (h.coms j hj)
    · rw [List.mem_singleton] at hj
      rw [hst, if_pos hj]
  · show (E.com ++ [i]).Nodup
    rw [List.nodup_append]
    exact ⟨h.comn, by simp, fun a ha b hb e => by rw [List.mem_singleton] at hb; exact hcom a ha (e.trans hb)⟩
  · show R.hist ++ histOf ((i : Int) + 1) t = _
    rw [h.hist, hist_more (E := E) (E' := cmE E i t last' ks' wr' nw') (i := i) (t := doneT E t) rfl hself (fun j hj => hne j (hcom j hj))]
    rfl
  · show b.begun ≤ R.step + 1 ∧ b.over ≤ R.step + 1
    rcases List.mem_or_eq_of_mem_set hb with hb | rfl
    · have := h.bg b hb; omega
    · have := h.bg r (List.mem_of_getElem? hr)
      show r.begun ≤ R.step + 1 ∧ R.step + 1 ≤ R.step + 1
      omega
  · rw [hlen]
    rcases List.mem_or_eq_of_mem_set ha with ha | rfl
    · exact h.bae a ha
    · exact Int.le_refl _
  · have hra2 : ∃ ra', R.txs[a]? = some ra' ∧ ra.begun = ra'.begun := by
      rcases rset_cases hra with ⟨rfl, rfl⟩ | ⟨_, hra⟩
      · exact ⟨r, hr, rfl⟩
      · exact ⟨ra, hra, rfl⟩
    obtain ⟨ra', a1, a2⟩ := hra2
    have hal : a < E.txs.length := by rw [← h.len]; exact (List.getElem?_eq_some_iff.1 a1).1
    rcases rset_cases hrb with ⟨rfl, rfl⟩ | ⟨e, hrb⟩
    · rw [hself] at htb
      cases htb
      have := h.bg ra' (List.mem_of_getElem? a1)
      show ra.begun < R.step + 1 ↔ (a : Int) + 1 ≤ (E.txs.length : Int)
      rw [a2]
      exact ⟨fun _ => by omega, fun _ => by omega⟩
    · rw [hne b e] at htb
      rw [a2]
      exact h.ord a b ra' rb tb a1 hrb htb hlb'
  · rcases List.mem_or_eq_of_mem_set ha with ha | rfl
    · exact h.wy a ha h3a
    · exact h.wy t (List.mem_of_getElem? ht) h3
  · rcases List.mem_or_eq_of_mem_set hb with hb | rfl
    · exact (z1 b hb).mono (by omega)
    · exact (z1 r (List.mem_of_getElem? hr)).mono (by omega)
def insE (E : Eng) (i : Nat) (t : Tx) : Eng := if writesP t.vals = [] ∨ 1099511627776 < E.last + 1 then cmE E i t E.last E.ks E.wr E.nw else cmE E i t (E.last + 1) (instP (E.last + 1) (writesP t.vals) E.ks) (updT E.wr (E.last + 1) (some ((i : Int) + 1))) (E.nw + 1)
def insR (E : Eng) (R : REng) (i : Nat) (r : RTx) (t : Tx) : REng := if writesP t.vals = [] then cmR R i r t R.last R.kept R.wr R.nb else if 1099511627776 < E.last + 1 then cmR R i r t R.last R.kept (updT R.wr (E.last + 1) (some ((i : Int) + 1))) (R.nb + 1) else cmR R i r t (E.last + 1) (R.kept ++ addTo (E.last + 1) (writesP t.vals) 10) (updT R.wr (E.last + 1) (some ((i : Int) + 1))) (R.nb + 1)
theorem Rel.commit (h : Rel B E R) (ht : E.txs[i]? = some t) (hr : R.txs[i]? = some r) (hl : liveB t.state = true) (hf : ∀ p ∈ writesP t.vals, Fine p) : Rel (B + 10000) (insE E i t) (insR E R i r t) := by
  have hup : ∀ c x, updT E.wr (E.last + 1) (some ((i : Int) + 1)) c = some x → E.wr c = some x ∨ x = (i : Int) + 1 := fun c x hc => by
    unfold updT at hc
    split at hc
    · right; injection hc with hc; exact hc.symm
    · exact .inl hc
  have hlb := h.lb
  have hnw := h.nw
  unfold insE insR
  by_cases h1 : writesP t.vals = []
  · rw [if_pos (.inl h1), if_pos h1, h.last]
    exact h.done ht hr hl h.doc h.lb h.tim h.wr (fun c x hc => .inl hc) h.nw (by omega) (by omega)
  · rw [if_neg h1]
    by_cases h2 : 1099511627776 < E.last + 1
    · rw [if_pos (.inr h2), if_pos h2, h.last]
      refine h.done ht hr hl h.doc h.lb h.tim (fun c hc => ?_) (fun c x hc => .inl hc) (by omega) (by omega) (by omega)
      rw [show updT R.wr (E.last + 1) (some ((i : Int) + 1)) c = R.wr c by unfold updT; rw [if_neg (by omega)]]
      exact h.wr c hc
    · rw [if_neg (fun h' => h'.elim h1 h2), if_neg h2]
      refine h.done ht hr hl (h.doc.inst (t := E.last + 1) (by omega) hf) (by omega) (fun x hx => ?_) (fun c hc => ?_) hup (by omega) (by omega) ?_
      · rcases List.mem_append.1 hx with hx | hx
        · exact h.tim x hx
        · have := mem_addTo _ _ _ _ hx; omega
      · unfold updT
        by_cases e : c = E.last + 1
        · rw [if_pos e, if_pos e]
        · rw [if_neg e, if_neg e]
          exact h.wr c (by omega)
      · rw [List.length_append]
        have := addTo_length (E.last + 1) (writesP t.vals) 10
        omega
theorem insE_over (ht : E.txs[i]? = some t) : overE { (installE E i) with com := E.com ++ [i] } i 2 = { insE E i t with T := dropP E.T ((i : Int) + 1) } ∧ (insE E i t).T = E.T := by
  unfold insE installE
  rw [ht]
  simp only
  by_cases h1 : writesP t.vals = [] ∨ 1099511627776 < E.last + 1
  · rw [if_pos h1, if_pos h1]
    refine ⟨?_, rfl⟩
    unfold overE
    rw [Eng.upd_some (E := { E with com := E.com ++ [i] }) (t := t) ht]
    rfl
  · rw [if_neg h1, if_neg h1]
    refine ⟨?_, rfl⟩
    unfold overE
    rw [Eng.upd_some (E := { E with last := E.last + 1, ks := instP (E.last + 1) (writesP t.vals) E.ks, wr := updT E.wr (E.last + 1) (some ((i : Int) + 1)), nw := E.nw + 1, com := E.com ++ [i] }) (t := t) ht]
    rfl
end
end Go.Proofs.YtjefgmeejhakbaaGreatDoor

/- The document's engine: what Commit does to its history. -/
namespace Go.Proofs.YtjefgmeejhakbaaGreatDoor
open Go.RowKit
set_option maxRecDepth 100000 in
theorem step_app_row {w : World} {ops : Array Oper} {o : Oper} {a : Act} {K : Act → World → Prop} {Q : Exit → Act → World → Prop} {X : Prop} (hgd : o.guard = none) (s x : Operand)
    (ho : o.op = .call { callee := .builtin .append, args := #[s, x], argTypes := #[22, 22] }) (base : Nat) (v : Value) (n : Nat) (xs : List Value) (hs : a.eval s = v) (hown : w.ownsRow base 90 4 v n xs)
    (sv : Value) (m : Nat) (news : List Value) (hx : a.eval x = sv) (hsrc : w.ownsRow 0 90 4 sv m news) (h1 : ∀ u ∈ news, u.oneCell' = true) (hn : n + m ≤ 4000000000000) (hbase : base ≤ w.heap.size)
    (h : ∀ v' w', w'.ownsRow base 90 4 v' (n + m) (xs ++ news) → Below base w w' → K (a.put o.dst v') w') : if Region.wanted o (yielded ops a.tmps) = true then Oper.wp Tryz.prog o a w K Q else X := by
  obtain ⟨i0, hi0, hz0, hz1, hz2⟩ := info_parts info90
  have hw : Region.wanted o (yielded ops a.tmps) = true := by simp [Region.wanted, hgd]
  rw [if_pos hw]
  by_cases hm : m = 0
  · subst hm
    have hne : news = [] := List.eq_nil_of_length_eq_zero (by rw [hsrc.1])
    subst hne
    have hrun : (Builtin.append_ #[22, 22] o.type #[v, sv]).run Tryz.prog w = .ok v w := by
      rcases row_slice hsrc with ⟨rfl, _⟩ | ⟨g, c, rfl, _⟩
      · exact run_append_owned_none (P := Tryz.prog) (w := w) base 22 o.type 90 i0 4 Tryz.underlying22 hi0 v n xs hown
      · exact run_append_zero Tryz.underlying22 hi0 hown _ c
    unfold Oper.wp
    simp [execOp, ho, resolve, invoke, builtin, hs, hx, hrun, Result.andThen]
    exact h v w (by simpa using hown) (Below.refl _ _)
  · rcases row_slice hsrc with ⟨_, e0⟩ | ⟨g, c, rfl, hg, hc⟩
    · exact (hm e0).elim
    · refine wp_append_lies w s x _ ho base 90 i0 _ 4 32 Tryz.underlying22 hi0 hz0 hz1 hz2 rfl (by omega) v n xs hs hown ⟨g, 0, none⟩ m c news hx hsrc.1 (fun j u hu => by rw [addr_add]; exact hc j u hu) h1 (by omega) (by unfold maxLen; omega) (by omega) hbase w.heap.size rfl ?_
      intro g' cap w' h2 h3 h4 h5
      refine h _ w' h2 ⟨h3.os, h3.tape, h3.output, h3.size, fun b hb => h3.block b (by omega) (fun e => ?_)⟩
      have := (hown.lt b e.symm).1
      omega
section
variable {w w1 w' : World} {L : REnL} {B : Nat} {E : Eng} {R : REng} {i : Nat} {t : Tx} {r : RTx}
theorem flat_len {α β : Type} (f : α → List β) (M : Nat) : ∀ l : List α, (∀ x ∈ l, (f x).length ≤ M) → (l.flatMap f).length ≤ l.length * M
  | [], _ => by simp
  | a :: q, h => by
    have h1 := flat_len f M q (fun x hx => h x (List.mem_cons_of_mem _ hx))
    have h2 := h a (List.mem_cons_self ..)
    rw [List.flatMap_cons, List.length_append, List.length_cons, Nat.succ_mul]
    omega
theorem Rel.comB (h : Rel B E R) : E.com.length ≤ 200 := by
  refine nodup_lt 200 E.com h.comn (fun j hj => ?_)
  obtain ⟨t, ht, _⟩ := h.comE hj
  have h1 := (List.getElem?_eq_some_iff.1 ht).1
  have h2 := h.le
  omega
theorem Rel.histB (h : Rel B E R) : R.hist.length ≤ 200 * (B + 10) := by
  rw [h.hist]
  unfold histP histTo
  rw [List.take_length]
  refine Nat.le_trans (flat_len _ (B + 10) E.com (fun j hj => ?_)) (Nat.mul_le_mul_right _ h.comB)
  obtain ⟨t, ht, hs⟩ := h.comE hj
  obtain ⟨r, hr, hx⟩ := h.getR ht
  have h1 := (h.szR hr).1
  rw [hx.reads (by omega)] at h1
  have h2 := writesP_len t.vals
  rw [ht]
  simp only [histOf, List.length_append, List.length_map]
  omega
theorem REnAt.hist8 (h : REnAt w L R) {v : Value} (ho : w1.ownsRow w.heap.size 90 4 v (R.hist.length + r.reads.length) (opsV R.hist ++ opsV r.reads)) (hB : Below w.heap.size w w1) :
    (∃ hv, w1.cell? ⟨L.R, 15, none⟩ = some hv) ∧ w1.frozen? ⟨L.R, 15, none⟩ = false ∧ REnAt (w1.setCell ⟨L.R, 15, none⟩ v) { L with hv := v } { R with hist := R.hist ++ r.reads } ∧ KeptO L.own ({ L with hv := v } : REnL).own w (w1.setCell ⟨L.R, 15, none⟩ v) := by
  have h1 := h.below hB
  refine ⟨⟨_, h1.c15⟩, h1.freeR 15, ?_⟩
  refine h.setHist (hist' := R.hist ++ r.reads) (by rw [List.length_append, opsV_append]; exact ⟨ho.1, ho.2.imp id (fun ⟨g, c, cur, a, b, q⟩ => ⟨g, c, cur, a, Nat.le_trans h.lt b, q⟩)⟩) ⟨hB.os, hB.tape, hB.output⟩ hB.size (fun g hg _ => hB.block g hg) (fun g hg => .inr (ho.lt g hg).1)
theorem REnAt.hist12 (h : REnAt w L R) {o : Int × Int × Bool × Int} {W : World} (hW : Below w.heap.size w W) {gg cap : Nat} (ho : w1.ownsRow (L.R + 1) 90 4 (.slice (some ⟨gg, 0, none⟩) (R.hist.length + 1) cap) (R.hist.length + 1) (opsV R.hist ++ opsV [o])) (hg : W.grownBy w1 L.hv.ownBlock) (hat : L.hv.ownBlock = some gg ∨ w.heap.size ≤ gg) :
    (∃ hv, w1.cell? ⟨L.R, 15, none⟩ = some hv) ∧ w1.frozen? ⟨L.R, 15, none⟩ = false ∧ REnAt (w1.setCell ⟨L.R, 15, none⟩ (.slice (some ⟨gg, 0, none⟩) (R.hist.length + 1) cap)) { L with hv := .slice (some ⟨gg, 0, none⟩) (R.hist.length + 1) cap } { R with hist := R.hist ++ [o] } ∧
      KeptO L.own ({ L with hv := .slice (some ⟨gg, 0, none⟩) (R.hist.length + 1) cap } : REnL).own w (w1.setCell ⟨L.R, 15, none⟩ (.slice (some ⟨gg, 0, none⟩) (R.hist.length + 1) cap)) := by
  have hsz := hW.size
  have hsz2 := hg.size
  have hlt := h.lt
  have hb : ∀ g, g < w.heap.size → L.hv.ownBlock ≠ some g → w1.heap[g]? = w.heap[g]? := fun g h1 h2 => (hg.block g (by omega) (fun e => h2 e.symm)).trans (hW.block g h1)
  obtain ⟨ρ, T⟩ := h.tag
  have hne : L.hv.ownBlock ≠ some L.R := fun e => by have h1 := T.hist _ e; rw [T.eng] at h1; cases h1
  have hblk := (hb L.R hlt hne).trans h.blk
  refine ⟨⟨L.hv, ?_⟩, by simp [World.frozen?, hblk], ?_⟩
  · rw [World.cell?_of_block (a := ⟨L.R, 15, none⟩) (hb L.R hlt hne)]
    exact h.c15
  · exact h.setHist (hist' := R.hist ++ [o]) (by rw [List.length_append, opsV_append]; exact ho) ⟨hg.os.trans hW.os, hg.tape.trans hW.tape, hg.output.trans hW.output⟩ (by omega) hb (fun g hg' => by
      have e : gg = g := by simpa [Value.ownBlock] using hg'
      rw [← e]
      exact hat)
end
end Go.Proofs.YtjefgmeejhakbaaGreatDoor

/- The document's engine: the end of a commit. -/
namespace Go.Proofs.YtjefgmeejhakbaaGreatDoor
open Go.RowKit
section
variable {w w1 w' : World} {L : REnL} {B : Nat} {E E' : Eng} {R S : REng} {i : Nat} {t : Tx} {r : RTx} {l : RTxL}
theorem com_end (hd : DropsOk 6) (hz : REnAt w L S) (hli : L.txs[i]? = some l) (hr : S.txs[i]? = some r) (hS : ({ S with step := S.step + 1 } : REng).setTx i (doneR S r) = insR E R i r t) (hRel : Rel (B + 10000) (insE E i t) (insR E R i r t)) (hB : B + 10000 ≤ 10000000)
    (hM : Mid2 E.ce noQ) (ht : E.txs[i]? = some t) (hl : liveB t.state = true) (he : endF 7 { (installE E i) with com := E.com ++ [i] } i 2 = some E') :
    w.cell? ⟨L.R, 13, none⟩ = some (.int .i64 S.step) ∧ w.frozen? ⟨L.R, 13, none⟩ = false ∧ w.cell? ⟨l.b, 1, none⟩ = some (.int .i64 r.state) ∧ w.frozen? ⟨l.b, 1, none⟩ = false ∧ w.cell? ⟨l.b, 5, none⟩ = some (.int .i64 r.over) ∧ w.frozen? ⟨l.b, 5, none⟩ = false ∧ l.b ≠ L.R ∧
    Calls Tryz.prog 142 #[.pointer (some ⟨L.R, 0, none⟩), .int .i64 ((i : Int) + 1)] (((w.setCell ⟨L.R, 13, none⟩ (.int .i64 (S.step + 1))).setCell ⟨l.b, 1, none⟩ (.int .i64 2)).setCell ⟨l.b, 5, none⟩ (.int .i64 (S.step + 1))) fun e w' => e = .returned (.tuple #[]) ∧ RefPost L (B + 10000) E' w w' := by
  have hTi := hz.txs i l r hli hr
  have hne : l.b ≠ L.R := by
    obtain ⟨ρ, T⟩ := hz.tag
    intro e
    have h1 := T.txb i l hli
    rw [e, T.eng] at h1
    cases h1
  obtain ⟨h1, k1⟩ := hz.setStep (S.step + 1)
  obtain ⟨h2, k2⟩ := h1.setCell (o := 1) (v := .int .i64 2) (t' := { r with state := 2 }) hli hr rfl rfl rfl rfl rfl
  obtain ⟨h4, k4⟩ := h2.setCell (o := 5) (v := .int .i64 (S.step + 1)) (t' := { r with state := 2, over := S.step + 1 }) hli (rsetTx_get (E := { S with step := S.step + 1 }) hr) rfl rfl rfl rfl rfl
  rw [rsetTx_twice] at h4
  have e4 : ({ S with step := S.step + 1 } : REng).setTx i { r with state := 2, over := S.step + 1 } = insR E R i r t := hS
  rw [e4] at h4
  obtain ⟨hM1, hl1⟩ := hM.commitE (i := i) (fun h => h) ht hl
  obtain ⟨eo, eT⟩ := insE_over (E := E) (i := i) ht
  have he2 : goR (endF 6) (outP (installE E i).T ((i : Int) + 1)) (overE { (installE E i) with com := E.com ++ [i] } i 2) = some E' := he
  clear he
  rw [inst_T, eo] at he2
  rw [eo] at hM1 hl1
  rw [noQ_or] at hM1
  have h7 := hM.live7
  have hdr := hd _ L (B + 10000) (insE E i t) E' i (outQ E.T i) ⟨_, h4, hRel⟩ hB (by rw [eT]; exact hM1) (by have : (insE E i t).ce.live = ({ insE E i t with T := dropP E.T ((i : Int) + 1) } : Eng).ce.live := rfl; omega) (by
    rw [eT]
    intro p hp'
    obtain ⟨k', x'⟩ := p
    have h5 := out_tail hp' (by omega)
    obtain ⟨m, u', e, _⟩ := hM.loc.mem k' x' (List.mem_of_mem_tail h5.1)
    subst e
    exact ⟨m, rfl, k', hp'⟩) (by rw [eT]; exact out_nodup hM.loc.good.tidy (by omega)) (by rw [eT]; exact he2)
  refine ⟨hz.c13, hz.freeR 13, (hTi.cell 1).trans rfl, REnAt.free (L := L) hTi 1, (hTi.cell 5).trans rfl, REnAt.free (L := L) hTi 5, hne, hdr.mono ?_⟩
  rintro e w' ⟨rfl, L', a1, a2, a3, a4⟩
  exact ⟨rfl, L', a1, ((k1.trans k2).trans k4).trans a2, a3, a4⟩
theorem insR_nil (hn : writesP t.vals = []) : ({ { R with hist := R.hist ++ histOf ((i : Int) + 1) t } with step := R.step + 1 } : REng).setTx i (doneR R r) = insR E R i r t := by
  unfold insR
  rw [if_pos hn]
  rfl
theorem insR_full (hn : writesP t.vals ≠ []) (hf : 1099511627776 < E.last + 1) : ({ { R with hist := R.hist ++ histOf ((i : Int) + 1) t, wr := updT R.wr (E.last + 1) (some ((i : Int) + 1)), nb := R.nb + 1 } with step := R.step + 1 } : REng).setTx i (doneR R r) = insR E R i r t := by
  unfold insR
  rw [if_neg hn, if_pos hf]
  rfl
theorem insR_in (hn : writesP t.vals ≠ []) (hf : ¬ 1099511627776 < E.last + 1) : ({ { R with hist := R.hist ++ histOf ((i : Int) + 1) t, wr := updT R.wr (E.last + 1) (some ((i : Int) + 1)), nb := R.nb + 1, last := E.last + 1, kept := R.kept ++ addTo (E.last + 1) (writesP t.vals) 10 } with step := R.step + 1 } : REng).setTx i (doneR R r) = insR E R i r t := by
  unfold insR
  rw [if_neg hn, if_neg hf]
  rfl
end
end Go.Proofs.YtjefgmeejhakbaaGreatDoor

/- A region that draws its order, by what each of its operations leaves: whatever order, what one left stays so when another one goes. -/
namespace Go.Proofs.YtjefgmeejhakbaaGreatDoor
open Go
def DoneAt (listed : Array Bool) (j : Nat) : Prop := listed.getD j false = true
theorem ready_spec {md : Region.Mode} {ops : Array Oper} {listed : Array Bool} {i : Nat} (h : i ∈ Region.ready md ops listed) :
    i < ops.size ∧ listed.getD i true = false ∧ ∀ o, ops[i]? = some o → ∀ e ∈ o.after, Region.binds md e = true → DoneAt listed e.on := by
  unfold Region.ready at h
  obtain ⟨h1, h2⟩ := List.mem_filter.1 h
  have h1 := List.mem_range.1 h1
  simp only [Bool.and_eq_true, Bool.not_eq_true'] at h2
  refine ⟨h1, h2.1, fun o ho e he hb => ?_⟩
  have h3 := h2.2
  rw [ho] at h3
  simp only [Option.map_some, Option.getD_some] at h3
  rw [Array.all_eq_true_iff_forall_mem] at h3
  have := h3 e he
  rw [hb] at this
  simpa [DoneAt] using this
theorem done_set {listed : Array Bool} {i j : Nat} (h : DoneAt (listed.setIfInBounds i true) j) : j = i ∨ DoneAt listed j := by
  unfold DoneAt at *
  by_cases e : j = i
  · exact .inl e
  · right
    simp only [Array.getD_eq_getD_getElem?] at *
    rw [Array.getElem?_setIfInBounds_ne (fun h => e h.symm)] at h
    exact h
theorem done_mono {listed : Array Bool} {i j : Nat} (h : DoneAt listed j) : DoneAt (listed.setIfInBounds i true) j := by
  unfold DoneAt at *
  simp only [Array.getD_eq_getD_getElem?] at *
  by_cases e : i = j
  · subst e
    cases hi : listed[i]? with
    | none => rw [hi] at h; cases h
    | some b =>
      have := (Array.getElem?_eq_some_iff.1 hi).1
      rw [Array.getElem?_setIfInBounds_self_of_lt this]
      rfl
  · rw [Array.getElem?_setIfInBounds_ne e]
    exact h
theorem done_self {listed : Array Bool} {i : Nat} (h : i < listed.size) : DoneAt (listed.setIfInBounds i true) i := by
  unfold DoneAt
  simp only [Array.getD_eq_getD_getElem?]
  rw [Array.getElem?_setIfInBounds_self_of_lt h]
  rfl
def leftOf (n : Nat) (listed : Array Bool) : Nat := ((List.range n).filter (fun i => !listed.getD i true)).length
theorem left_step {n i : Nat} {listed : Array Bool} (hi : i < n) (hs : n ≤ listed.size) (h : listed.getD i true = false) : leftOf n (listed.setIfInBounds i true) < leftOf n listed := by
  unfold leftOf
  have key : ∀ l : List Nat, l.Nodup → i ∈ l → (l.filter (fun j => !(listed.setIfInBounds i true).getD j true)).length < (l.filter (fun j => !listed.getD j true)).length := by
    intro l
    induction l with
    | nil => intro _ h; cases h
    | cons x r ih =>
      intro hn hm
      have hn' := List.nodup_cons.1 hn
      rw [List.filter_cons, List.filter_cons]
      by_cases e : x = i
      · subst e
        have h1 : (listed.setIfInBounds x true).getD x true = true := by
          rw [Array.getD_eq_getD_getElem?, Array.getElem?_setIfInBounds_self_of_lt (by omega)]; rfl
        rw [h1, h]
        have h2 : r.filter (fun j => !(listed.setIfInBounds x true).getD j true) = r.filter (fun j => !listed.getD j true) := List.filter_congr (fun j hj => by
          have : x ≠ j := fun e => hn'.1 (e ▸ hj)
          rw [Array.getD_eq_getD_getElem?, Array.getElem?_setIfInBounds_ne this, ← Array.getD_eq_getD_getElem?])
        rw [h2]
        simp
      · have h1 : (listed.setIfInBounds i true).getD x true = listed.getD x true := by
          rw [Array.getD_eq_getD_getElem?, Array.getElem?_setIfInBounds_ne (fun h => e h.symm), ← Array.getD_eq_getD_getElem?]
        rw [h1]
        have := ih hn'.2 (by rcases List.mem_cons.1 hm with h | h; exact (e h.symm).elim; exact h)
        split
        · simp only [List.length_cons]; omega
        · exact this
  exact key _ List.nodup_range (List.mem_range.2 hi)
section
variable {P : Program} {ops : Array Oper} {Q : Exit → Act → World → Prop}
theorem wpOp_imp {i : Nat} {K K' : Act → World → Prop} {a : Act} {w : World} (h : ∀ a w, K a w → K' a w) (hh : wpOp P ops Q i K a w) : wpOp P ops Q i K' a w := by
  unfold wpOp at *
  split
  · rename_i e
    rw [e] at hh
    exact h _ _ hh
  · rename_i o e
    rw [e] at hh
    simp only at hh ⊢
    split
    · rename_i hw
      rw [if_pos hw] at hh
      exact hh.imp (Oper.wp_mono h) id
    · rename_i hw
      rw [if_neg hw] at hh
      exact h _ _ hh
theorem wpAny_inv (Inv : Array Bool → Act → World → Prop) (hstep : ∀ (listed : Array Bool) (a : Act) (w : World) (i : Nat), Inv listed a w → i ∈ Region.ready .any ops listed → wpOp P ops Q i (Inv (listed.setIfInBounds i true)) a w)
    (hfin : ∀ (listed : Array Bool) (a : Act) (w : World), Inv listed a w → Region.ready .any ops listed = [] → Q .normal a w) :
    ∀ (fuel : Nat) (listed : Array Bool) (a : Act) (w : World), ops.size ≤ listed.size → leftOf ops.size listed ≤ fuel → Inv listed a w → wpAny P .any ops Q fuel listed a w := by
  intro fuel
  induction fuel with
  | zero =>
    intro listed a w hs hl hI
    have hr : Region.ready .any ops listed = [] := by
      cases hc : Region.ready .any ops listed with
      | nil => rfl
      | cons i r =>
        have h := ready_spec (md := .any) (ops := ops) (listed := listed) (i := i) (by rw [hc]; exact List.mem_cons_self ..)
        have := left_step h.1 hs h.2.1
        omega
    exact ⟨hr, hfin listed a w hI hr⟩
  | succ f ih =>
    intro listed a w hs hl hI
    refine ⟨hfin listed a w hI, fun i hi => ?_⟩
    have h := ready_spec hi
    have := left_step h.1 hs h.2.1
    exact wpOp_imp (fun a' w' hI' => ih _ a' w' (by simpa using hs) (by omega) hI') (hstep listed a w i hI hi)
theorem region_inv {id : Nat} {a : Act} {w : World} (hm : P.follows .mixedOrders = true) (Inv : Array Bool → Act → World → Prop)
    (hstart : Inv (Array.replicate ops.size false) a w.drew)
    (hstep : ∀ (listed : Array Bool) (a : Act) (w : World) (i : Nat), Inv listed a w → i ∈ Region.ready .any ops listed → wpOp P ops Q i (Inv (listed.setIfInBounds i true)) a w)
    (hfin : ∀ (listed : Array Bool) (a : Act) (w : World), Inv listed a w → Region.ready .any ops listed = [] → Q .normal a w) : (Code.region id ops true).wp P Q a w := by
  refine wp_region_any hm (wpAny_inv Inv hstep hfin _ _ a _ (by simp) ?_ hstart)
  unfold leftOf
  exact Nat.le_trans (List.length_filter_le _ _) (by simp)
def ClosedAt (ops : Array Oper) (listed : Array Bool) : Prop := ∀ (i : Nat) (o : Oper), ops[i]? = some o → DoneAt listed i → ∀ e ∈ o.after, Region.binds .any e = true → DoneAt listed e.on
def backB (ops : Array Oper) : Bool := (List.range ops.size).all (fun i => match ops[i]? with
  | some o => o.after.toList.all (fun e => !Region.binds .any e || decide (e.on < i))
  | none => true)
theorem all_done (hb : backB ops = true) {listed : Array Bool} (hs : listed.size = ops.size) (hr : Region.ready .any ops listed = []) : ∀ i, i < ops.size → DoneAt listed i := by
  intro i
  induction i using Nat.strongRecOn with
  | _ i ih =>
    intro hi
    refine Classical.byContradiction (fun hn => ?_)
    have ho : ops[i]? = some ops[i] := Array.getElem?_eq_getElem hi
    unfold backB at hb
    have hbi := List.all_eq_true.1 hb i (List.mem_range.2 hi)
    rw [ho] at hbi
    simp only at hbi
    rw [List.all_eq_true] at hbi
    have : i ∈ Region.ready .any ops listed := by
      unfold Region.ready
      refine List.mem_filter.2 ⟨List.mem_range.2 hi, ?_⟩
      have h1 : listed.getD i true = false := by
        unfold DoneAt at hn
        rw [Array.getD_eq_getD_getElem?, Array.getElem?_eq_getElem (by omega)] at hn ⊢
        simpa using hn
      rw [h1, ho]
      simp only [Bool.not_false, Bool.true_and, Option.map_some, Option.getD_some]
      rw [Array.all_eq_true_iff_forall_mem]
      intro e he
      have h2 := hbi e (by simpa using he)
      cases hbd : Region.binds .any e with
      | false => rfl
      | true =>
        rw [hbd] at h2
        simp only [Bool.not_true, Bool.false_or, decide_eq_true_eq] at h2
        have := ih e.on h2 (by omega)
        unfold DoneAt at this
        rw [this]
        rfl
    rw [hr] at this
    cases this
instance (listed : Array Bool) (j : Nat) : Decidable (DoneAt listed j) := by unfold DoneAt; infer_instance
theorem not_done_replicate (n j : Nat) : ¬ DoneAt (Array.replicate n false) j := by
  unfold DoneAt
  rw [Array.getD_eq_getD_getElem?, Array.getElem?_replicate]
  split <;> simp
end
end Go.Proofs.YtjefgmeejhakbaaGreatDoor

/- A region that draws its order: its first operations only read; its last ones wait for all that stand ahead of them, and may do what they like. -/
namespace Go.Proofs.YtjefgmeejhakbaaGreatDoor
open Go
def guardsB (l : List Oper) : Bool := l.all (fun o => match o.guard with
  | none => true
  | some (j, _) => decide (j < l.length))
def covB (ops : Array Oper) (j : Nat) : Bool := (List.range j).all (fun i => (List.range (j - i)).any (fun d => match ops[i + 1 + d]? with
  | some o => o.after.toList.any (fun e => Region.binds .any e && e.on == i)
  | none => false))
theorem cov_done {ops : Array Oper} {j : Nat} (h : covB ops j = true) {listed : Array Bool} (hc : ClosedAt ops listed) (hj : ∀ o, ops[j]? = some o → ∀ e ∈ o.after, Region.binds .any e = true → DoneAt listed e.on) : ∀ i, i < j → DoneAt listed i := by
  have key : ∀ (d i : Nat), i < j → j - i ≤ d → DoneAt listed i := by
    intro d
    induction d with
    | zero => intro i hi h0; omega
    | succ d ih =>
      intro i hi hd
      unfold covB at h
      have h1 := List.all_eq_true.1 h i (List.mem_range.2 hi)
      obtain ⟨x, hx, h2⟩ := List.any_eq_true.1 h1
      have hx := List.mem_range.1 hx
      cases ho : ops[i + 1 + x]? with
      | none => rw [ho] at h2; cases h2
      | some o =>
        rw [ho] at h2
        simp only at h2
        obtain ⟨e, he, h3⟩ := List.any_eq_true.1 h2
        simp only [Bool.and_eq_true, beq_iff_eq] at h3
        have he' : e ∈ o.after := by simpa using he
        rw [← h3.2]
        by_cases hij : i + 1 + x = j
        · exact hj o (by rw [← hij]; exact ho) e he' h3.1
        · exact hc _ o ho (ih (i + 1 + x) (by omega) (by omega)) e he' h3.1
  exact fun i hi => key (j - i) i hi (Nat.le_refl _)
section
variable {P : Program} {Q : Exit → Act → World → Prop} {C : World → Prop} {l m : List Oper}
theorem app_get {i : Nat} (hi : i < l.length) : (l ++ m).toArray[i]? = l.toArray[i]? := by
  simp only [List.getElem?_toArray]
  rw [List.getElem?_append_left hi]
theorem app_wanted (hg : guardsB l = true) {i : Nat} {o : Oper} (ho : l.toArray[i]? = some o) (tmps : Array Value) : Region.wanted o (yielded (l ++ m).toArray tmps) = Region.wanted o (yielded l.toArray tmps) := by
  unfold guardsB at hg
  have hm : o ∈ l := List.mem_of_getElem? (by simpa using ho)
  have h1 := List.all_eq_true.1 hg o hm
  unfold Region.wanted
  cases hgd : o.guard with
  | none => rfl
  | some p =>
    obtain ⟨j, b⟩ := p
    rw [hgd] at h1
    simp only [decide_eq_true_eq] at h1
    simp only
    unfold yielded
    rw [app_get h1]
theorem app_wpOp (hg : guardsB l = true) {i : Nat} (hi : i < l.length) {K : Act → World → Prop} {a : Act} {w : World} (h : wpOp P l.toArray Q i K a w) : wpOp P (l ++ m).toArray Q i K a w := by
  unfold wpOp at *
  rw [app_get hi]
  have hs : l.toArray[i]? = some l[i] := by simp [hi]
  rw [hs] at h ⊢
  simp only at h ⊢
  rw [app_wanted hg hs]
  exact h
theorem region_quiet_last {id : Nat} {a : Act} {w : World} (hm : P.follows .mixedOrders = true) (hns : Region.noSelect l.toArray = true) (hB : Region.lexFrom .any l.toArray l.length 0 (Array.replicate (l ++ m).length false) = true) (hb : backB (l ++ m).toArray = true)
    (hc : (List.range m.length).all (fun k => covB (l ++ m).toArray (l.length + k)) = true) (hg : guardsB l = true) (hne : m ≠ []) (hC : C w.drew)
    (h : wpQuiet P l.toArray C (fun a' => ∀ w', C w' → wpList P (l ++ m).toArray Q m a' w') l a) : (Code.region id (l ++ m).toArray true).wp P Q a w := by
  have hsz : (l ++ m).toArray.size = l.length + m.length := by simp
  have hcov : ∀ k, k < m.length → covB (l ++ m).toArray (l.length + k) = true := fun k hk => List.all_eq_true.1 hc k (List.mem_range.2 hk)
  have hget : ∀ k o, m[k]? = some o → (l ++ m).toArray[l.length + k]? = some o := fun k o ho => by
    simp only [List.getElem?_toArray]
    rw [List.getElem?_append_right (by omega), show l.length + k - l.length = k by omega]
    exact ho
  refine region_inv hm (fun listed a w => listed.size = l.length + m.length ∧ ClosedAt (l ++ m).toArray listed ∧
    (((∀ i, l.length ≤ i → ¬ DoneAt listed i) ∧ C w ∧ ∃ fuel, wpAnyQ P .any l.toArray C (fun a' => ∀ w', C w' → wpList P (l ++ m).toArray Q m a' w') fuel listed a) ∨
      ∃ k, k ≤ m.length ∧ 0 < k ∧ (∀ i, i < l.length + k → DoneAt listed i) ∧ (∀ i, l.length + k ≤ i → ¬ DoneAt listed i) ∧ wpList P (l ++ m).toArray Q (m.drop k) a w)) ?start ?step ?fin
  case start =>
    refine ⟨by simp, fun i o _ hd => (not_done_replicate _ _ hd).elim, .inl ⟨fun i _ => not_done_replicate _ _, hC, l.length, ?_⟩⟩
    rw [hsz, ← List.length_append]
    exact wpAnyQ_lex hns l 0 _ a (by simp) hB h
  case step =>
    intro listed a w i hI hi
    obtain ⟨h1, h2, h3⟩ := ready_spec hi
    obtain ⟨hls, hcl, hI⟩ := hI
    rw [hsz] at h1
    have ho : (l ++ m).toArray[i]? = some (l ++ m).toArray[i] := Array.getElem?_eq_getElem (by rw [hsz]; exact h1)
    have hdeps := h3
    have hnd : ¬ DoneAt listed i := fun hd => by
      unfold DoneAt at hd
      have : i < listed.size := by omega
      rw [Array.getD_eq_getD_getElem?, Array.getElem?_eq_getElem this] at h2 hd
      simp only [Option.getD_some] at h2 hd
      rw [h2] at hd
      cases hd
    have hcl' : ClosedAt (l ++ m).toArray (listed.setIfInBounds i true) := fun j o hj hd e he hbd => by
      rcases done_set hd with rfl | hd
      · exact done_mono (hdeps o hj e he hbd)
      · exact done_mono (hcl j o hj hd e he hbd)
    -- the last ones: number l.length + k
    have hlast : ∀ k, (∀ i', l.length + k ≤ i' → ¬ DoneAt listed i') → i = l.length + k → (∀ i', i' < l.length + k → DoneAt listed i') → wpList P (l ++ m).toArray Q (m.drop k) a w → wpOp P (l ++ m).toArray Q i (fun a' w' => (listed.setIfInBounds i true).size = l.length + m.length ∧ ClosedAt (l ++ m).toArray (listed.setIfInBounds i true) ∧
        (((∀ i', l.length ≤ i' → ¬ DoneAt (listed.setIfInBounds i true) i') ∧ C w' ∧ ∃ fuel, wpAnyQ P .any l.toArray C (fun a' => ∀ w', C w' → wpList P (l ++ m).toArray Q m a' w') fuel (listed.setIfInBounds i true) a') ∨
          ∃ k, k ≤ m.length ∧ 0 < k ∧ (∀ i', i' < l.length + k → DoneAt (listed.setIfInBounds i true) i') ∧ (∀ i', l.length + k ≤ i' → ¬ DoneAt (listed.setIfInBounds i true) i') ∧ wpList P (l ++ m).toArray Q (m.drop k) a' w')) a w := by
      intro k hnk hik hdk hw
      have hk : k < m.length := by omega
      have hmk : m[k]? = some m[k] := List.getElem?_eq_getElem hk
      rw [List.drop_eq_getElem_cons hk] at hw
      have hgo : (l ++ m).toArray[i]? = some m[k] := by rw [hik]; exact hget k _ hmk
      have hnext : ∀ a' w', wpList P (l ++ m).toArray Q (m.drop (k + 1)) a' w' → ((listed.setIfInBounds i true).size = l.length + m.length ∧ ClosedAt (l ++ m).toArray (listed.setIfInBounds i true) ∧
        (((∀ i', l.length ≤ i' → ¬ DoneAt (listed.setIfInBounds i true) i') ∧ C w' ∧ ∃ fuel, wpAnyQ P .any l.toArray C (fun a' => ∀ w', C w' → wpList P (l ++ m).toArray Q m a' w') fuel (listed.setIfInBounds i true) a') ∨
          ∃ k, k ≤ m.length ∧ 0 < k ∧ (∀ i', i' < l.length + k → DoneAt (listed.setIfInBounds i true) i') ∧ (∀ i', l.length + k ≤ i' → ¬ DoneAt (listed.setIfInBounds i true) i') ∧ wpList P (l ++ m).toArray Q (m.drop k) a' w')) := fun a' w' hw' => by
        refine ⟨by simpa using hls, hcl', .inr ⟨k + 1, by omega, by omega, fun i' hi' => ?_, fun i' hi' hd => ?_, hw'⟩⟩
        · by_cases e : i' = i
          · subst e; exact done_self (by omega)
          · exact done_mono (hdk i' (by omega))
        · rcases done_set hd with rfl | hd
          · omega
          · exact hnk i' (by omega) hd
      unfold wpOp
      rw [hgo]
      simp only
      simp only [wpList] at hw
      split
      · rename_i hwt
        rw [if_pos hwt] at hw
        exact hw.imp (Oper.wp_mono hnext) _root_.id
      · rename_i hwt
        rw [if_neg hwt] at hw
        exact hnext _ _ hw
    rcases hI with ⟨hno, hCw, fuel, hq⟩ | ⟨k, hk, hk0, hdk, hnk, hw⟩
    · by_cases hic : i < l.length
      · have hir : i ∈ Region.ready .any l.toArray listed := by
          unfold Region.ready at hi ⊢
          obtain ⟨_, p2⟩ := List.mem_filter.1 hi
          refine List.mem_filter.2 ⟨List.mem_range.2 (by simpa using hic), ?_⟩
          rw [app_get hic] at p2
          exact p2
        cases fuel with
        | zero => rw [hq.1] at hir; cases hir
        | succ fuel =>
          refine app_wpOp hg hic (wpOp_of_qOp hCw (fun a' w' hw' hK => ?_) (hq.2 i hir))
          refine ⟨by simpa using hls, hcl', .inl ⟨fun i' hi' hd => ?_, hw', fuel, hK⟩⟩
          rcases done_set hd with rfl | hd
          · omega
          · exact hno i' hi' hd
      · have hall := cov_done (hcov (i - l.length) (by omega)) hcl (fun o ho' => hdeps o (by rw [show l.length + (i - l.length) = i by omega] at ho'; exact ho'))
        rw [show l.length + (i - l.length) = i by omega] at hall
        have hie : i = l.length := Classical.byContradiction (fun hn => hno l.length (Nat.le_refl _) (hall l.length (by omega)))
        have hready : Region.ready .any l.toArray listed = [] := by
          unfold Region.ready
          refine List.filter_eq_nil_iff.2 (fun x hx => ?_)
          have hx := List.mem_range.1 hx
          have hd := hall x (by rw [hie]; simpa using hx)
          unfold DoneAt at hd
          have hx2 : x < l.length := by simpa using hx
          have hxl : x < listed.size := by omega
          rw [Array.getD_eq_getD_getElem?, Array.getElem?_eq_getElem hxl] at hd ⊢
          simp only [Option.getD_some] at hd ⊢
          rw [hd]
          simp
        have hQ0 : ∀ w', C w' → wpList P (l ++ m).toArray Q m a w' := by
          cases fuel with
          | zero => exact hq.2
          | succ fuel => exact hq.1 hready
        exact hlast 0 (fun i' hi' => hno i' (by omega)) (by omega) (fun i' hi' => hall i' (by omega)) (by simpa using hQ0 w hCw)
    · have hik : l.length + k ≤ i := Nat.le_of_not_lt (fun hlt => hnd (hdk i hlt))
      have hall := cov_done (hcov (i - l.length) (by omega)) hcl (fun o ho' => hdeps o (by rw [show l.length + (i - l.length) = i by omega] at ho'; exact ho'))
      rw [show l.length + (i - l.length) = i by omega] at hall
      have hie : i = l.length + k := Classical.byContradiction (fun hn => hnk (l.length + k) (Nat.le_refl _) (hall (l.length + k) (by omega)))
      exact hlast k hnk hie hdk hw
  case fin =>
    intro listed a w hI hr
    obtain ⟨hls, hcl, hI⟩ := hI
    have hall := all_done hb (by rw [hsz]; exact hls) hr
    rw [hsz] at hall
    have hml : 0 < m.length := List.length_pos_iff.2 hne
    rcases hI with ⟨hno, _, _⟩ | ⟨k, hk, hk0, hdk, hnk, hw⟩
    · exact (hno l.length (Nat.le_refl _) (hall l.length (by omega))).elim
    · have hke : k = m.length := Classical.byContradiction (fun hn => hnk (l.length + k) (Nat.le_refl _) (hall (l.length + k) (by omega)))
      rw [hke, List.drop_length] at hw
      exact hw
theorem region_quiet_at {L : List Oper} (c : Nat) {id : Nat} {a : Act} {w : World} (hm : P.follows .mixedOrders = true) (hns : Region.noSelect (L.take c).toArray = true) (hB : Region.lexFrom .any (L.take c).toArray (L.take c).length 0 (Array.replicate L.length false) = true) (hb : backB L.toArray = true)
    (hc : (List.range (L.drop c).length).all (fun k => covB L.toArray ((L.take c).length + k)) = true) (hg : guardsB (L.take c) = true) (hne : (L.drop c).isEmpty = false)
    (h : wpQuiet P (L.take c).toArray (fun w' => ∃ n, w' = w.drewN n) (fun a' => ∀ w', (∃ n, w' = w.drewN n) → wpList P L.toArray Q (L.drop c) a' w') (L.take c) a) : (Code.region id L.toArray true).wp P Q a w := by
  have e : L = L.take c ++ L.drop c := (List.take_append_drop c L).symm
  have := region_quiet_last (P := P) (Q := Q) (C := fun w' => ∃ n, w' = w.drewN n) (l := L.take c) (m := L.drop c) (id := id) (a := a) (w := w) hm hns (by rw [← e]; exact hB) (by rw [← e]; exact hb) (by rw [← e]; exact hc) hg (fun e' => by rw [e'] at hne; cases hne) ⟨1, rfl⟩ (by rw [← e]; exact h)
  rw [← e] at this
  exact this
end
end Go.Proofs.YtjefgmeejhakbaaGreatDoor
