/- Tell EnPlain EnFind OrPlain: put together for a claim. -/
import Derived.Test.YtjefgmeejhakbaaGreatDoorMgAB
import Derived.WalkSpells
import Derived.Test.YtjefgmeejhakbaaGreatDoorMgAJ
import Derived.BigQuiet
/- api.Tell. -/
namespace Go.Proofs.YtjefgmeejhakbaaGreatDoor
open Go.RowKit

def Handle (w : World) : Prop := w.cell? ⟨0, 0, none⟩ = some (.iface 263 (.agg #[.pointer (some ⟨1, 33, none⟩)]))
theorem Handle.pos {w : World} (h : Handle w) : 0 < w.heap.size := by
  rcases Nat.eq_zero_or_pos w.heap.size with h0 | h1
  · simp [Handle, World.cell?, h0] at h
  · exact h1
theorem Handle.below {w w' : World} {B : Nat} (h : Handle w) (hB : Below B w w') (hp : 0 < B) : Handle w' := (hB.cell (p := ⟨0, 0, none⟩) hp).trans h

set_option maxHeartbeats 1000000 in
theorem tell_nil (w : World) : Calls Tryz.prog 93 #[.nilIface] w fun e w' => e = .returned (.int .i64 0) ∧ w' = w := by
  go_enter Tryz.func93, Tryz.ntmps93
  go_wp2
  go_ret
  exact ⟨rfl, rfl⟩

set_option maxHeartbeats 1000000 in
theorem tell_errno (n : Int) (w : World) (hg : Handle w) : Calls Tryz.prog 93 #[.iface 24 (.int .i64 n)] w fun e w' => e = .returned (.int .i64 n) ∧ Below w.heap.size w w' := by
  have hp := hg.pos
  have hg1 : (w.alloc (.cells #[.int .i64 0] 24)).cell? ⟨0, 0, none⟩ = some (.iface 263 (.agg #[.pointer (some ⟨1, 33, none⟩)])) := (World.cell?_alloc_lt _ _ ⟨0, 0, none⟩ hp).trans hg
  have HG : Hid _ := hg1
  clear hg hg1
  go_enter Tryz.func93, Tryz.ntmps93
  go_wp2_with (go_at_call 149; refine (as_hit n ⟨w.heap.size, 0, none⟩ (.int .i64 0) _ HG.out (cell_one_new w _ _ 0 _ rfl) (by simp)).mono ?_; rintro e w' ⟨rfl, rfl⟩)
  go_ret
  refine ⟨rfl, ?_⟩
  exact (((((Below.refl _ w).alloc (Nat.le_refl _) _).alloc (by simp) _).alloc (by simp; omega) _).alloc (by simp; omega) _).alloc (by simp; omega) _

end Go.Proofs.YtjefgmeejhakbaaGreatDoor

/- The engine's steps, plain. -/
namespace Go.Proofs.YtjefgmeejhakbaaGreatDoor
open Go.RowKit

def Eng.upd (E : Eng) (i : Nat) (f : Tx → Tx) : Eng := match E.txs[i]? with
  | some t => E.setTx i (f t)
  | none => E
theorem Eng.upd_some {E : Eng} {i : Nat} {t : Tx} (h : E.txs[i]? = some t) (f : Tx → Tx) : E.upd i f = E.setTx i (f t) := by simp [Eng.upd, h]
theorem setTx_get {E : Eng} {i : Nat} {t u : Tx} (h : E.txs[i]? = some u) : (E.setTx i t).txs[i]? = some t := by
  have := (List.getElem?_eq_some_iff.1 h).1
  simp [Eng.setTx, this]
theorem setTx_get_ne {E : Eng} {i j : Nat} {t : Tx} (h : i ≠ j) : (E.setTx i t).txs[j]? = E.txs[j]? := by
  simp [Eng.setTx, h]
theorem setTx_len (E : Eng) (i : Nat) (t : Tx) : (E.setTx i t).txs.length = E.txs.length := by simp [Eng.setTx]
theorem setTx_twice (E : Eng) (i : Nat) (t u : Tx) : (E.setTx i t).setTx i u = E.setTx i u := by simp [Eng.setTx]

def seesP (E : Eng) (t : Tx) : Int := if t.level = 0 then E.last else t.start
def newerP (E : Eng) (key t : Int) : List Int := let l := E.ks[key.toNat]?.getD []; (l.drop (lat l t + 1).toNat).map (·.1)
def noteReadP (t : Tx) (key frm : Int) : Tx := { t with reads := t.reads ++ [(key, frm)], seen := t.seen.set key.toNat true }

noncomputable def putAheadP (E : Eng) (i j : Nat) : Bool × Eng := match E.txs[i]?, E.txs[j]? with
  | some t, some u =>
    (!stuckB t.state t.ahead (fun a => t.behind a || a == (j : Int) + 1) && !stuckB u.state (fun a => u.ahead a || a == (i : Int) + 1) u.behind,
      (E.setTx i { t with behind := fun a => t.behind a || a == (j : Int) + 1 }).setTx j { u with ahead := fun a => u.ahead a || a == (i : Int) + 1 })
  | _, _ => (true, E)
noncomputable def aheadAll (f : Nat → Nat × Nat) : List Nat → Eng → Bool × Eng
  | [], E => (true, E)
  | j :: r, E => match putAheadP E (f j).1 (f j).2 with
    | (true, E') => aheadAll f r E'
    | (false, E') => (false, E')
noncomputable def aheadEach (i : Nat) : List Nat → Eng → Eng
  | [], E => E
  | j :: r, E => aheadEach i r (putAheadP E i j).2

def thoseP (E : Eng) (p : Nat → Tx → Bool) : List Nat := (List.range E.txs.length).filter (fun i => match E.txs[i]? with | some t => p i t | none => false)
def strictOf (E : Eng) (n : Int) : Option Nat := if 1 ≤ n ∧ n ≤ E.txs.length then (match E.txs[(n - 1).toNat]? with | some t => if t.level = 2 then some (n - 1).toNat else none | none => none) else none
def writesB (key : Int) (u : Tx) : Bool := (u.vals key).isSome && (u.level == 2 && liveB u.state)
def wasOverB (u : Tx) (n : Int) : Bool := !liveB u.state && decide (u.bae < n)
def hasReadB (key : Int) (i : Nat) (j : Nat) (u : Tx) : Bool := u.seen[key.toNat]?.getD false && (decide (j ≠ i) && (u.level == 2 && (decide (u.state ≠ 3) && !wasOverB u ((i : Int) + 1))))
noncomputable def aheadTimes (i : Nat) : List Int → Eng → Bool × Eng
  | [], E => (true, E)
  | a :: r, E => match strictOf E ((E.wr a).getD 0) with
    | some j => (match putAheadP E i j with
      | (true, E') => aheadTimes i r E'
      | (false, E') => (false, E'))
    | none => aheadTimes i r E
noncomputable def aowP (E : Eng) (i : Nat) (key : Int) : Bool × Eng := match E.txs[i]? with
  | some t => (match aheadTimes i (newerP E key t.start) E with
    | (true, E') => (true, aheadEach i (thoseP E' (fun _ u => writesB key u)) E')
    | (false, E') => (false, E'))
  | none => (true, E)
noncomputable def behindP (E : Eng) (i : Nat) (key : Int) : Bool × Eng := aheadAll (fun j => (j, i)) (thoseP E (hasReadB key i)) E

noncomputable def putE (E : Eng) (i : Nat) : Int × Eng := match E.txs[i]? with
  | some t =>
    if t.level ≠ 0 ∧ newerP E t.wk t.start ≠ [] then (10, E) else
    let E1 := E.setTx i { t with vals := updT t.vals t.wk (some t.wv) }
    if t.level = 2 then (match behindP E1 i t.wk with
      | (true, E2) => (0, E2)
      | (false, E2) => (13, E2)) else (0, E1)
  | none => (0, E)
def freeOf (n : Int) (t : Tx) : Tx := { t with ahead := fun a => t.ahead a && a != n, behind := fun a => t.behind a && a != n }
def loseE (E : Eng) (i : Nat) (why : Int) : Eng := match E.txs[i]? with
  | some t => Eng.upd { E with txs := (E.txs.set i { t with why := why }).map (freeOf ((i : Int) + 1)) } i (fun t => { t with reads := [] })
  | none => E
noncomputable def writeR (fin : Eng → Nat → Int → Option Eng) (E : Eng) (j : Nat) : Option (Int × Eng) := match putE E j with
  | (why, E') => if why = 0 then some (0, E') else (fin (loseE E' j why) j 3).map (fun E => (why, E))
noncomputable def goR (fin : Eng → Nat → Int → Option Eng) : List (Int × Int) → Eng → Option Eng
  | [], E => some E
  | (_, x) :: r, E => if 1 ≤ x ∧ x ≤ E.txs.length then (match writeR fin (E.upd (x - 1).toNat (fun t => { t with state := 0 })) (x - 1).toNat with
    | some (_, E') => goR fin r E'
    | none => none) else goR fin r E
def overE (E : Eng) (i : Nat) (st : Int) : Eng := let E1 := E.upd i (fun t => { t with state := st, bae := E.txs.length }); { E1 with T := dropP E1.T ((i : Int) + 1) }
noncomputable def endF : Nat → Eng → Nat → Int → Option Eng
  | 0, _, _, _ => none
  | f + 1, E, i, st => goR (endF f) (outP E.T ((i : Int) + 1)) (overE E i st)

end Go.Proofs.YtjefgmeejhakbaaGreatDoor

/- engine: find, open, sees, isNewer, wasOver. -/
namespace Go.Proofs.YtjefgmeejhakbaaGreatDoor
open Go.RowKit

variable {w : World} {L : EnL} {E : Eng}
set_option maxRecDepth 100000 in
set_option maxHeartbeats 1000000 in
theorem find_ok (h : EnAt w L E) {i : Nat} {l : TxL} (hl : L.txs[i]? = some l) :
    Calls Tryz.prog 95 #[.pointer (some ⟨L.s, 0, none⟩), .int .i64 ((i : Int) + 1)] w fun e w' => e = .returned (.tuple #[.pointer (some ⟨l.b, 0, none⟩), .nilIface]) ∧ w' = w := by
  have c14 := h.c14
  have hi := (List.getElem?_eq_some_iff.1 hl).1
  have hle := h.le
  have hlen := h.len
  rcases row_slice h.all with ⟨_, e⟩ | ⟨g, cap, e, hg, hc⟩
  · omega
  · have hcell : w.cell? ⟨g, i, none⟩ = some (.pointer (some ⟨l.b, 0, none⟩)) := hc i _ (show (L.bs.map ptrV)[i]? = some (ptrV l.b) from by rw [List.getElem?_map, bs_get hl]; rfl)
    rw [e] at c14
    obtain ⟨m, hm⟩ : ∃ m, L.txs.length = m := ⟨_, rfl⟩
    rw [hm] at c14 hi hlen
    clear h hl hc e hm
    have g1 : ¬ (i : Int) + 1 < 1 := by omega
    have g2 : decide ((m : Int) < (i : Int) + 1) = false := by simp; omega
    have g3 : (0 : Int) ≤ (i : Int) := by omega
    have g4 : (i : Int) < (m : Int) := by omega
    have g5 : (i : Int) + 1 - 1 = (i : Int) := by omega
    have g6 : IntKind.i64.wrap (i : Int) = (i : Int) := IntWalk.i64_in _ (by omega)
    go_enter Tryz.func95, Tryz.ntmps95
    go_wp2
    go_ret2
    exact ⟨rfl, rfl⟩
set_option maxRecDepth 100000 in
set_option maxHeartbeats 1000000 in
theorem find_err (h : EnAt w L E) {n : Int} (hn : n < 1 ∨ (E.txs.length : Int) < n) :
    Calls Tryz.prog 95 #[.pointer (some ⟨L.s, 0, none⟩), .int .i64 n] w fun e w' => e = .returned (.tuple #[.pointer none, errV 7]) ∧ w' = w := by
  have c14 := h.c14
  have hle := h.le
  have hlen := h.len
  obtain ⟨ad, cap, e⟩ := row_form h.all
  rw [e] at c14
  obtain ⟨m, hm⟩ : ∃ m, L.txs.length = m := ⟨_, rfl⟩
  rw [hm] at c14 hlen
  rw [← hlen] at hn hle
  clear h e hm hlen
  by_cases g1 : n < 1
  · clear hn
    go_enter Tryz.func95, Tryz.ntmps95
    go_wp2
    go_ret2
    exact ⟨rfl, rfl⟩
  · have g2 : decide ((m : Int) < n) = true := by simp; omega
    clear hn
    go_enter Tryz.func95, Tryz.ntmps95
    go_wp2
    go_ret2
    exact ⟨rfl, rfl⟩

set_option maxRecDepth 100000 in
set_option maxHeartbeats 1000000 in
theorem open_ok (h : EnAt w L E) {i : Nat} {l : TxL} {t : Tx} (hl : L.txs[i]? = some l) (ht : E.txs[i]? = some t) (hs : t.state = 0) :
    Calls Tryz.prog 102 #[.pointer (some ⟨L.s, 0, none⟩), .int .i64 ((i : Int) + 1)] w fun e w' => e = .returned (.tuple #[.pointer (some ⟨l.b, 0, none⟩), .nilIface]) ∧ w' = w := by
  have c3 := (h.txs i l t hl ht).c3
  rw [hs] at c3
  have HC := hid (find_ok h hl)
  clear h hl ht hs
  go_enter Tryz.func102, Tryz.ntmps102
  go_wp2_with fail
  refine HC.out.mono ?_
  rintro e w1 ⟨rfl, rfl⟩
  go_wp2
  go_ret2
  exact ⟨rfl, rfl⟩
set_option maxRecDepth 100000 in
set_option maxHeartbeats 1000000 in
theorem open_state (h : EnAt w L E) {i : Nat} {l : TxL} {t : Tx} (hl : L.txs[i]? = some l) (ht : E.txs[i]? = some t) (hs : t.state ≠ 0) :
    Calls Tryz.prog 102 #[.pointer (some ⟨L.s, 0, none⟩), .int .i64 ((i : Int) + 1)] w fun e w' => e = .returned (.tuple #[.pointer none, errV 6]) ∧ w' = w := by
  have c3 := (h.txs i l t hl ht).c3
  obtain ⟨st, hst⟩ : ∃ st, t.state = st := ⟨_, rfl⟩
  rw [hst] at c3 hs
  have HC := hid (find_ok h hl)
  clear h hl ht hst
  have g1 : (st != 0) = true := by simpa using hs
  clear hs
  go_enter Tryz.func102, Tryz.ntmps102
  go_wp2_with fail
  refine HC.out.mono ?_
  rintro e w1 ⟨rfl, rfl⟩
  go_wp2
  go_ret2
  exact ⟨rfl, rfl⟩
set_option maxRecDepth 100000 in
set_option maxHeartbeats 1000000 in
theorem open_err (h : EnAt w L E) {n : Int} (hn : n < 1 ∨ (E.txs.length : Int) < n) :
    Calls Tryz.prog 102 #[.pointer (some ⟨L.s, 0, none⟩), .int .i64 n] w fun e w' => e = .returned (.tuple #[.pointer none, errV 7]) ∧ w' = w := by
  have HC := hid (find_err h hn)
  clear h hn
  go_enter Tryz.func102, Tryz.ntmps102
  go_wp2_with fail
  refine HC.out.mono ?_
  rintro e w1 ⟨rfl, rfl⟩
  rw [show errV 7 = Value.iface 24 (.int .i64 7) from rfl]
  go_wp2
  go_ret2
  exact ⟨rfl, rfl⟩

set_option maxRecDepth 100000 in
set_option maxHeartbeats 1000000 in
theorem sees_any (h : EnAt w L E) {i : Nat} {l : TxL} {t : Tx} (hl : L.txs[i]? = some l) (ht : E.txs[i]? = some t) :
    Calls Tryz.prog 112 #[.pointer (some ⟨L.s, 0, none⟩), .pointer (some ⟨l.b, 0, none⟩)] w fun e w' => e = .returned (.int .i64 (seesP E t)) ∧ w' = w := by
  have hA := h.txs i l t hl ht
  have c1 := hA.c1
  have c2 := hA.c2
  have HC := hid (last_any _ _ _ _ _ w h.sto)
  unfold seesP
  obtain ⟨lv, hlv⟩ : ∃ lv, t.level = lv := ⟨_, rfl⟩
  rw [hlv] at c1 ⊢
  clear h hl ht hA hlv
  by_cases h0 : lv = 0
  · subst h0
    rw [if_pos rfl]
    go_enter Tryz.func112, Tryz.ntmps112
    go_wp2_with fail
    refine HC.out.mono ?_
    rintro e w1 ⟨rfl, rfl⟩
    go_wp2
    go_ret
    exact ⟨rfl, rfl⟩
  · rw [if_neg h0]
    have g1 : (lv == 0) = false := by simpa using h0
    clear h0 HC
    go_enter Tryz.func112, Tryz.ntmps112
    go_wp2
    go_ret
    exact ⟨rfl, rfl⟩

theorem newer_len (E : Eng) (k : Nat) (t : Int) (l : List (Int × Int)) (hl : E.ks[k]? = some l) : newerP E (k : Int) t = (l.drop (lat l t + 1).toNat).map (·.1) := by simp [newerP, hl]
set_option maxRecDepth 100000 in
set_option maxHeartbeats 1000000 in
theorem isNewer_any (h : EnAt w L E) {key : Int} (hk : 0 ≤ key ∧ key < 10) (t : Int) (hks : ∀ l ∈ E.ks, l.length ≤ 100000) :
    Calls Tryz.prog 212 #[.pointer (some ⟨L.s, 0, none⟩), .int .i64 key, .int .i64 t] w fun e w' => e = .returned (.bool (decide (newerP E key t ≠ []))) ∧ Below w.heap.size w w' := by
  obtain ⟨k, rfl⟩ : ∃ k : Nat, key = k := ⟨key.toNat, by omega⟩
  have hk2 : k < E.ks.length := by have := h.sto.lk; omega
  obtain ⟨l, hl⟩ : ∃ l, E.ks[k]? = some l := ⟨E.ks[k], List.getElem?_eq_getElem hk2⟩
  have hll := hks l (List.mem_of_getElem? hl)
  have HC := hid (newer_any _ _ k _ t _ _ l w h.sto hl (by omega))
  rw [newer_len E k t l hl]
  have hlen : ((l.drop (lat l t + 1).toNat).map (·.1)).length = (l.drop (lat l t + 1).toNat).length := by simp
  have hle : (l.drop (lat l t + 1).toNat).length ≤ l.length := by simp
  have hiff : decide ((l.drop (lat l t + 1).toNat).map (·.1) ≠ []) = decide (0 < (l.drop (lat l t + 1).toNat).length) := by
    rw [decide_eq_decide, List.length_pos_iff]
    simp
  rw [hiff]
  obtain ⟨m, hm⟩ : ∃ m, (l.drop (lat l t + 1).toNat).length = m := ⟨_, rfl⟩
  rw [hm] at HC hle ⊢
  clear hlen hiff h hl hks hk hk2 hm
  go_enter Tryz.func212, Tryz.ntmps212
  go_wp2_with fail
  refine HC.out.mono ?_
  rintro e w1 ⟨tv, rfl, ho, hB⟩
  obtain ⟨ad, cap, rfl⟩ := row_form ho
  have HB := hid hB
  clear ho hB HC
  go_wp2
  go_ret
  exact ⟨by simp, HB.out⟩

set_option maxRecDepth 100000 in
set_option maxHeartbeats 1000000 in
theorem wasOver_any {b1 b2 : Nat} {st bae n : Int} (c3 : w.cell? ⟨b1, 3, none⟩ = some (.int .i64 st)) (c5 : w.cell? ⟨b1, 5, none⟩ = some (.int .i64 bae)) (d0 : w.cell? ⟨b2, 0, none⟩ = some (.int .i64 n)) :
    Calls Tryz.prog 241 #[.pointer (some ⟨b1, 0, none⟩), .pointer (some ⟨b2, 0, none⟩)] w fun e w' => e = .returned (.bool (!liveB st && decide (bae < n))) ∧ ∃ q, w' = w.drewN q := by
  have HC := hid (fun q => lives_any b1 st (w.drewN q) (by rw [World.cell?_drewN]; exact c3))
  cases hb : liveB st with
  | true =>
    rw [hb] at HC
    clear hb
    go_enter Tryz.func241, Tryz.ntmps241
    go_wp2
    go_quiet (first | (go_at_call 100; refine Calls.quiet_of_same (HC.out _)))
    go_wp2
    go_ret
    exact ⟨rfl, _, rfl⟩
  | false =>
    rw [hb] at HC
    clear hb
    go_enter Tryz.func241, Tryz.ntmps241
    go_wp2
    go_quiet (first | (go_at_call 100; refine Calls.quiet_of_same (HC.out _)))
    go_wp2
    go_ret
    exact ⟨rfl, _, rfl⟩

end Go.Proofs.YtjefgmeejhakbaaGreatDoor

/- Plain: who must be ahead of whom, and the line that comes of it; a line is one, if there is one. -/
namespace Go.Proofs.YtjefgmeejhakbaaGreatDoor

abbrev Opp := Int × Int × Bool × Int

def opBad (o : Opp) : Bool := decide (o.1 < 1 ∨ o.2.2.2 < 0 ∨ ¬ (0 ≤ o.2.1 ∧ o.2.1 < 10))
def wStep (key : Int) (w : List Int) (o : Opp) : List Int := if o.2.2.1 = true ∧ o.2.1 = key ∧ w.getLast? ≠ some o.1 then w ++ [o.1] else w
def writersP (l : List Opp) (key : Int) : List Int := l.foldl (wStep key) []
def conP : List Int → List (Int × Int)
  | a :: b :: r => (a, b) :: conP (b :: r)
  | _ => []
def firstAt (x : Int) : List Int → Option Nat
  | [] => none
  | a :: r => if a = x then some 0 else (firstAt x r).map (· + 1)
def readP (w : List Int) (o : Opp) : Option (List (Int × Int)) :=
  if o.2.2.2 = 0 then some ((w[0]?).toList.map (fun x => (o.1, x)))
  else (firstAt o.2.2.2 w).map (fun i => (o.2.2.2, o.1) :: (w[i + 1]?).toList.map (fun x => (o.1, x)))
def opPairs (l : List Opp) (o : Opp) : Option (List (Int × Int)) := (if o.2.2.1 = true then some [] else readP (writersP l o.2.1) o).map (fun r => conP (writersP l o.2.1) ++ r)
def pairsP (l : List Opp) : List Opp → Option (List (Int × Int))
  | [] => some []
  | o :: r => match opPairs l o with
    | none => none
    | some p => (pairsP l r).map (fun q => p ++ q)

theorem wStep_mem {key : Int} {w : List Int} {o : Opp} {x : Int} (h : x ∈ wStep key w o) : x ∈ w ∨ x = o.1 := by
  unfold wStep at h
  split at h
  · rw [List.mem_append, List.mem_singleton] at h; exact h
  · exact .inl h
theorem foldl_mem (key : Int) : ∀ (l : List Opp) (w : List Int) (x : Int), x ∈ l.foldl (wStep key) w → x ∈ w ∨ ∃ o ∈ l, o.1 = x
  | [], w, x, h => .inl h
  | o :: r, w, x, h => by
    rcases foldl_mem key r (wStep key w o) x h with h | ⟨o', ho, e⟩
    · rcases wStep_mem h with h | h
      · exact .inl h
      · exact .inr ⟨o, by simp, h.symm⟩
    · exact .inr ⟨o', by simp [ho], e⟩
theorem writers_tx {l : List Opp} {key x : Int} (h : x ∈ writersP l key) : ∃ o ∈ l, o.1 = x := (foldl_mem key l [] x h).resolve_left (by simp)
theorem conP_mem : ∀ (w : List Int) (a b : Int), (a, b) ∈ conP w → a ∈ w ∧ b ∈ w
  | [], a, b, h => by simp [conP] at h
  | [_], a, b, h => by simp [conP] at h
  | x :: y :: r, a, b, h => by
    rw [conP, List.mem_cons] at h
    rcases h with h | h
    · injection h with h1 h2; subst h1; subst h2; simp
    · have := conP_mem (y :: r) a b h
      exact ⟨List.mem_cons_of_mem _ this.1, List.mem_cons_of_mem _ this.2⟩
theorem firstAt_mem : ∀ (w : List Int) (x : Int) (i : Nat), firstAt x w = some i → x ∈ w
  | [], x, i, h => by simp [firstAt] at h
  | a :: r, x, i, h => by
    rw [firstAt] at h
    by_cases e : a = x
    · simp [e]
    · rw [if_neg e] at h
      cases hf : firstAt x r with
      | none => rw [hf] at h; simp at h
      | some j => exact List.mem_cons_of_mem _ (firstAt_mem r x j hf)
theorem opPairs_tx {l : List Opp} {o : Opp} (ho : o ∈ l) {p : List (Int × Int)} (h : opPairs l o = some p) {a b : Int} (hab : (a, b) ∈ p) : (∃ o ∈ l, o.1 = a) ∧ ∃ o ∈ l, o.1 = b := by
  unfold opPairs at h
  cases hr : (if o.2.2.1 = true then some [] else readP (writersP l o.2.1) o) with
  | none => rw [hr] at h; simp at h
  | some r =>
    rw [hr] at h
    simp only [Option.map_some, Option.some.injEq] at h
    subst h
    rcases List.mem_append.1 hab with hc | hc
    · have := conP_mem _ a b hc
      exact ⟨writers_tx this.1, writers_tx this.2⟩
    · split at hr
      · cases hr; simp at hc
      · unfold readP at hr
        split at hr
        · cases hr
          rw [List.mem_map] at hc
          obtain ⟨x, hx, e⟩ := hc
          injection e with e1 e2
          subst e1; subst e2
          exact ⟨⟨o, ho, rfl⟩, writers_tx (List.mem_of_getElem? (by simpa using hx))⟩
        · cases hf : firstAt o.2.2.2 (writersP l o.2.1) with
          | none => rw [hf] at hr; simp at hr
          | some i =>
            rw [hf] at hr
            simp only [Option.map_some, Option.some.injEq] at hr
            subst hr
            rcases List.mem_cons.1 hc with e | hc
            · injection e with e1 e2
              subst e1; subst e2
              exact ⟨writers_tx (firstAt_mem _ _ _ hf), ⟨o, ho, rfl⟩⟩
            · rw [List.mem_map] at hc
              obtain ⟨x, hx, e⟩ := hc
              injection e with e1 e2
              subst e1; subst e2
              exact ⟨⟨o, ho, rfl⟩, writers_tx (List.mem_of_getElem? (by simpa using hx))⟩
theorem pairs_tx {l : List Opp} : ∀ (m : List Opp), (∀ o ∈ m, o ∈ l) → ∀ p, pairsP l m = some p → ∀ a b, (a, b) ∈ p → (∃ o ∈ l, o.1 = a) ∧ ∃ o ∈ l, o.1 = b
  | [], _, p, h, a, b, hab => by cases h; simp at hab
  | o :: r, hm, p, h, a, b, hab => by
    rw [pairsP] at h
    cases ho : opPairs l o with
    | none => rw [ho] at h; simp at h
    | some p1 =>
      rw [ho] at h
      cases hr : pairsP l r with
      | none => rw [hr] at h; simp at h
      | some q =>
        rw [hr] at h
        simp only [Option.map_some, Option.some.injEq] at h
        subst h
        rcases List.mem_append.1 hab with hc | hc
        · exact opPairs_tx (hm o (by simp)) ho hc
        · exact pairs_tx r (fun o ho => hm o (by simp [ho])) q hr a b hc

def lt2 (a b : Int × Int) : Prop := a.1 < b.1 ∨ a.1 = b.1 ∧ a.2 < b.2
theorem lt2_trans {a b c : Int × Int} (h : lt2 a b) (k : lt2 b c) : lt2 a c := by unfold lt2 at *; omega
theorem lt2_irrefl (a : Int × Int) : ¬ lt2 a a := by unfold lt2; omega
theorem lt2_total (a b : Int × Int) : lt2 a b ∨ a = b ∨ lt2 b a := by
  obtain ⟨a1, a2⟩ := a
  obtain ⟨b1, b2⟩ := b
  simp only [lt2, Prod.mk.injEq]
  omega
theorem rising_ext : ∀ (l m : List (Int × Int)), l.Pairwise lt2 → m.Pairwise lt2 → (∀ x, x ∈ l ↔ x ∈ m) → l = m
  | [], m, _, _, h => by
    cases m with
    | nil => rfl
    | cons b r => have := (h b).2 (by simp); simp at this
  | a :: l, m, hl, hm, h => by
    cases m with
    | nil => have := (h a).1 (by simp); simp at this
    | cons b m =>
      obtain ⟨hl1, hl2⟩ := List.pairwise_cons.1 hl
      obtain ⟨hm1, hm2⟩ := List.pairwise_cons.1 hm
      have e : a = b := by
        rcases lt2_total a b with e | e | e
        · rcases List.mem_cons.1 ((h a).1 (by simp)) with e2 | e2
          · exact e2
          · exact absurd (lt2_trans e (hm1 a e2)) (lt2_irrefl a)
        · exact e
        · rcases List.mem_cons.1 ((h b).2 (by simp)) with e2 | e2
          · exact e2.symm
          · exact absurd (lt2_trans e (hl1 b e2)) (lt2_irrefl b)
      subst e
      rw [rising_ext l m hl2 hm2 (fun x => ?_)]
      constructor
      · intro hx
        rcases List.mem_cons.1 ((h x).1 (List.mem_cons_of_mem _ hx)) with e | e
        · subst e; exact absurd (hl1 x hx) (lt2_irrefl x)
        · exact e
      · intro hx
        rcases List.mem_cons.1 ((h x).2 (List.mem_cons_of_mem _ hx)) with e | e
        · subst e; exact absurd (hm1 x hx) (lt2_irrefl x)
        · exact e

def freeB (E : List (Int × Int)) (left : List Int) (x : Int) : Bool := E.all (fun e => !(e.2 == x && left.contains e.1))
def leastP : List Int → Option Int
  | [] => none
  | a :: r => match leastP r with
    | none => some a
    | some b => some (if a ≤ b then a else b)
theorem leastP_none {l : List Int} : leastP l = none ↔ l = [] := by
  cases l with
  | nil => simp [leastP]
  | cons a r =>
    simp only [leastP]
    cases leastP r <;> simp
theorem leastP_some : ∀ (l : List Int) (x : Int), leastP l = some x → x ∈ l ∧ ∀ y ∈ l, x ≤ y
  | [], x, h => by simp [leastP] at h
  | a :: r, x, h => by
    rw [leastP] at h
    cases hr : leastP r with
    | none =>
      rw [hr] at h
      have e := leastP_none.1 hr
      subst e
      simp only [Option.some.injEq] at h
      subst h
      simp
    | some b =>
      rw [hr] at h
      simp only [Option.some.injEq] at h
      obtain ⟨h1, h2⟩ := leastP_some r b hr
      by_cases e : a ≤ b
      · rw [if_pos e] at h
        subst h
        refine ⟨by simp, fun y hy => ?_⟩
        rcases List.mem_cons.1 hy with rfl | hy
        · exact Int.le_refl _
        · exact Int.le_trans e (h2 y hy)
      · rw [if_neg e] at h
        subst h
        refine ⟨List.mem_cons_of_mem _ h1, fun y hy => ?_⟩
        rcases List.mem_cons.1 hy with rfl | hy
        · omega
        · exact h2 y hy
theorem least_of {l : List Int} {x : Int} (hx : x ∈ l) (hl : ∀ y ∈ l, x ≤ y) : leastP l = some x := by
  cases h : leastP l with
  | none => rw [leastP_none.1 h] at hx; simp at hx
  | some z =>
    obtain ⟨h1, h2⟩ := leastP_some l z h
    have := hl z h1
    have := h2 x hx
    rw [show z = x by omega]

def lineP (E : List (Int × Int)) : Nat → List Int → Option (List Int)
  | 0, _ => some []
  | n + 1, left => if left = [] then some [] else match leastP (left.filter (freeB E left)) with
    | none => none
    | some x => (lineP E n (left.filter (fun y => y != x))).map (fun r => x :: r)

theorem filter_lt {left : List Int} {x : Int} (hx : x ∈ left) : (left.filter (fun y => y != x)).length < left.length := by
  refine List.length_filter_lt_length_iff_exists.2 ⟨x, hx, by simp⟩

def Before (out : List Int) (a b : Int) : Prop := ∃ p q, out = p ++ b :: q ∧ a ∈ p

theorem line_ok (E : List (Int × Int)) : ∀ (n : Nat) (left out : List Int), left.length ≤ n → left.Nodup → lineP E n left = some out → (∀ x, x ∈ out ↔ x ∈ left) ∧ out.Nodup ∧ ∀ a b, (a, b) ∈ E → a ≠ b → a ∈ left → b ∈ left → Before out a b
  | 0, left, out, hl, hn, h => by
    have e : left = [] := List.eq_nil_of_length_eq_zero (by omega)
    subst e
    cases h
    exact ⟨by simp, by simp, fun a b _ _ ha => by simp at ha⟩
  | n + 1, left, out, hl, hn, h => by
    rw [lineP] at h
    by_cases e : left = []
    · rw [if_pos e] at h
      subst e
      cases h
      exact ⟨by simp, by simp, fun a b _ _ ha => by simp at ha⟩
    · rw [if_neg e] at h
      cases hb : leastP (left.filter (freeB E left)) with
      | none => rw [hb] at h; simp at h
      | some x =>
        rw [hb] at h
        simp only at h
        obtain ⟨hx1, hx2⟩ := leastP_some _ _ hb
        have hxl := (List.mem_filter.1 hx1).1
        have hxf := (List.mem_filter.1 hx1).2
        cases hr : lineP E n (left.filter (fun y => y != x)) with
        | none => rw [hr] at h; simp at h
        | some r =>
          rw [hr] at h
          simp only [Option.map_some, Option.some.injEq] at h
          subst h
          have hlt := filter_lt hxl
          obtain ⟨i1, i2, i3⟩ := line_ok E n _ r (by omega) (hn.sublist List.filter_sublist) hr
          refine ⟨fun y => ?_, List.nodup_cons.2 ⟨fun hxr => ?_, i2⟩, fun a b hab hne ha hb' => ?_⟩
          · rw [List.mem_cons, i1 y, List.mem_filter]
            constructor
            · rintro (rfl | h)
              · exact hxl
              · exact h.1
            · intro hy
              by_cases e : y = x
              · exact .inl e
              · exact .inr ⟨hy, by simpa using e⟩
          · have := (List.mem_filter.1 ((i1 x).1 hxr)).2
            simp at this
          · by_cases ebx : b = x
            · subst ebx
              exfalso
              have := List.all_eq_true.1 hxf (a, b) hab
              simp [ha] at this
            · have hbr : b ∈ r := (i1 b).2 (List.mem_filter.2 ⟨hb', by simpa using ebx⟩)
              by_cases eax : a = x
              · subst eax
                obtain ⟨p, q, hpq⟩ := List.append_of_mem hbr
                exact ⟨a :: p, q, by rw [hpq]; rfl, by simp⟩
              · obtain ⟨p, q, hpq, hap⟩ := i3 a b hab hne (List.mem_filter.2 ⟨ha, by simpa using eax⟩) (List.mem_filter.2 ⟨hb', by simpa using ebx⟩)
                exact ⟨x :: p, q, by rw [hpq]; rfl, List.mem_cons_of_mem _ hap⟩

theorem line_stuck (E : List (Int × Int)) : ∀ (n : Nat) (left : List Int), left.length ≤ n → lineP E n left = none → ∃ m : List Int, m ≠ [] ∧ (∀ x ∈ m, x ∈ left) ∧ ∀ x ∈ m, ∃ a ∈ m, (a, x) ∈ E
  | 0, left, hl, h => by cases h
  | n + 1, left, hl, h => by
    rw [lineP] at h
    by_cases e : left = []
    · rw [if_pos e] at h; cases h
    · rw [if_neg e] at h
      cases hb : leastP (left.filter (freeB E left)) with
      | none =>
        refine ⟨left, e, fun x hx => hx, fun x hx => ?_⟩
        have hnf : freeB E left x = false := by
          cases hf : freeB E left x with
          | false => rfl
          | true =>
            have := leastP_none.1 hb
            have hm : x ∈ left.filter (freeB E left) := List.mem_filter.2 ⟨hx, hf⟩
            rw [this] at hm
            simp at hm
        obtain ⟨⟨a, b⟩, hab, hc⟩ := List.all_eq_false.1 hnf
        simp at hc
        exact ⟨a, hc.2, by rw [← hc.1]; exact hab⟩
      | some x =>
        rw [hb] at h
        simp only at h
        cases hr : lineP E n (left.filter (fun y => y != x)) with
        | some r => rw [hr] at h; simp at h
        | none =>
          have hxl := (List.mem_filter.1 (leastP_some _ _ hb).1).1
          have hlt := filter_lt hxl
          obtain ⟨m, h1, h2, h3⟩ := line_stuck E n _ (by omega) hr
          exact ⟨m, h1, fun y hy => (List.mem_filter.1 (h2 y hy)).1, h3⟩

theorem no_line {E : List (Int × Int)} {m p : List Int} (hm : m ≠ []) (hms : ∀ x ∈ m, x ∈ p) (he : ∀ x ∈ m, ∃ a ∈ m, (a, x) ∈ E) (at_ : Int → Nat) (hf : ∀ a b, (a, b) ∈ E → at_ a < at_ b) : False := by
  have key : ∀ n : Nat, ∀ x ∈ m, at_ x < n → False := by
    intro n
    induction n with
    | zero => intro x _ h; omega
    | succ n ih =>
      intro x hx h
      obtain ⟨a, ha, hax⟩ := he x hx
      exact ih a ha (by have := hf a x hax; omega)
  cases m with
  | nil => exact hm rfl
  | cons x r => exact key (at_ x + 1) x (by simp) (by omega)

end Go.Proofs.YtjefgmeejhakbaaGreatDoor
