/- BsOver BsOpen KtRows: put together for a claim. -/
import Derived.Test.YtjefgmeejhakbaaGreatDoorMgAT
import Derived.Test.YtjefgmeejhakbaaGreatDoorBsWrite
/- engine.Over: an engine over values that there are. -/
namespace Go.Proofs.YtjefgmeejhakbaaGreatDoor
open Go.RowKit

/-- The last write of a key. -/
def lastOf (ws : List (Int × Int)) (a : Int) : Option Int := ((ws.filter (fun p => p.1 == a)).getLast?).map (·.2)
theorem lastOf_snoc (ws : List (Int × Int)) (p : Int × Int) (a : Int) : lastOf (ws ++ [p]) a = if a = p.1 then some p.2 else lastOf ws a := by
  unfold lastOf
  rw [List.filter_append, List.filter_cons]
  by_cases e : a = p.1
  · rw [if_pos e, if_pos (by simp [e]), List.filter_nil, List.getLast?_concat]
    rfl
  · rw [if_neg e, if_neg (by simp; exact fun h => e h.symm), List.filter_nil, List.append_nil]
theorem snoc_ind' {α : Type} {P : List α → Prop} (h0 : P []) (h1 : ∀ l x, P l → P (l ++ [x])) : ∀ l, P l := by
  intro l
  have key : ∀ (n : Nat) (l : List α), l.length = n → P l := by
    intro n
    induction n with
    | zero => intro l h; rw [List.eq_nil_of_length_eq_zero h]; exact h0
    | succ n ih =>
      intro l h
      have hne : l ≠ [] := fun e => by rw [e] at h; cases h
      rw [← List.dropLast_concat_getLast hne]
      exact h1 _ _ (ih _ (by rw [List.length_dropLast]; omega))
  exact key _ l rfl
theorem lastOf_append (ws vs : List (Int × Int)) (a : Int) : lastOf (ws ++ vs) a = match lastOf vs a with
    | some x => some x
    | none => lastOf ws a := by
  refine snoc_ind' (P := fun vs => lastOf (ws ++ vs) a = match lastOf vs a with | some x => some x | none => lastOf ws a) ?_ (fun l p ih => ?_) vs
  · rw [List.append_nil]; rfl
  · rw [← List.append_assoc, lastOf_snoc, lastOf_snoc, ih]
    by_cases e : a = p.1
    · rw [if_pos e, if_pos e]
    · rw [if_neg e, if_neg e]
theorem inst_over (t : Int) (ws : List (Int × Int)) : (∀ p ∈ ws, 0 ≤ p.1 ∧ p.1 < 10) → (instP t ws (List.replicate 10 [])).length = 10 ∧ ∀ a : Nat, a < 10 → (instP t ws (List.replicate 10 []))[a]? = some (match lastOf ws a with | some x => [(t, x)] | none => []) := by
  refine snoc_ind' (P := fun ws => (∀ p ∈ ws, 0 ≤ p.1 ∧ p.1 < 10) → (instP t ws (List.replicate 10 [])).length = 10 ∧ ∀ a : Nat, a < 10 → (instP t ws (List.replicate 10 []))[a]? = some (match lastOf ws a with | some x => [(t, x)] | none => [])) ?_ (fun l p ih => ?_) ws
  · intro _
    refine ⟨rfl, fun a ha => ?_⟩
    have : instP t [] (List.replicate 10 []) = List.replicate 10 [] := rfl
    rw [this, List.getElem?_replicate, if_pos ha]
    rfl
  · intro h
    obtain ⟨h1, h2⟩ := ih (fun q hq => h q (List.mem_append_left _ hq))
    have hp := h p (List.mem_append_right _ (List.mem_singleton.2 rfl))
    obtain ⟨k, v⟩ := p
    simp only at hp
    rw [instP_snoc]
    refine ⟨by rw [List.length_set]; exact h1, fun a ha => ?_⟩
    rw [lastOf_snoc]
    by_cases e : (a : Int) = k
    · have ea : k.toNat = a := by omega
      rw [ea, List.getElem?_set_self (by rw [h1]; exact ha), h2 a ha, if_pos e]
      simp only [Option.getD_some]
      cases lastOf l (a : Int) with
      | none => rw [putP_nil]
      | some x =>
        have := putP_same t v x []
        simp only [List.nil_append] at this
        rw [this]
    · rw [if_neg e, List.getElem?_set_ne (by omega)]
      exact h2 a ha
/-- An engine over values, as of a time. -/
def engO (t : Int) (ws : List (Int × Int)) : Eng := { eng0 with last := t, ks := instP t ws (List.replicate 10 []) }
theorem mid_engO {t : Int} (ht : 0 ≤ t ∧ t ≤ 1000) {ws : List (Int × Int)} (hw : ∀ p ∈ ws, 0 ≤ p.1 ∧ p.1 < 10) : Mid t (lastOf ws) (engO t ws).ce noQ := by
  have h0 := mid0_eng0
  have hi := inst_over t ws hw
  refine ⟨h0.loc, h0.reg, ?_⟩
  have hC := h0.com
  refine ⟨hC.comn, hC.coms, fun i u hu => by simp [engO, Eng.ce, eng0] at hu, by omega, ?_, hC.nwc, fun c => ?_, hi.1, fun a ha => ?_, fun i j u a c hu => by simp [engO, Eng.ce, eng0] at hu⟩
  · show t = t + ((engO t ws).ce.cw.length : Int)
    have : (engO t ws).ce.cw = [] := rfl
    rw [this]
    simp
  · have : (engO t ws).ce.cw = [] := rfl
    rw [this]
    show (none : Option Int) = _
    split <;> rfl
  · have hf : full t (lastOf ws) (engO t ws).ce (a : Int) = match lastOf ws (a : Int) with | some x => [(t, x)] | none => [] := by
      unfold full
      have : (engO t ws).ce.cw = [] := rfl
      rw [this]
      cases lastOf ws (a : Int) <;> rfl
    refine ⟨0, Nat.zero_le _, ?_, fun u _ => .inl rfl⟩
    rw [hf, List.drop_zero]
    exact hi.2 a ha
/-- What such an engine has. -/
theorem all_engO {t : Int} {ws : List (Int × Int)} (hw : ∀ p ∈ ws, 0 ≤ p.1 ∧ p.1 < 10) (k : Nat) (hk : k < 10) : (rdP (engO t ws).last ((engO t ws).ks[k]?.getD [])).map (·.2) = lastOf ws (k : Int) := by
  have hi := (inst_over t ws hw).2 k hk
  show (rdP t ((instP t ws (List.replicate 10 []))[k]?.getD [])).map (·.2) = _
  rw [hi]
  simp only [Option.getD_some]
  rw [rdP_last]
  cases lastOf ws (k : Int) with
  | none => rfl
  | some x => simp

set_option maxRecDepth 100000 in
set_option maxHeartbeats 1000000 in
theorem over_any (t : Nat) (ws : List (Int × Int)) (v : Value) (w : World) (ht : t ≤ 1000) (h0 : t = 0 ↔ ws = []) (hn : ws.length ≤ 1000) (hf : ∀ p ∈ ws, Fine p) {base : Nat} (hrow : w.ownsRow base 78 2 v ws.length (vrow ws)) :
    Calls Tryz.prog 18 #[.int .i64 (t : Int), v] w fun e w' => ∃ L, e = .returned (.tuple #[.pointer (some ⟨L.s, 0, none⟩), .nilIface]) ∧ EnAt w' L (engO t ws) ∧ Below w.heap.size w w' ∧ ∀ g, L.own g → w.heap.size ≤ g := by
  have HN := hid (new_any w)
  obtain ⟨ad, cap, rfl⟩ := row_form hrow
  by_cases hz : t = 0
  · have hws := h0.1 hz
    subst hz hws
    have he : engO ((0 : Nat) : Int) [] = eng0 := rfl
    rw [he]
    clear hrow
    go_enter Tryz.func18, Tryz.ntmps18
    go_wp2_with fail
    refine HN.out.mono ?_
    rintro e w1 ⟨L, rfl, hE, hB, hO⟩
    have HF := hid (And.intro hE (And.intro hB hO))
    clear hE hB hO HN
    go_wp2
    go_ret2
    exact ⟨L, rfl, HF.out⟩
  · have hne : ws ≠ [] := fun e => hz (h0.2 e)
    have gt : ((t : Int) == 0) = false := beq_false_of_ne (by omega)
    rcases row_slice hrow with ⟨_, e0⟩ | ⟨g, c, e, hg, hc⟩
    · exact (hne (List.eq_nil_of_length_eq_zero e0)).elim
    · injection e with e1 e2 e3
      subst e1 e3
      have hwr := vrow_wrow hc
      have HIN := hid (fun (w1 : World) (L : EnL) (hE : EnAt w1 L eng0) (hB : Below w.heap.size w w1) (hO : ∀ g, L.own g → w.heap.size ≤ g) => install_good (L.s + 1) L.s g 0 cap 0 (t : Int) L.vs (List.replicate 10 []) ws w1 hE.sto (by have := hE.sto.lt; omega) (hwr.same (hB.block g hg)) (fun hr => by have := hO g (.inr (.inl hr)); omega) (fun e => by have := hO L.s (.inl rfl); omega) (Nat.lt_of_lt_of_le hg hB.size) hf (by omega) (by omega) hn (fun l hl => by simp at hl; rw [hl]; simp))
      clear hrow hc hwr
      go_enter Tryz.func18, Tryz.ntmps18
      go_wp2_with fail
      refine HN.out.mono ?_
      rintro e w1 ⟨L, rfl, hE, hB, hO⟩
      have HF := hid (And.intro hE (And.intro hB hO))
      clear hE hB hO HN
      go_wp2_with fail
      refine (HIN.out w1 L HF.out.1 HF.out.2.1 HF.out.2.2).mono ?_
      rintro e w2 ⟨rfl, vs', hS, hK⟩
      obtain ⟨h3, k3⟩ := HF.out.1.setSto hS hK
      have HE := hid (show EnAt w2 { L with vs := vs' } (engO t ws) from h3)
      have HB := hid (show Below w.heap.size w w2 from ⟨k3.os.trans HF.out.2.1.os, k3.tape.trans HF.out.2.1.tape, k3.output.trans HF.out.2.1.output, Nat.le_trans HF.out.2.1.size k3.size, fun k hk => (k3.block k (Nat.lt_of_lt_of_le hk HF.out.2.1.size) (fun ho => by have := HF.out.2.2 k ho; omega)).trans (HF.out.2.1.block k hk)⟩)
      have HO := hid (show ∀ g, ({ L with vs := vs' } : EnL).own g → w.heap.size ≤ g from fun k hk => by
        rcases k3.sub k hk with h5 | h5
        · exact HF.out.2.2 k h5
        · have := HF.out.2.1.size
          omega)
      clear hS hK h3 k3
      go_wp2
      go_ret2
      exact ⟨{ L with vs := vs' }, rfl, HE.out, HB.out, HO.out⟩

end Go.Proofs.YtjefgmeejhakbaaGreatDoor

/- base.Open: an engine over what was committed on a disk. -/
namespace Go.Proofs.YtjefgmeejhakbaaGreatDoor
open Go.RowKit

/-- A base in memory. -/
def basCells (d s : Nat) (used torn : Int) (down : Bool) : Array Value := #[.pointer (some ⟨d, 0, none⟩), .pointer (some ⟨s, 0, none⟩), .int .i64 used, .int .i64 torn, .bool down]
theorem flat_nil {recs : List (List (Int × Int))} (h : ∀ ws ∈ recs, ws ≠ []) : recs.length = 0 ↔ recs.flatten = [] := by
  constructor
  · intro h0
    rw [List.eq_nil_of_length_eq_zero h0]
    rfl
  · intro h0
    cases recs with
    | nil => rfl
    | cons x r =>
      rw [List.flatten_cons, List.append_eq_nil_iff] at h0
      exact (h x (List.mem_cons_self ..) h0.1).elim
theorem flat_fine {D : Dsk} {recs : List (List (Int × Int))} (h : Recs D recs) : ∀ p ∈ recs.flatten, Fine p := fun p hp => by
  obtain ⟨ws, h1, h2⟩ := List.mem_flatten.1 hp
  exact h.fine ws h1 p h2
theorem fine_key {p : Int × Int} (h : Fine p) : 0 ≤ p.1 ∧ p.1 < 10 := by
  obtain ⟨n, e, hn⟩ := keyB_nat h.1
  omega
set_option maxRecDepth 100000 in
set_option maxHeartbeats 1000000 in
theorem open_any' {w : World} {d : Nat} {dv : List Value} {D : Dsk} (h : DiskAt w d dv D) {recs : List (List (Int × Int))} (hr : Recs D recs) :
    Calls Tryz.prog 38 #[.pointer (some ⟨d, 0, none⟩)] w fun e w' => ∃ b L, e = .returned (.tuple #[.pointer (some ⟨b, 0, none⟩), .nilIface]) ∧ w'.heap[b]? = some (.cells (basCells d L.s recs.length 0 false) 193 (0, 0)) ∧ EnAt w' L (engO recs.length recs.flatten) ∧ Below w.heap.size w w' ∧ (∀ g, L.own g → w.heap.size ≤ g) ∧ w.heap.size ≤ b ∧ ¬ L.own b := by
  have HW := hid (written_any h hr)
  have hfl : recs.flatten.length ≤ 1000 := by
    have := flat_le hr.len (Nat.le_refl recs.length)
    have := hr.lt
    omega
  have HOV := hid (fun (v : Value) (w1 : World) (hrow : w1.ownsRow w.heap.size 78 2 v recs.flatten.length (vrow recs.flatten)) => over_any recs.length recs.flatten v w1 (by have := hr.lt; omega) (flat_nil hr.ne) hfl (flat_fine hr) hrow)
  clear h hfl
  go_enter Tryz.func38, Tryz.ntmps38
  go_wp2_with fail
  refine HW.out.mono ?_
  rintro e w1 ⟨v, rfl, hrow, hB1⟩
  have HR1 := hid hrow
  have HB1 := hid hB1
  clear hrow hB1 HW
  go_wp2_with fail
  refine (HOV.out v w1 HR1.out).mono ?_
  rintro e w2 ⟨L, rfl, hE, hB2, hO⟩
  have HE := hid hE
  have HB2 := hid hB2
  have HO := hid hO
  clear hE hB2 hO HOV
  go_wp2
  go_ret2
  have hs1 := HB1.out.size
  have hs2 := HB2.out.size
  have hBa : Below w2.heap.size w2 (w2.alloc (.cells (basCells d L.s recs.length 0 false) 193)) := (Below.refl _ w2).alloc (Nat.le_refl _) _
  refine ⟨w2.heap.size, L, rfl, heap_alloc_new w2 _, HE.out.below hBa, HB1.out.trans ((HB2.out.mono hs1).trans (hBa.mono (by omega))), fun g hg => Nat.le_trans hs1 (HO.out g hg), by omega, fun ho => by have := HE.out.own_lt ho; omega⟩

end Go.Proofs.YtjefgmeejhakbaaGreatDoor

/- Three rows of the tale that are appended to at once, in whatever order: what each operation leaves. -/
namespace Go.Proofs.YtjefgmeejhakbaaGreatDoor
open Go.RowKit

/-- w' is w but for the blocks of h, and new ones. -/
structure Chg (h : Nat → Prop) (w w' : World) : Prop where
  os : w'.os = w.os
  tape : w'.tape = w.tape
  output : w'.output = w.output
  size : w.heap.size ≤ w'.heap.size
  block : ∀ g, g < w.heap.size → ¬ h g → w'.heap[g]? = w.heap[g]?
theorem Chg.refl (w : World) : Chg (fun _ => False) w w := ⟨rfl, rfl, rfl, Nat.le_refl _, fun _ _ _ => rfl⟩
theorem Chg.alloc (w : World) (o : Obj) : Chg (fun _ => False) w (w.alloc o) := ⟨rfl, rfl, rfl, by simp, fun g hg _ => Below.heap_alloc _ _ g hg⟩
theorem Chg.grown {w w' : World} {v : Option Nat} (h : w.grownBy w' v) : Chg (fun g => v = some g) w w' := ⟨h.os, h.tape, h.output, h.size, fun g hg hn => h.block g hg (fun e => hn e.symm)⟩
theorem Chg.store (w : World) (b o : Nat) (v : Value) : Chg (fun g => g = b) w (w.setCell ⟨b, o, none⟩ v) := ⟨rfl, rfl, rfl, by simp, fun g _ hn => heap_setCell_other _ _ _ _ hn⟩

/-- A block with one element. -/
def pB (B : Nat) (T : TypeId) (x v : Value) (w : World) : Prop := ∃ b, v = .slice (some ⟨b, 0, none⟩) 1 1 ∧ w.heap[b]? = some (.cells #[x] T (0, 0)) ∧ B ≤ b
/-- A row with one more. -/
def pA (B : Nat) (T : TypeId) (v0 : Value) (n : Nat) (xs : List Value) (x v : Value) (w : World) : Prop := w.ownsRow 0 T 1 v (n + 1) (xs ++ [x]) ∧ ∀ g, v.ownBlock = some g → v0.ownBlock = some g ∨ B ≤ g
def pM (B : Nat) (v : Value) (w : World) : Prop := ∃ m, v = mapV m ∧ IMap w m 0 (fun _ => none) ∧ B ≤ m
def pMB (B : Nat) (T : TypeId) (v : Value) (w : World) : Prop := ∃ m, pB B T (mapV m) v w ∧ IMap w m 0 (fun _ => none) ∧ B ≤ m
def pMA (B : Nat) (T : TypeId) (v0 : Value) (n : Nat) (xs : List Value) (v : Value) (w : World) : Prop := ∃ m, pA B T v0 n xs (mapV m) v w ∧ IMap w m 0 (fun _ => none) ∧ B ≤ m

section
variable {B n : Nat} {T : TypeId} {x v v0 : Value} {xs : List Value} {w w' : World} {h : Nat → Prop}
theorem blk_lt {b : Nat} {o : Obj} (hb : w.heap[b]? = some o) : b < w.heap.size := (Array.getElem?_eq_some_iff.1 hb).1
theorem pB.stay (hp : pB B T x v w) (hc : Chg h w w') (hh : ∀ g, h g → g < B) : pB B T x v w' := by
  obtain ⟨b, e, hb, hB⟩ := hp
  exact ⟨b, e, (hc.block b (blk_lt hb) (fun e => by have := hh b e; omega)).trans hb, hB⟩
theorem pA.stay (hp : pA B T v0 n xs x v w) (hc : Chg h w w') (hh : ∀ g, h g → g < B ∧ v0.ownBlock ≠ some g) : pA B T v0 n xs x v w' := by
  refine ⟨owns_same hp.1 (fun g hg => hc.block g (owns_lt hp.1 hg) (fun e => ?_)), hp.2⟩
  rcases hp.2 g hg with h1 | h1
  · exact (hh g e).2 h1
  · have := (hh g e).1; omega
theorem imap_stay {m : Nat} (hp : IMap w m 0 (fun _ => none)) (hB : B ≤ m) (hc : Chg h w w') (hh : ∀ g, h g → g < B) : IMap w' m 0 (fun _ => none) := hp.same (hc.block m hp.lt (fun e => by have := hh m e; omega))
theorem pM.stay (hp : pM B v w) (hc : Chg h w w') (hh : ∀ g, h g → g < B) : pM B v w' := by
  obtain ⟨m, e, hm, hB⟩ := hp
  exact ⟨m, e, imap_stay hm hB hc hh, hB⟩
theorem pMB.stay (hp : pMB B T v w) (hc : Chg h w w') (hh : ∀ g, h g → g < B) : pMB B T v w' := by
  obtain ⟨m, hb, hm, hB⟩ := hp
  exact ⟨m, hb.stay hc hh, imap_stay hm hB hc hh, hB⟩
theorem pMA.stay (hp : pMA B T v0 n xs v w) (hc : Chg h w w') (hh : ∀ g, h g → g < B ∧ v0.ownBlock ≠ some g) : pMA B T v0 n xs v w' := by
  obtain ⟨m, hb, hm, hB⟩ := hp
  exact ⟨m, hb.stay hc hh, imap_stay hm hB hc (fun g hg => (hh g hg).1), hB⟩
end

/-- The tale's six rows, each of a length of its own. -/
structure RowsAt (w : World) (s : Nat) (L : TalL) (steps n : Int) (broken : Bool) (N : Nat → Nat) (X : Nat → List Value) : Prop where
  blk : w.heap[L.b]? = some (.cells (talCells s L.row steps n broken) 67 (0, 0))
  rows : ∀ j, j < 6 → w.ownsRow 0 (rowT j) 1 (L.row j) (N j) (X j)
  ne_b : ∀ j, j < 6 → (L.row j).ownBlock ≠ some L.b
  ne : ∀ i j g, i < 6 → j < 6 → (L.row i).ownBlock = some g → (L.row j).ownBlock = some g → i = j
theorem TalAt.rowsAt {w : World} {s N : Nat} {L : TalL} {t : Tal} (h : TalAt w s L t N) : RowsAt w s L t.steps t.n t.broken (fun _ => N) (L.rowX t) := by
  obtain ⟨ρ, T⟩ := h.tag
  refine ⟨h.blk, h.rows, fun j hj e => ?_, fun i j g hi hj h1 h2 => ?_⟩
  · have := T.row j _ hj e
    rw [T.b] at this
    cases this
  · have e := (T.row i g hi h1).symm.trans (T.row j g hj h2)
    injection e

/-- The stage of a region that appends to three rows (r, r + 1, r + 2): A: the appends; S: the stores; D: the appends' slots. -/
structure Stage (wB : World) (s : Nat) (L : TalL) (steps n : Int) (broken : Bool) (r A0 A1 A2 S0 S1 S2 D0 D1 D2 : Nat) (listed : Array Bool) (a : Act) (w : World) : Prop where
  os : w.os = wB.os
  tape : w.tape = wB.tape
  output : w.output = wB.output
  size : wB.heap.size ≤ w.heap.size
  old : ∀ g, g < wB.heap.size → g ≠ L.b → (∀ j A, (j, A) ∈ [(r, A0), (r + 1, A1), (r + 2, A2)] → (L.row j).ownBlock = some g → ¬ DoneAt listed A) → w.heap[g]? = wB.heap[g]?
  blk : w.heap[L.b]? = some (.cells (talCells s (fun j => if j = r ∧ DoneAt listed S0 then a.tmps.getD D0 undef else if j = r + 1 ∧ DoneAt listed S1 then a.tmps.getD D1 undef else if j = r + 2 ∧ DoneAt listed S2 then a.tmps.getD D2 undef else L.row j) steps n broken) 67 (0, 0))

section
variable {wB w w' : World} {s : Nat} {L : TalL} {steps n : Int} {broken : Bool} {r A0 A1 A2 S0 S1 S2 D0 D1 D2 : Nat} {listed : Array Bool} {a : Act}
/-- Nothing is turned but the slot of an operation that neither appends nor stores. -/
theorem Stage.pure (h : Stage wB s L steps n broken r A0 A1 A2 S0 S1 S2 D0 D1 D2 listed a w) {i d : Nat} {v : Value} (hS : i ≠ S0 ∧ i ≠ S1 ∧ i ≠ S2) (hD : d ≠ D0 ∧ d ≠ D1 ∧ d ≠ D2) (hc : Chg (fun _ => False) w w') (hb : L.b < wB.heap.size) :
    Stage wB s L steps n broken r A0 A1 A2 S0 S1 S2 D0 D1 D2 (listed.setIfInBounds i true) (a.put (some d) v) w' := by
  refine ⟨hc.os.trans h.os, hc.tape.trans h.tape, hc.output.trans h.output, Nat.le_trans h.size hc.size, fun g hg hne hj => ?_, ?_⟩
  · refine (hc.block g (Nat.lt_of_lt_of_le hg h.size) (fun h => h)).trans (h.old g hg hne (fun j A hm hr hd => hj j A hm hr ?_))
    exact done_mono hd
  · rw [hc.block _ (Nat.lt_of_lt_of_le hb h.size) (fun h => h), h.blk]
    simp only [done_set_ne hS.1.symm, done_set_ne hS.2.1.symm, done_set_ne hS.2.2.symm, getD_put_ne hD.1.symm, getD_put_ne hD.2.1.symm, getD_put_ne hD.2.2.symm]
/-- An append. -/
theorem Stage.app (h : Stage wB s L steps n broken r A0 A1 A2 S0 S1 S2 D0 D1 D2 listed a w) {i d j : Nat} {v : Value} (hi : (j, i, d) ∈ [(r, A0, D0), (r + 1, A1, D1), (r + 2, A2, D2)]) (hn : ¬ DoneAt listed S0 ∧ ¬ DoneAt listed S1 ∧ ¬ DoneAt listed S2) (hS : i ≠ S0 ∧ i ≠ S1 ∧ i ≠ S2) (hc : Chg (fun g => (L.row j).ownBlock = some g) w w') (hls : i < listed.size) (hb : L.b < wB.heap.size) (hbr : (L.row j).ownBlock ≠ some L.b) :
    Stage wB s L steps n broken r A0 A1 A2 S0 S1 S2 D0 D1 D2 (listed.setIfInBounds i true) (a.put (some d) v) w' := by
  refine ⟨hc.os.trans h.os, hc.tape.trans h.tape, hc.output.trans h.output, Nat.le_trans h.size hc.size, fun g hg hne hj => ?_, ?_⟩
  · have hjg : (L.row j).ownBlock ≠ some g := fun e => by
      refine hj j i ?_ e (done_self hls)
      simp only [List.mem_cons, Prod.mk.injEq, List.not_mem_nil, or_false] at hi ⊢
      rcases hi with ⟨h1, h2, _⟩ | ⟨h1, h2, _⟩ | ⟨h1, h2, _⟩
      · exact .inl ⟨h1, h2⟩
      · exact .inr (.inl ⟨h1, h2⟩)
      · exact .inr (.inr ⟨h1, h2⟩)
    refine (hc.block g (Nat.lt_of_lt_of_le hg h.size) hjg).trans (h.old g hg hne (fun j A hm hr hd => hj j A hm hr ?_))
    exact done_mono hd
  · rw [hc.block _ (Nat.lt_of_lt_of_le hb h.size) hbr, h.blk]
    simp only [done_set_ne hS.1.symm, done_set_ne hS.2.1.symm, done_set_ne hS.2.2.symm, hn.1, hn.2.1, hn.2.2, and_false, if_false]
/-- A store. -/
theorem Stage.store (h : Stage wB s L steps n broken r A0 A1 A2 S0 S1 S2 D0 D1 D2 listed a w) {i d j : Nat} (hi : (j, i, d) ∈ [(r, S0, D0), (r + 1, S1, D1), (r + 2, S2, D2)]) (hd : S0 ≠ S1 ∧ S0 ≠ S2 ∧ S1 ≠ S2) (hls : i < listed.size) (hr : r = 0 ∨ r = 3) :
    Stage wB s L steps n broken r A0 A1 A2 S0 S1 S2 D0 D1 D2 (listed.setIfInBounds i true) (a.put none undef) (w.setCell ⟨L.b, j + 1, none⟩ (a.tmps.getD d undef)) := by
  have hc := Chg.store w L.b (j + 1) (a.tmps.getD d undef)
  refine ⟨h.os, h.tape, h.output, Nat.le_trans h.size hc.size, fun g hg hne hj => ?_, ?_⟩
  · refine (hc.block g (Nat.lt_of_lt_of_le hg h.size) hne).trans (h.old g hg hne (fun j A hm hr hd => hj j A hm hr (done_mono hd)))
  · rw [setCell_at h.blk]
    have hself := done_self hls
    simp only [List.mem_cons, Prod.mk.injEq, List.not_mem_nil, or_false] at hi
    rcases hi with ⟨rfl, rfl, rfl⟩ | ⟨rfl, rfl, rfl⟩ | ⟨rfl, rfl, rfl⟩
    · rcases hr with rfl | rfl <;> simp [talCells, hself, done_set_ne hd.1.symm, done_set_ne hd.2.1.symm, Act.put]
    · rcases hr with rfl | rfl <;> simp [talCells, hself, done_set_ne hd.1, done_set_ne hd.2.2.symm, Act.put]
    · rcases hr with rfl | rfl <;> simp [talCells, hself, done_set_ne hd.2.1, done_set_ne hd.2.2, Act.put]
/-- At first. -/
theorem Stage.start {wB : World} {s : Nat} {L : TalL} {steps n : Int} {broken : Bool} {N : Nat → Nat} {X : Nat → List Value} (h : RowsAt wB s L steps n broken N X) (r A0 A1 A2 S0 S1 S2 D0 D1 D2 sz : Nat) (a : Act) : Stage wB s L steps n broken r A0 A1 A2 S0 S1 S2 D0 D1 D2 (Array.replicate sz false) a wB.drew := by
  refine ⟨rfl, rfl, rfl, Nat.le_refl _, fun g _ _ _ => rfl, ?_⟩
  simp only [not_done_replicate, and_false, if_false]
  exact h.blk
end

section
variable {wB w : World} {s : Nat} {L : TalL} {N : Nat → Nat} {X : Nat → List Value} {steps n : Int} {broken : Bool} {r A0 A1 A2 S0 S1 S2 D0 D1 D2 : Nat} {listed : Array Bool} {a : Act}
/-- A row that was not appended to yet. -/
theorem Stage.rowAt (h : Stage wB s L steps n broken r A0 A1 A2 S0 S1 S2 D0 D1 D2 listed a w) (hT : RowsAt wB s L steps n broken N X) {j A : Nat} (hj : (j, A) ∈ [(r, A0), (r + 1, A1), (r + 2, A2)]) (hr : r + 2 < 6) (hn : ¬ DoneAt listed A) : w.ownsRow 0 (rowT j) 1 (L.row j) (N j) (X j) := by
  have hj6 : j < 6 := by
    simp only [List.mem_cons, Prod.mk.injEq, List.not_mem_nil, or_false] at hj
    omega
  refine owns_same (hT.rows j hj6) (fun g hg => h.old g (owns_lt (hT.rows j hj6) hg) (fun e => hT.ne_b j hj6 (by rw [hg, e])) (fun j' A' hm hr' hd => hn ?_))
  have e : j' = j := hT.ne j' j g (by
    simp only [List.mem_cons, Prod.mk.injEq, List.not_mem_nil, or_false] at hm
    omega) hj6 hr' hg
  subst e
  simp only [List.mem_cons, Prod.mk.injEq, List.not_mem_nil, or_false] at hj hm
  have : A' = A := by omega
  rw [← this]
  exact hd
theorem Stage.cellAt (h : Stage wB s L steps n broken r A0 A1 A2 S0 S1 S2 D0 D1 D2 listed a w) {j S : Nat} (hj : (j, S) ∈ [(r, S0), (r + 1, S1), (r + 2, S2)]) (hr : r = 0 ∨ r = 3) (hn : ¬ DoneAt listed S) : w.cell? ⟨L.b, j + 1, none⟩ = some (L.row j) := by
  refine (cell_of_row w L.b (j + 1) _ _ (0, 0) h.blk).trans ?_
  simp only [List.mem_cons, Prod.mk.injEq, List.not_mem_nil, or_false] at hj
  rcases hj with ⟨rfl, rfl⟩ | ⟨rfl, rfl⟩ | ⟨rfl, rfl⟩ <;> rcases hr with rfl | rfl <;> simp [talCells, hn]
theorem Stage.cellN (h : Stage wB s L steps n broken r A0 A1 A2 S0 S1 S2 D0 D1 D2 listed a w) : w.cell? ⟨L.b, 7, none⟩ = some (.int .i64 steps) := (cell_of_row w L.b 7 _ _ (0, 0) h.blk).trans (by simp [talCells])
theorem Stage.free (h : Stage wB s L steps n broken r A0 A1 A2 S0 S1 S2 D0 D1 D2 listed a w) (o : Nat) : w.frozen? ⟨L.b, o, none⟩ = false := by simp [World.frozen?, h.blk]

set_option maxRecDepth 100000 in
/-- The append of one element. -/
theorem app_arm {ops : Array Oper} {o : Oper} {K : Act → World → Prop} {Q : Exit → Act → World → Prop} {B m : Nat} {e : TypeId} {z v0 xv x : Value} {xs : List Value} (hgd : o.guard = none) (so xo : Operand) (ty : TypeId)
    (ho : o.op = .call { callee := .builtin .append, args := #[so, xo], argTypes := #[ty, ty] }) (by_ : Nat) (hty : Tryz.prog.underlying ty = some (.slice e)) (hinfo : (Tryz.prog.info? e).map (fun i => (i.zero, i.size, i.bytes)) = some (some z, 1, by_)) (hz : z.cells.size = 1) (hby : by_ ≤ 100)
    (hs : a.eval so = v0) (hown : w.ownsRow 0 e 1 v0 m xs) (hx : a.eval xo = xv) (hb : pB B e x xv w) (h1 : x.oneCell' = true) (hm : m ≤ 1000) (hB : B ≤ w.heap.size)
    (h : ∀ v w', pA B e v0 m xs x v w' → Chg (fun g => v0.ownBlock = some g) w w' → (∀ g, v.ownBlock = some g → v0.ownBlock = some g ∨ w.heap.size ≤ g) → K (a.put o.dst v) w') : if Region.wanted o (yielded ops a.tmps) = true then Oper.wp Tryz.prog o a w K Q else True := by
  obtain ⟨i0, hi0, hz0, hz1, hz2⟩ := info_parts hinfo
  obtain ⟨b, rfl, hblk, hBb⟩ := hb
  refine step_append_lies w hgd so xo ty ho 0 e i0 z 1 by_ hty hi0 hz0 hz1 hz2 hz (by omega) v0 m xs hs hown ⟨b, 0, none⟩ 1 1 [x] hx rfl (World.news_of_block (cs := #[x]) hblk) (fun u hu => by rw [List.mem_singleton.1 hu]; exact h1) (by omega) (by unfold maxLen; omega) (Nat.le_trans (Nat.mul_le_mul (show m + 1 ≤ 1001 by omega) hby) (by omega)) (Nat.zero_le _) w.heap.size rfl ?_
  intro g cap w2 h2 h3 h4 _
  have hg : ∀ g', (Value.slice (some ⟨g, 0, none⟩) (m + 1) cap).ownBlock = some g' → v0.ownBlock = some g' ∨ w.heap.size ≤ g' := fun g' hg' => by
    have : g' = g := by injection hg' with hg'; exact hg'.symm
    rw [this]
    exact h4.imp id (fun e => by omega)
  exact h _ w2 ⟨h2, fun g' hg' => (hg g' hg').imp id (fun e => by omega)⟩ (Chg.grown h3) hg
end
/-- When all of it has gone. -/
theorem Stage.done {wB w : World} {s : Nat} {L : TalL} {N : Nat → Nat} {X : Nat → List Value} {steps n : Int} {broken : Bool} {r A0 A1 A2 S0 S1 S2 D0 D1 D2 : Nat} {listed : Array Bool} {a : Act} (h : Stage wB s L steps n broken r A0 A1 A2 S0 S1 S2 D0 D1 D2 listed a w) (hR : RowsAt wB s L steps n broken N X) (hr : r = 0 ∨ r = 3) (hS : DoneAt listed S0 ∧ DoneAt listed S1 ∧ DoneAt listed S2) (v x : Nat → Value) (h0 : a.tmps.getD D0 undef = v r) (h1 : a.tmps.getD D1 undef = v (r + 1)) (h2 : a.tmps.getD D2 undef = v (r + 2))
    (hp : ∀ j, r ≤ j → j ≤ r + 2 → pA wB.heap.size (rowT j) (L.row j) (N j) (X j) (x j) (v j) w) (hd : ∀ i j g, (r ≤ i ∧ i ≤ r + 2) → (r ≤ j ∧ j ≤ r + 2) → (v i).ownBlock = some g → (v j).ownBlock = some g → i = j) :
    RowsAt w s { L with row := fun j => if r ≤ j ∧ j ≤ r + 2 then v j else L.row j } steps n broken (fun j => if r ≤ j ∧ j ≤ r + 2 then N j + 1 else N j) (fun j => if r ≤ j ∧ j ≤ r + 2 then X j ++ [x j] else X j) ∧
      Chg (fun g => g = L.b ∨ ∃ j, (r ≤ j ∧ j ≤ r + 2) ∧ (L.row j).ownBlock = some g) wB w := by
  have hlt : ∀ j g, j < 6 → (L.row j).ownBlock = some g → g < wB.heap.size := fun j g hj hg => owns_lt (hR.rows j hj) hg
  have hC : Chg (fun g => g = L.b ∨ ∃ j, (r ≤ j ∧ j ≤ r + 2) ∧ (L.row j).ownBlock = some g) wB w := ⟨h.os, h.tape, h.output, h.size, fun g hg hn => h.old g hg (fun e => hn (.inl e)) (fun j A hm hr' _ => hn (.inr ⟨j, by
    simp only [List.mem_cons, Prod.mk.injEq, List.not_mem_nil, or_false] at hm
    omega, hr'⟩))⟩
  refine ⟨⟨?_, fun j hj => ?_, fun j hj e => ?_, fun i j g hi hj hgi hgj => ?_⟩, hC⟩
  · rw [h.blk]
    have e : talCells s (fun j => if j = r ∧ DoneAt listed S0 then a.tmps.getD D0 undef else if j = r + 1 ∧ DoneAt listed S1 then a.tmps.getD D1 undef else if j = r + 2 ∧ DoneAt listed S2 then a.tmps.getD D2 undef else L.row j) steps n broken = talCells s (fun j => if r ≤ j ∧ j ≤ r + 2 then v j else L.row j) steps n broken := by
      rw [h0, h1, h2]
      rcases hr with rfl | rfl <;> simp [talCells, hS.1, hS.2.1, hS.2.2]
    rw [e]
  · by_cases hj2 : r ≤ j ∧ j ≤ r + 2
    · simp only [if_pos hj2]
      exact (hp j hj2.1 hj2.2).1
    · simp only [if_neg hj2]
      refine owns_same (hR.rows j hj) (fun g hg => hC.block g (hlt j g hj hg) (fun hx => ?_))
      rcases hx with e | ⟨i, hi, e⟩
      · exact hR.ne_b j hj (by rw [hg, e])
      · have := hR.ne i j g (by omega) hj e hg
        omega
  · by_cases hj2 : r ≤ j ∧ j ≤ r + 2
    · simp only [if_pos hj2] at e
      rcases (hp j hj2.1 hj2.2).2 _ e with h3 | h3
      · exact hR.ne_b j hj h3
      · have := blk_lt hR.blk
        omega
    · simp only [if_neg hj2] at e
      exact hR.ne_b j hj e
  · by_cases hi2 : r ≤ i ∧ i ≤ r + 2
    · by_cases hj2 : r ≤ j ∧ j ≤ r + 2
      · simp only [if_pos hi2] at hgi
        simp only [if_pos hj2] at hgj
        exact hd i j g hi2 hj2 hgi hgj
      · simp only [if_pos hi2] at hgi
        simp only [if_neg hj2] at hgj
        rcases (hp i hi2.1 hi2.2).2 _ hgi with h3 | h3
        · exact hR.ne i j g hi hj h3 hgj
        · have := hlt j g hj hgj
          omega
    · by_cases hj2 : r ≤ j ∧ j ≤ r + 2
      · simp only [if_neg hi2] at hgi
        simp only [if_pos hj2] at hgj
        rcases (hp j hj2.1 hj2.2).2 _ hgj with h3 | h3
        · exact hR.ne i j g hi hj hgi h3
        · have := hlt i g hi hgi
          omega
      · simp only [if_neg hi2] at hgi
        simp only [if_neg hj2] at hgj
        exact hR.ne i j g hi hj hgi hgj
/-- Rows of elements of other types are not in one block. -/
theorem pA.typ {B : Nat} {T T' : TypeId} {v0 v0' x x' v v' : Value} {n n' : Nat} {xs xs' : List Value} {w : World} {g : Nat} (h : pA B T v0 n xs x v w) (h' : pA B T' v0' n' xs' x' v' w) (hg : v.ownBlock = some g) (hg' : v'.ownBlock = some g) : T = T' := by
  obtain ⟨c, hc⟩ := owns_typ h.1 hg
  obtain ⟨c', hc'⟩ := owns_typ h'.1 hg'
  rw [hc] at hc'
  injection hc' with e
  injection e
/-- One more is begun, and told. -/
theorem TaleAt.begun {w0 : Gr} {w2 w3 W : World} {L L3 : EnL} {E E' : Eng} {TL : TalL} {t : Tal} {level : Int} {row' : Nat → Value} {av : Value} {m : Nat} (H2 : TaleAt w0 w2 L E TL t) (hE3 : EnAt w3 L3 E') (hlen : E'.txs.length = E.txs.length + 1) (hK3 : KeptO L.own L3.own w2 w3) (hs3 : L3.s = L.s)
    (hav : w2.ownsRow 0 78 2 av (allE E).length (vrow (allE E))) (havT : ∀ g, av.ownBlock = some g → ¬ TL.own g ∧ ¬ L.own g ∧ ¬ w0.P g)
    (hb : W.heap[TL.b]? = some (.cells (talCells L.s row' t.steps t.n t.broken) 67 (0, 0)))
    (hrow : ∀ j, j < 6 → W.ownsRow 0 (rowT j) 1 (row' j) (E.txs.length + 1) (TL.rowX t j ++ [newX level t.steps av m j]) ∧ ∀ g, (row' j).ownBlock = some g → (TL.row j).ownBlock = some g ∨ w3.heap.size ≤ g)
    (hd : ∀ i j g, i < 6 → j < 6 → (row' i).ownBlock = some g → (row' j).ownBlock = some g → i = j)
    (hm : IMap W m 10 (fun _ => none)) (hm2 : w3.heap.size ≤ m) (hC : Chg (fun g => g = TL.b ∨ ∃ j, j < 6 ∧ (TL.row j).ownBlock = some g) w3 W) : TaleAt w0 W L3 E' (moreL TL row' av m) (beginT E t level) := by
  have h3 : TalAt w3 L.s TL t E.txs.length := H2.tal.same (fun g hg => hK3.block g (H2.tal.own_lt hg) (H2.apart g hg))
  have hlt : ∀ g, av.ownBlock = some g → g < w2.heap.size := fun g hg => owns_lt hav hg
  have hav3 : ∀ g, av.ownBlock = some g → W.heap[g]? = w2.heap[g]? := fun g hg => (hC.block g (Nat.lt_of_lt_of_le (hlt g hg) hK3.size) (fun h => (havT g hg).1 (h.elim .inl (fun ⟨j, hj, e⟩ => .inr (.inl ⟨j, hj, e⟩))))).trans (hK3.block g (hlt g hg) (havT g hg).2.1)
  obtain ⟨hT, hown, hkeep⟩ := h3.more (E := E) (level := level) hb hrow hd (owns_same hav hav3) (fun g hg => ⟨(havT g hg).1, Nat.lt_of_lt_of_le (hlt g hg) hK3.size⟩) hm hm2 (fun g hg h1 h2 => hC.block g hg (fun h => h.elim h1 (fun ⟨j, hj, e⟩ => h2 j hj e)))
  have hap : ∀ g, TL.own g → ¬ L3.own g := fun g hg hg' => (hK3.sub g hg').elim (H2.apart g hg) (fun e => by have := H2.tal.own_lt hg; omega)
  refine ⟨hE3.same (fun g hg => hkeep g (hE3.own_lt hg) (fun h => hap g h hg)), by rw [hs3, hlen]; exact hT, fun g hg hg' => ?_, fun g hg => ?_, fun g hg => ?_, ?_⟩
  · rcases hown g hg with h | h | h
    · exact hap g h hg'
    · have := hE3.own_lt hg'; omega
    · exact (hK3.sub g hg').elim (havT g h).2.1 (fun e => by have := hlt g h; omega)
  · exact (hK3.sub g hg).elim (H2.newE g) (fun e => H2.kept.new e)
  · rcases hown g hg with h | h | h
    · exact H2.newT g h
    · exact H2.kept.new (Nat.le_trans hK3.size h)
    · exact (havT g h).2.2
  · refine (H2.kept.go hK3 H2.newE).go (o := fun g => g = TL.b ∨ ∃ j, j < 6 ∧ (TL.row j).ownBlock = some g) (o' := fun _ => False) ⟨hC.os, hC.tape, hC.output, hC.size, fun g hg hn => hC.block g hg hn, fun _ hf => hf.elim⟩ (fun g h => ?_)
    exact H2.newT g (h.elim .inl (fun ⟨j, hj, e⟩ => .inr (.inl ⟨j, hj, e⟩)))
theorem infoWs : (Tryz.prog.info? 23).map (fun i => (i.zero, i.size, i.bytes)) = some (some (.slice none 0 0), 1, 24) := by kernel_rfl
theorem infoMp : (Tryz.prog.info? 69).map (fun i => (i.zero, i.size, i.bytes)) = some (some (.map none), 1, 8) := by kernel_rfl
theorem infoSs : (Tryz.prog.info? 73).map (fun i => (i.zero, i.size, i.bytes)) = some (some (.slice none 0 0), 1, 24) := by kernel_rfl
theorem infoSeen : (Tryz.prog.info? 75).map (fun i => (i.zero, i.size, i.bytes)) = some (some (.agg #[.int .i64 0, .int .i64 0]), 2, 16) := by kernel_rfl
theorem infoI : (Tryz.prog.info? 3).map (fun i => (i.zero, i.size, i.bytes)) = some (some (.int .i64 0), 1, 8) := by kernel_rfl

end Go.Proofs.YtjefgmeejhakbaaGreatDoor
