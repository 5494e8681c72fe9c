/- How an interleafref.Table lies in memory; its Holds, Line, Waits. -/
import Derived.Test.YtjefgmeejhakbaaDoorLkDrop
import Derived.Test.YtjefgmeejhakbaaDoorSameW
import Derived.Deep.MidRow
namespace Go.Proofs.YtjefgmeejhakbaaDoor
open Go.RowKit

/-- The document's table at block r: of each key a row of its own. -/
structure RTab (w : World) (base r : Nat) (vs : List Value) (T : Tab) : Prop where
  blk : w.heap[r]? = some (.cells vs.toArray 75 (0, 0))
  lv : vs.length = 10
  own : ∀ (k : Nat) (v : Value), vs[k]? = some v → w.ownsRow base 3 1 v (T k).length (intsV (T k))
  nl : ∀ (k : Nat) (v : Value), vs[k]? = some v → T k = [] → v = .slice none 0 0
  rb : r < base
/-- Block b is one of the table's. -/
def ROwn (r : Nat) (vs : List Value) (b : Nat) : Prop := b = r ∨ ∃ v ∈ vs, v.ownBlock = some b
/-- The world is as it was but for block r, and new blocks; the rows are rows that were there, or new. -/
structure KeptR (r : Nat) (vs vs' : List Value) (w w' : World) : Prop where
  os : w'.os = w.os
  tape : w'.tape = w.tape
  output : w'.output = w.output
  size : w.heap.size ≤ w'.heap.size
  block : ∀ b, b < w.heap.size → b ≠ r → w'.heap[b]? = w.heap[b]?
  sub : ∀ g, ROwn r vs' g → ROwn r vs g ∨ w.heap.size ≤ g

section
variable {w w' : World} {base r : Nat} {vs vs' vs'' : List Value} {T : Tab}
theorem RTab.lt (h : RTab w base r vs T) : r < w.heap.size := (Array.getElem?_eq_some_iff.1 h.blk).1
theorem RTab.own_lt (h : RTab w base r vs T) {b : Nat} (hb : ROwn r vs b) : b < w.heap.size := by
  rcases hb with rfl | ⟨v, hv, hg⟩
  · exact h.lt
  · obtain ⟨k, hk, rfl⟩ := List.mem_iff_getElem.1 hv
    exact ((h.own k _ (List.getElem?_eq_getElem hk)).lt b hg).2
theorem RTab.row_ge (h : RTab w base r vs T) {v : Value} (hv : v ∈ vs) {g : Nat} (hg : v.ownBlock = some g) : base ≤ g := by
  obtain ⟨k, hk, rfl⟩ := List.mem_iff_getElem.1 hv
  exact ((h.own k _ (List.getElem?_eq_getElem hk)).lt g hg).1
theorem RTab.same (h : RTab w base r vs T) (hs : ∀ b, ROwn r vs b → w'.heap[b]? = w.heap[b]?) : RTab w' base r vs T :=
  ⟨(hs r (.inl rfl)).trans h.blk, h.lv, fun k v hv => owns_same (h.own k v hv) (fun g hg => hs g (.inr ⟨v, List.mem_of_getElem? hv, hg⟩)), h.nl, h.rb⟩
theorem RTab.below (h : RTab w base r vs T) (hB : Below w.heap.size w w') : RTab w' base r vs T := h.same (fun b hb => hB.block b (h.own_lt hb))
theorem RTab.cell (h : RTab w base r vs T) {k : Nat} {v : Value} (hv : vs[k]? = some v) : w.cell? ⟨r, k, none⟩ = some v := by
  rw [cell_of_row w r k _ 75 (0, 0) h.blk]
  simpa using hv
theorem RTab.free (h : RTab w base r vs T) (o : Nat) : w.frozen? ⟨r, o, none⟩ = false := by simp [World.frozen?, h.blk]
theorem RTab.at (h : RTab w base r vs T) {k : Nat} (hk : k < 10) : ∃ v, vs[k]? = some v ∧ w.ownsRow base 3 1 v (T k).length (intsV (T k)) := by
  have hl : k < vs.length := by rw [h.lv]; exact hk
  exact ⟨vs[k], List.getElem?_eq_getElem hl, h.own k _ (List.getElem?_eq_getElem hl)⟩
theorem KeptR.refl (r : Nat) (vs : List Value) (w : World) : KeptR r vs vs w w := ⟨rfl, rfl, rfl, Nat.le_refl _, fun _ _ _ => rfl, fun _ h => .inl h⟩
theorem KeptR.trans {a b c : World} (h : KeptR r vs vs' a b) (k : KeptR r vs' vs'' b c) : KeptR r vs vs'' a c :=
  ⟨k.os.trans h.os, k.tape.trans h.tape, k.output.trans h.output, Nat.le_trans h.size k.size,
    fun i hi hn => (k.block i (Nat.lt_of_lt_of_le hi h.size) hn).trans (h.block i hi hn),
    fun g hg => (k.sub g hg).elim (h.sub g) (fun e => .inr (Nat.le_trans h.size e))⟩
theorem KeptR.of_below (h : Below w.heap.size w w') : KeptR r vs vs w w' :=
  ⟨h.os, h.tape, h.output, h.size, fun b hb _ => h.block b hb, fun _ h => .inl h⟩
theorem KeptR.below {B : Nat} (h : KeptR r vs vs' w w') (hB : B ≤ w.heap.size) (hr : B ≤ r) : Below B w w' :=
  ⟨h.os, h.tape, h.output, h.size, fun k hk => h.block k (by omega) (by omega)⟩
end

/-- A table's zero value. -/
def nilsV : List Value := List.replicate 10 (.slice none 0 0)
theorem RTab.zero (w : World) (base : Nat) (hb : w.heap.size < base) : RTab (w.alloc (.cells #[.slice none 0 0, .slice none 0 0, .slice none 0 0, .slice none 0 0, .slice none 0 0, .slice none 0 0, .slice none 0 0, .slice none 0 0, .slice none 0 0, .slice none 0 0] 75)) base w.heap.size nilsV (fun _ => []) := by
  have hn : ∀ (k : Nat) (v : Value), nilsV[k]? = some v → v = .slice none 0 0 := by
    intro k v hv
    have hk : k < 10 := (List.getElem?_eq_some_iff.1 hv).1
    simp only [nilsV, List.getElem?_replicate, hk, if_true] at hv
    cases hv
    rfl
  refine ⟨heap_alloc_new w _, rfl, fun k v hv => ?_, fun k v hv _ => hn k v hv, hb⟩
  rw [hn k v hv]
  exact World.ownsRow_nil _ _ _ _

theorem notKey_nil {T : Tab} (h : Tidy0 T) {k : Int} (hk : inB k 0 9 = false) : T k = [] := by
  by_cases e : T k = []
  · exact e
  · have := h.rng k e
    simp [inB] at hk
    omega

set_option maxRecDepth 100000 in
set_option maxHeartbeats 2000000 in
theorem rholds_any (base r : Nat) (vs : List Value) (T : Tab) (k : Int) (w : World) (h : RTab w base r vs T) (hT : Tidy0 T) :
    Calls Tryd.prog 34 #[.pointer (some ⟨r, 0, none⟩), .int .i64 k] w fun e w' => e = .returned (.int .i64 (holdsP T k)) ∧ w' = w := by
  cases hin : inB k 0 9 with
  | false =>
    have e0 : holdsP T k = 0 := (holds_zero hT).2 (notKey_nil hT hin)
    rw [e0]
    clear h e0
    go_enter Tryd.func34, Tryd.ntmps34
    go_wp2_with (go_at_call 48; refine (in_any _ _ _ _).mono ?_; rintro e w' ⟨rfl, rfl⟩)
    go_ret
    exact ⟨rfl, rfl⟩
  | true =>
    have hk : 0 ≤ k ∧ k ≤ 9 := by simpa [inB] using hin
    obtain ⟨j, rfl⟩ := Int.eq_ofNat_of_zero_le hk.1
    have hj0 : (0 : Int) ≤ (j : Int) := by omega
    have hj1 : (j : Int) < 10 := by omega
    obtain ⟨v, hv, ho⟩ := h.at (show j < 10 by omega)
    have cv := h.cell hv
    rcases row_slice ho with ⟨rfl, e0⟩ | ⟨g, c, rfl, hgl, hcg⟩
    · have e1 : holdsP T j = 0 := (holds_zero hT).2 (List.eq_nil_of_length_eq_zero e0)
      rw [e1]
      clear h e1 e0 ho hv
      go_enter Tryd.func34, Tryd.ntmps34
      go_wp2_with (go_at_call 48; refine (in_any _ _ _ _).mono ?_; rintro e w' ⟨rfl, rfl⟩)
      go_ret
      exact ⟨rfl, rfl⟩
    · by_cases hn : T j = []
      · have e1 : holdsP T j = 0 := (holds_zero hT).2 hn
        have e2 : (T j).length = 0 := by rw [hn]; rfl
        rw [e2] at cv
        rw [e1]
        clear h e1 ho hv hcg e2 hn
        go_enter Tryd.func34, Tryd.ntmps34
        go_wp2_with (go_at_call 48; refine (in_any _ _ _ _).mono ?_; rintro e w' ⟨rfl, rfl⟩)
        go_ret
        exact ⟨rfl, rfl⟩
      · obtain ⟨a, l, hal⟩ : ∃ a l, T j = a :: l := by
          cases hT : T j with
          | nil => exact (hn hT).elim
          | cons a l => exact ⟨a, l, rfl⟩
        have e1 : holdsP T j = a := by simp [holdsP, hal]
        have ca : w.cell? ⟨g, 0, none⟩ = some (.int .i64 a) := hcg 0 _ (intsV_get (by rw [hal]; rfl))
        obtain ⟨m, hm⟩ : ∃ m, (T j).length = m := ⟨_, rfl⟩
        have hm0 : (0 : Int) < (m : Int) := by rw [← hm, hal]; simp only [List.length_cons]; omega
        have hm1 : ((m : Int) == 0) = false := by simp; omega
        rw [hm] at cv
        rw [e1]
        clear h e1 ho hv hcg hn hal hm
        go_enter Tryd.func34, Tryd.ntmps34
        go_wp2_with (go_at_call 48; refine (in_any _ _ _ _).mono ?_; rintro e w' ⟨rfl, rfl⟩)
        go_ret
        exact ⟨rfl, rfl⟩

set_option maxRecDepth 100000 in
set_option maxHeartbeats 2000000 in
theorem rline_any (base r : Nat) (vs : List Value) (T : Tab) (k : Int) (w : World) (h : RTab w base r vs T) (hT : Tidy0 T) (hlen : ∀ j, (T j).length ≤ 1000000) :
    Calls Tryd.prog 36 #[.pointer (some ⟨r, 0, none⟩), .int .i64 k] w fun e w' => ∃ v, e = .returned v ∧ LineAt w v (T k).tail ∧ w' = w := by
  cases hin : inB k 0 9 with
  | false =>
    have e0 : T k = [] := notKey_nil hT hin
    rw [e0]
    clear h e0
    go_enter Tryd.func36, Tryd.ntmps36
    go_wp2_with (go_at_call 48; refine (in_any _ _ _ _).mono ?_; rintro e w' ⟨rfl, rfl⟩)
    go_ret
    exact ⟨_, rfl, ⟨none, 0, rfl, fun hl => (hl rfl).elim⟩, rfl⟩
  | true =>
    have hk : 0 ≤ k ∧ k ≤ 9 := by simpa [inB] using hin
    obtain ⟨j, rfl⟩ := Int.eq_ofNat_of_zero_le hk.1
    have hj0 : (0 : Int) ≤ (j : Int) := by omega
    have hj1 : (j : Int) < 10 := by omega
    obtain ⟨v, hv, ho⟩ := h.at (show j < 10 by omega)
    have cv := h.cell hv
    rcases row_slice ho with ⟨rfl, e0⟩ | ⟨g, c, rfl, hgl, hcg⟩
    · have e1 : T j = [] := List.eq_nil_of_length_eq_zero e0
      rw [e1]
      clear h e1 e0 ho hv
      go_enter Tryd.func36, Tryd.ntmps36
      go_wp2_with (go_at_call 48; refine (in_any _ _ _ _).mono ?_; rintro e w' ⟨rfl, rfl⟩)
      go_ret
      exact ⟨_, rfl, ⟨none, 0, rfl, fun hl => (hl rfl).elim⟩, rfl⟩
    · by_cases hn : T j = []
      · have e2 : (T j).length = 0 := by rw [hn]; rfl
        rw [e2] at cv
        rw [hn]
        clear h ho hv hcg e2 hn
        go_enter Tryd.func36, Tryd.ntmps36
        go_wp2_with (go_at_call 48; refine (in_any _ _ _ _).mono ?_; rintro e w' ⟨rfl, rfl⟩)
        go_ret
        exact ⟨_, rfl, ⟨none, 0, rfl, fun hl => (hl rfl).elim⟩, rfl⟩
      · obtain ⟨a, l, hal⟩ : ∃ a l, T j = a :: l := by
          cases hT : T j with
          | nil => exact (hn hT).elim
          | cons a l => exact ⟨a, l, rfl⟩
        have hlj := hlen j
        obtain ⟨m, hm⟩ : ∃ m, (T j).length = m := ⟨_, rfl⟩
        have hm2 : m = l.length + 1 := by rw [← hm, hal]; rfl
        have hm0 : (0 : Int) < (m : Int) := by omega
        have hm1 : ((m : Int) == 0) = false := by simp; omega
        have hmc : m ≤ c := by
          rcases ho.2 with ⟨e, _⟩ | ⟨g', c', cur, e, _, _, hnc, _⟩
          · cases e
          · injection e with e1 e2 e3; omega
        rw [hm] at cv hlj
        have HC := hid (show ∀ (i : Nat) (x : Int), l[i]? = some x → w.cell? ⟨g, 1 + i, none⟩ = some (.int .i64 x) from fun i x hx => hcg (1 + i) _ (intsV_get (by rw [hal, Nat.add_comm]; exact hx)))
        rw [hal]
        have HM := hid hm2
        clear h ho hv hcg hn hal hm hlen hm2
        have hmz : (1 : Int) ≤ (m : Int) := by omega
        go_enter Tryd.func36, Tryd.ntmps36
        go_wp2_with (go_at_call 48; refine (in_any _ _ _ _).mono ?_; rintro e w' ⟨rfl, rfl⟩)
        · go_ret
          have h1 := HM.out
          have hl0 : l.length = 0 := by omega
          exact ⟨_, rfl, ⟨some ⟨g, 0, none⟩, 0, by show Value.slice _ (m - 1) 0 = _; rw [show m - 1 = l.length by omega], fun hl => (hl (List.eq_nil_of_length_eq_zero hl0)).elim⟩, rfl⟩
        · go_ret
          have h1 := HM.out
          exact ⟨_, rfl, ⟨some ⟨g, 1, none⟩, c - 1, by show Value.slice _ (m - 1) _ = _; rw [show m - 1 = l.length by omega], fun _ => ⟨g, 1, rfl, hgl, HC.out⟩⟩, rfl⟩

theorem rinfo73 : (Tryd.prog.info? 73).map (·.size) = some 10 := by kernel_rfl
theorem rinfo49 : (Tryd.prog.info? 49).map (·.size) = some 1 := by kernel_rfl
/-- One key's row of all. -/
theorem run_rkey {vs : List Value} {k : Nat} {v : Value} (hv : vs[k]? = some v) (hk : k < 10) (w : World) :
    (Instr.index 73 (.agg vs.toArray) (.int .i64 (k : Int))).run Tryd.prog w = .ok v w := by
  have hk0 : (0 : Int) ≤ (k : Int) ∧ (k : Int) < 10 := by omega
  cases hq : Tryd.prog.info? 49 with
  | none => have := rinfo49; simp [hq] at this
  | some i =>
    have hs : i.size = 1 := by have := rinfo49; simpa [hq] using this
    simp [Instr.index, asIntOf, run_underlying Tryd.underlying73, sizeOf, typeInfo, hq, hs, hk0]
    rw [if_pos hk]
    simp [part, isAgg, run_underlying Tryd.underlying49, hv]

set_option maxRecDepth 100000 in
set_option maxHeartbeats 4000000 in
theorem rwaits_any (base r : Nat) (vs : List Value) (T : Tab) (tx : Int) (w : World) (h : RTab w base r vs T) (hT : Tidy0 T) (hlen : ∀ j, (T j).length ≤ 1000000) :
    Calls Tryd.prog 32 #[.pointer (some ⟨r, 0, none⟩), .int .i64 tx] w fun e w' => e = .returned (.int .i64 (waitsP T tx)) ∧ w' = w := by
  have hld : w.rangeAt r 0 vs := fun j v hv => by rw [Nat.zero_add]; exact h.cell hv
  have hin : (Tryd.prog.info? 73).map (·.size) = some vs.length := by rw [rinfo73, h.lv]
  have HT := hid hT
  have HR := hid h
  have HL := hid hlen
  clear h hT hlen
  go_enter Tryd.func32, Tryd.ntmps32
  go_wp2_with (refine wpList_load_mid (by rfl) 73 _ (by rfl) r 0 (by rfl) vs (.array 10 49) hld Tryd.underlying73 rfl hin ?_)
  clear hld hin
  go_loop [13] (fun i => ∃ k : Nat, k ≤ 10 ∧ i = .int .i64 k ∧ Hid (∀ j : Nat, j < k → tx ∉ (T j).tail)) (fun i => 10 - (intOf i).toNat)
  case atStart => exact ⟨0, by omega, rfl, fun j hj => by omega⟩
  case round =>
    obtain ⟨k, hk, rfl, HN⟩ := hrel
    by_cases hlt : k < 10
    · obtain ⟨v, hv, ho⟩ := HR.out.at hlt
      have hix := run_rkey hv hlt w
      have hk0 : (0 : Int) ≤ (k : Int) := by omega
      have hk1 : (k : Int) < 10 := by omega
      obtain ⟨ad, cap, rfl⟩ := row_form ho
      have hll := HL.out k
      have HO := hid ho
      obtain ⟨l, hl⟩ : ∃ l, T k = l := ⟨_, rfl⟩
      rw [hl] at hix hll HO
      have HTL := hid hl
      clear hv ho hl
      go_wp2_with fail
      go_loop [19] (fun c => ∃ i : Nat, i ≤ l.length ∧ c = .int .i64 i ∧ Hid (∀ j : Nat, 0 < j → j < i → l[j]? ≠ some tx)) (fun c => l.length - (intOf c).toNat)
      case atStart => exact ⟨0, Nat.zero_le _, rfl, fun j _ hj => by omega⟩
      case round =>
        obtain ⟨i, hi, rfl, HI⟩ := hrel
        by_cases hil : i < l.length
        · obtain ⟨x, hx⟩ : ∃ x, l[i]? = some x := ⟨l[i], List.getElem?_eq_getElem hil⟩
          rcases row_slice HO.out with ⟨_, e0⟩ | ⟨g, cg, eg, hgl, hcg⟩
          · omega
          · injection eg with e1 e2 e3
            subst e1
            subst e3
            clear e2
            have x0 := hcg i _ (intsV_get hx)
            have hi0 : (0 : Int) ≤ (i : Int) := by omega
            have hi1 : (i : Int) < (l.length : Int) := by omega
            have HX := hid hx
            clear hcg hx
            by_cases hip : 0 < i
            · have hip1 : (0 : Int) < (i : Int) := by omega
              by_cases hxt : x = tx
              · subst hxt
                have hw : waitsP T x = k := waits_of_mem HT.out (by
                  rw [HTL.out]
                  obtain ⟨i', rfl⟩ : ∃ i', i = i' + 1 := ⟨i - 1, by omega⟩
                  cases l with
                  | nil => simp at hil
                  | cons a l' => exact List.mem_of_getElem? (i := i') (by simpa using HX.out))
                have HW := hid hw
                have e5 : (x == x) = true := by simp
                clear hw
                go_wp2
                go_ret
                refine ⟨?_, rfl⟩
                rw [HW.out]
                rfl
              · have e5 : (x == tx) = false := by simpa using hxt
                go_wp2
                go_round
                case rel =>
                  refine ⟨i + 1, by omega, by go_num, fun j h0 hj => ?_⟩
                  by_cases e : j = i
                  · subst e; rw [HX.out]; simpa using hxt
                  · exact HI.out j h0 (by omega)
                case measure => simp [intOf]; omega
            · have hip1 : ¬ (0 : Int) < (i : Int) := by omega
              go_wp2
              go_round
              case rel => exact ⟨i + 1, by omega, by go_num, fun j h0 hj => HI.out j h0 (by omega)⟩
              case measure => simp [intOf]; omega
        · go_wp2
          go_round
          case rel =>
            refine ⟨k + 1, by omega, by go_num, fun j hj => ?_⟩
            by_cases e : j = k
            · subst e
              rw [HTL.out]
              intro hm
              cases l with
              | nil => simp at hm
              | cons a l' =>
                obtain ⟨i', hi', e'⟩ := List.mem_iff_getElem.1 hm
                refine HI.out (i' + 1) (by omega) (by simp only [List.length_cons] at hil; simp at hi'; omega) ?_
                simp only [List.getElem?_cons_succ]
                rw [List.getElem?_eq_getElem (by simpa using hi')]
                exact congrArg some e'
            · exact HN.out j (by omega)
          case measure => simp [intOf]; omega
    · have hw : waitsP T tx = -1 := (waits_none_iff HT.out).2 (fun j hj => by
        have hr := HT.out.key hj
        obtain ⟨j', rfl⟩ := Int.eq_ofNat_of_zero_le hr.1
        exact HN.out j' (by omega) hj)
      have HW := hid hw
      clear hw
      go_wp2
      go_ret
      refine ⟨?_, rfl⟩
      rw [HW.out]
      rfl

end Go.Proofs.YtjefgmeejhakbaaDoor
