/- LockMoves: what is plain, and pick as a function. -/
import Derived.Test.YtjefgmeejhakbaaDoorLkHeld
import Derived.Test.YtjefgmeejhakbaaDoorLkPick
import Derived.Deep.DeepCutAuto
import Derived.Deep.CutBlock
namespace Go.Proofs.YtjefgmeejhakbaaDoor
open Go.RowKit

set_option maxHeartbeats 400000 in
theorem pick_ex (a n : Int) (h1 : 1 ≤ n) (h2 : n ≤ 1000) : ∃ r : Int, 0 ≤ r ∧ r < n ∧ ∀ w : World, Calls Tryd.prog 25 #[.int .i64 a, .int .i64 n] w fun e w' => e = .returned (.int .i64 r) ∧ w' = w := by
  have hu : 0 ≤ IntKind.u64.wrap a := by
    simp only [IntKind.wrap, IntKind.signed, Bool.false_and, Bool.false_eq_true, if_false]
    exact Int.emod_nonneg _ (by simp [IntKind.bits])
  have hm0 : 0 ≤ (IntKind.u64.wrap a).tmod n := Int.tmod_nonneg _ hu
  have hm1 : (IntKind.u64.wrap a).tmod n < n := Int.tmod_lt_of_pos _ (by omega)
  refine ⟨_, hm0, hm1, fun w => ?_⟩
  have H0 := hid hm0
  have H1 := hid hm1
  clear hm0 hm1 hu
  go_enter Tryd.func25, Tryd.ntmps25
  go_wp2
  go_ret
  refine ⟨?_, rfl⟩
  have h0 := H0.out
  have h1 := H1.out
  exact congrArg (fun z => Ending.returned (Value.int .i64 z)) (IntWalk.wrap64_in _ (by omega))

theorem nodup_sub : ∀ (l m : List Int), l.Nodup → (∀ x ∈ l, x ∈ m) → l.length ≤ m.length
  | [], _, _, _ => Nat.zero_le _
  | a :: r, m, hn, hs => by
    have ha := hs a (by simp)
    have hr := nodup_sub r (m.erase a) (List.nodup_cons.1 hn).2 (fun x hx => (List.mem_erase_of_ne (by rintro rfl; exact (List.nodup_cons.1 hn).1 hx)).2 (hs x (by simp [hx])))
    have hl := List.length_erase_of_mem ha
    have : 0 < m.length := List.length_pos_of_mem ha
    simp only [List.length_cons]
    omega
theorem eight {l : List Int} (hn : l.Nodup) (h : ∀ v ∈ l, 1 ≤ v ∧ v ≤ 8) : l.length ≤ 8 :=
  nodup_sub l [1, 2, 3, 4, 5, 6, 7, 8] hn (fun x hx => by have := h x hx; simp; omega)

/-- Few transactions, few keys. -/
def SmallT (T : Tab) : Prop := ∀ k x, x ∈ T k → x ≤ 8 ∧ k < 5
theorem SmallT.sub {T M : Tab} (h : SmallT T) (hs : ∀ k, (M k).Sublist (T k)) : SmallT M := fun k x hx => h k x ((hs k).subset hx)
theorem SmallT.ask {T : Tab} {q : Int → Nat} {tx key : Int} (h : SmallT T) (ht : tx ≤ 8) (hk : key < 5) : SmallT (askP T q tx key).2.2 := by
  unfold askP
  split
  · exact h
  split
  · exact h
  split
  · exact h
  split
  · intro k x hx
    replace hx : x ∈ updT T key [tx] k := hx
    by_cases e : k = key
    · subst e; rw [updT_same, List.mem_singleton] at hx; subst hx; exact ⟨ht, hk⟩
    · rw [updT_other _ _ e] at hx; exact h k x hx
  split
  · exact h
  · intro k x hx
    replace hx : x ∈ updT T key (T key ++ [tx]) k := hx
    by_cases e : k = key
    · subst e
      rw [updT_same, List.mem_append, List.mem_singleton] at hx
      rcases hx with hx | rfl
      · exact h k x hx
      · exact ⟨ht, hk⟩
    · rw [updT_other _ _ e] at hx; exact h k x hx

theorem ask_ok {T : Tab} {q : Int → Nat} {tx key : Int} (h : (askP T q tx key).1 = true) : (askP T q tx key).2.1 = 0 ∧ holdsP (askP T q tx key).2.2 key = tx := by
  unfold askP at *
  split
  · rename_i h1; rw [if_pos h1] at h; cases h
  rename_i h1
  rw [if_neg h1] at h
  split
  · rename_i h2; rw [if_pos h2] at h; cases h
  rename_i h2
  rw [if_neg h2] at h
  split
  · rename_i h3; exact ⟨rfl, h3⟩
  rename_i h3
  rw [if_neg h3] at h
  split
  · exact ⟨rfl, by simp [holdsP, updT_same]⟩
  rename_i h4
  rw [if_neg h4] at h
  split
  · rename_i h5; rw [if_pos h5] at h; cases h
  · rename_i h5; rw [if_neg h5] at h; cases h

theorem out_fair {T : Tab} (hT : Good T) {tx k v : Int} (h : (k, v) ∈ outP T tx) : 0 ≤ k ∧ k < 10 ∧ holdsP (dropP T tx) k = v ∧ waitsP (dropP T tx) v = -1 ∧ 1 ≤ v ∧ v ≤ 9223372036854775807 := by
  unfold outP at h
  rw [List.mem_flatMap] at h
  obtain ⟨j, hj, h⟩ := h
  unfold outOf at h
  split at h
  · rename_i hh
    rw [List.mem_singleton] at h
    injection h with h1 h2
    subst h1
    have hD := hT.drop tx
    have hkr := mem_keysP.1 hj
    have hvm : v ∈ dropP T tx k := by rw [h2]; exact head_mem hh.2
    have hvT : v ∈ T k := (List.mem_filter.1 hvm).1
    have hvx : v ≠ tx := by simpa using (List.mem_filter.1 hvm).2
    have hvt : v ∈ (T k).tail := (head_or hvT).resolve_left (fun e => hvx (e.symm.trans hh.1))
    refine ⟨hkr.1, hkr.2, h2.symm, ?_, (hT.tidy.pos k v hvT).1, (hT.tidy.pos k v hvT).2⟩
    refine (waits_none_iff hD.tidy).2 (fun i hi => ?_)
    have hs : (dropP T tx i).Sublist (T i) := List.filter_sublist
    have e := hT.tidy.one i k v (hs.tail.subset hi) hvt
    subst e
    rcases head_not_tail (hD.tidy.nod i) with h3 | h3
    · exact h3 (by have : (dropP T tx i).headD 0 = v := h2.symm; rw [this]; exact hi)
    · exact hh.2 h3
  · simp at h

/-- The table, and what is as it was. -/
def St (w0 wr : World) (s N : Nat) (T : Tab) : Prop := ∃ M, TabAt wr s N M T ∧ (∀ b, M.own s b → w0.heap.size ≤ b) ∧ Below w0.heap.size w0 wr
theorem St.below {w0 wr w' : World} {s N : Nat} {T : Tab} (h : St w0 wr s N T) (hB : Below wr.heap.size wr w') : St w0 w' s N T := by
  obtain ⟨M, h1, h2, h3⟩ := h
  exact ⟨M, h1.below hB, h2, h3.trans (hB.mono h3.size)⟩
theorem St.mono {w0 wr : World} {s N N' : Nat} {T : Tab} (h : St w0 wr s N T) (hN : N ≤ N') : St w0 wr s N' T := by
  obtain ⟨M, h1, h2, h3⟩ := h
  exact ⟨M, h1.mono hN, h2, h3⟩
theorem St.kept {w0 wr w' : World} {s N : Nat} {T : Tab} {M M' : LkM} (h2 : ∀ b, M.own s b → w0.heap.size ≤ b) (h3 : Below w0.heap.size w0 wr) (hT : TabAt w' s N M' T) (hK : KeptO (M.own s) (M'.own s) wr w') : St w0 w' s N T := by
  refine ⟨M', hT, fun b hb => ?_, h3.trans (hK.below h3.size h2)⟩
  rcases hK.sub b hb with h | h
  · exact h2 b h
  · have := h3.size; omega

theorem St.ask {w0 wr : World} {s N : Nat} {T : Tab} (h : St w0 wr s N T) (hG : Good T) {q : Int → Nat} (hq : Ranked T q) {tx key : Int} (hx : I64 tx) (hk : I64 key) (hN : N ≤ 100000) :
    Calls Tryd.prog 28 #[.pointer (some ⟨s, 0, none⟩), .int .i64 tx, .int .i64 key] wr fun e w' => e = .returned (.tuple #[.bool (askP T q tx key).1, errV (askP T q tx key).2.1]) ∧ St w0 w' s (N + 2) (askP T q tx key).2.2 := by
  obtain ⟨M, h1, h2, h3⟩ := h
  refine (ask_any s N M T q tx key wr h1 hG hq hx hk hN).mono ?_
  rintro e w' ⟨rfl, M', hT, hK⟩
  exact ⟨rfl, St.kept h2 h3 hT hK⟩
theorem St.drop {w0 wr : World} {s N : Nat} {T : Tab} (h : St w0 wr s N T) (hG : Good T) {tx : Int} (hx : I64 tx) (hN : N ≤ 50000) :
    Calls Tryd.prog 29 #[.pointer (some ⟨s, 0, none⟩), .int .i64 tx] wr fun e w' => ∃ v, e = .returned v ∧ w'.ownsRow wr.heap.size 64 2 v (outP T tx).length (vrow (outP T tx)) ∧ St w0 w' s (N + 21) (dropP T tx) := by
  obtain ⟨M, h1, h2, h3⟩ := h
  refine (drop_any s N M T tx wr h1 hG hx hN).mono ?_
  rintro e w' ⟨v, rfl, ho, M', hT, hK, _⟩
  exact ⟨v, rfl, ho, St.kept h2 h3 hT hK⟩
theorem St.waits {w0 wr : World} {s N : Nat} {T : Tab} (h : St w0 wr s N T) {x : Int} (hx : I64 x) :
    Calls Tryd.prog 31 #[.pointer (some ⟨s, 0, none⟩), .int .i64 x] wr fun e w' => e = .returned (.int .i64 (waitsP T x)) ∧ w' = wr := by
  obtain ⟨M, ⟨a, b, c, r, R⟩, _, _⟩ := h
  exact waitsR s N M R x wr r hx
theorem St.holds {w0 wr : World} {s N : Nat} {T : Tab} (h : St w0 wr s N T) {k : Int} (hk : I64 k) :
    Calls Tryd.prog 33 #[.pointer (some ⟨s, 0, none⟩), .int .i64 k] wr fun e w' => e = .returned (.int .i64 (holdsP T k)) ∧ w' = wr := by
  obtain ⟨M, ⟨a, b, c, r, R⟩, _, _⟩ := h
  exact holdsR s N M R k wr r hk
theorem St.line {w0 wr : World} {s N : Nat} {T : Tab} (h : St w0 wr s N T) {k : Int} (hk : I64 k) (hN : N ≤ 1000000) :
    Calls Tryd.prog 35 #[.pointer (some ⟨s, 0, none⟩), .int .i64 k] wr fun e w' => ∃ v, e = .returned v ∧ w'.ownsRow wr.heap.size 3 1 v (T k).tail.length (intsV (T k).tail) ∧ Below wr.heap.size wr w' := by
  obtain ⟨M, ⟨a, b, c, r, R⟩, _, _⟩ := h
  have := line_any s N M a b c k wr r hk hN
  rwa [R.ln k] at this
theorem St.len {w0 wr : World} {s N : Nat} {T : Tab} (h : St w0 wr s N T) (k : Int) : (T k).tail.length ≤ N := by
  obtain ⟨M, h1, _, _⟩ := h
  exact h1.len k

end Go.Proofs.YtjefgmeejhakbaaDoor
