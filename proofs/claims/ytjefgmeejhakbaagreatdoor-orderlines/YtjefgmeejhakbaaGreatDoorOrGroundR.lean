/- order.groundless. -/
import Derived.Test.YtjefgmeejhakbaaGreatDoorOrWrittenR
namespace Go.Proofs.YtjefgmeejhakbaaGreatDoor
open Go.RowKit
def behindG (s : List Int) (x : Int) : Int × Bool := if x = 0 then (0, true) else match firstAt x s with
  | some i => ((i : Int) + 1, true)
  | none => (0, false)
theorem behindP_any (K k : Nat) (av : Value) (mv : Option Nat) (s : List Int) (x : Int) (w : World) (h : WrAt w K k av mv s) (hx : I64 x) (hn : s.length ≤ 100000) :
    Calls Tryz.prog 123 #[.pointer (some ⟨K, k, none⟩), .int .i64 x] w fun e w' => e = .returned (.tuple #[.int .i64 (behindG s x).1, .bool (behindG s x).2]) ∧ w' = w := by
  refine (behindW_any K k av mv s x w h hx hn).mono ?_
  rintro e w' ⟨rfl, h1, h2, h3⟩
  refine ⟨?_, rfl⟩
  unfold behindG
  by_cases e0 : x = 0
  · rw [if_pos e0]; exact h1 e0
  · rw [if_neg e0]
    cases hf : firstAt x s with
    | none => exact h3 e0 hf
    | some i => exact h2 e0 i hf
theorem badRead_read {l : List Opp} {o : Opp} (hr : o.2.2.1 = false) {s : List Int} (hs : writersP l o.2.1 = s) : badRead l o = !(behindG s o.2.2.2).2 := by
  unfold badRead readP behindG
  rw [hr, hs]
  by_cases e : o.2.2.2 = 0
  · simp [e]
  · rw [if_neg e, if_neg e]
    cases firstAt o.2.2.2 s <;> rfl
theorem badRead_write {l : List Opp} {o : Opp} (hr : o.2.2.1 = true) : badRead l o = false := by unfold badRead; rw [hr]; rfl
set_option maxRecDepth 100000 in
set_option maxHeartbeats 600000 in
theorem groundless_any (ad : Option Addr) (cap K : Nat) (av : Nat → Value) (mv : Nat → Option Nat) (l : List Opp) (m : Nat) (w : World) (hn : l.length ≤ 10000) (hO : OpsAt w ad l) (hf : ∀ o ∈ l, opBad o = false) (hK : KeysAt w K av mv (fun k => writersP l (k : Nat))) (hm : FineTo (badRead l) l m) :
    Calls Tryz.prog 61 #[.slice ad l.length cap, .pointer (some ⟨K, 0, none⟩)] w fun e w' => ∃ ev, e = .returned ev ∧ Told w' ev l m 1 ∧ Below w.heap.size w w' := by
  have HO := hid hO
  have HM := hid hm
  have HF := hid hf
  have HK := hid hK
  clear hO hm hf hK
  go_enter Tryz.func61, Tryz.ntmps61
  go_wp2
  go_loopw [11] (fun i wr => ∃ j : Nat, j ≤ m ∧ i = .int .i64 j ∧ Below w.heap.size w wr) (fun i _ => l.length - (intOf i).toNat)
  case atStart => exact ⟨0, Nat.zero_le _, rfl, Below.refl _ _⟩
  case round =>
    obtain ⟨j, hj, rfl, hB⟩ := hrel
    have hBs := hB.size
    have hml := HM.out.le
    by_cases hlt : j < l.length
    · obtain ⟨o, ho⟩ : ∃ o, l[j]? = some o := ⟨l[j], List.getElem?_eq_getElem hlt⟩
      obtain ⟨g, off, rfl, hg, ⟨c0, c1, c2, c3⟩, i0, i1, i2⟩ := HO.out.below hB j o ho
      obtain ⟨b1, b2, b3, b4⟩ := opBad_false (HF.out o (List.mem_of_getElem? ho))
      have hj0 : (0 : Int) ≤ (j : Int) := by omega
      have hj1 : (j : Int) < (l.length : Int) := by omega
      have hA := hB.alloc hBs (.cells #[.int .i64 o.1, .int .i64 o.2.1, .bool o.2.2.1, .int .i64 o.2.2.2] 90)
      have hA1 : Below wr.heap.size wr (wr.alloc (.cells #[.int .i64 o.1, .int .i64 o.2.1, .bool o.2.2.1, .int .i64 o.2.2.2] 90)) := (Below.refl _ _).alloc (Nat.le_refl _) _
      have HA := hid hA
      cases hw : o.2.2.1 with
      | true =>
        have hjm : j < m := by
          rcases Nat.lt_or_ge j m with h | h
          · exact h
          · obtain rfl : j = m := by omega
            obtain ⟨o', ho', hb⟩ := HM.out.bad hlt
            rw [ho] at ho'
            cases ho'
            rw [badRead_write hw] at hb
            cases hb
        rw [hw] at c2 HA
        clear hB ho hA hA1
        go_wp2
        go_roundw
        case rel => exact ⟨j + 1, by omega, by go_num, HA.out⟩
        case measure => simp [intOf]; omega
      | false =>
        obtain ⟨kk, hkk⟩ : ∃ kk : Nat, o.2.1 = (kk : Nat) := ⟨o.2.1.toNat, by omega⟩
        have hk10 : kk < 10 := by omega
        have hkk0 : (0 : Int) ≤ (kk : Int) := by omega
        have hkk1 : (kk : Int) < 10 := by omega
        have hbr := badRead_read (l := l) hw (s := writersP l (kk : Nat)) (by rw [hkk])
        have hlen := writers_len l (kk : Nat)
        have hC : ∀ nq, Calls Tryz.prog 123 #[.pointer (some ⟨K, kk * 2, none⟩), .int .i64 o.2.2.2] ((wr.alloc (.cells #[.int .i64 o.1, .int .i64 o.2.1, .bool o.2.2.1, .int .i64 o.2.2.2] 90)).drewN nq) fun e w' => e = .returned (.tuple #[.int .i64 (behindG (writersP l (kk : Nat)) o.2.2.2).1, .bool (behindG (writersP l (kk : Nat)) o.2.2.2).2]) ∧ w' = ((wr.alloc (.cells #[.int .i64 o.1, .int .i64 o.2.1, .bool o.2.2.1, .int .i64 o.2.2.2] 90)).drewN nq) :=
          fun nq => behindP_any K (kk * 2) (av kk) (mv kk) (writersP l (kk : Nat)) o.2.2.2 _ ((HK.out.below (below_drewN (hB.trans (hA1.mono hBs) |>.mono (Nat.le_refl _)) nq)).at hk10) i2 (by omega)
        rw [hw, hkk] at hC
        rw [hw, hkk] at HA
        rw [hw] at c2
        rw [hkk] at c1
        obtain ⟨fr, hfr⟩ : ∃ fr, o.2.2.2 = fr := ⟨_, rfl⟩
        rw [hfr] at hC c3 HA hbr
        obtain ⟨bp, hbp⟩ : ∃ bp, (behindG (writersP l (kk : Nat)) fr).1 = bp := ⟨_, rfl⟩
        rw [hbp] at hC
        cases hbb : (behindG (writersP l (kk : Nat)) fr).2 with
        | true =>
          rw [hbb] at hC hbr
          have hjm : j < m := by
            rcases Nat.lt_or_ge j m with h | h
            · exact h
            · obtain rfl : j = m := by omega
              obtain ⟨o', ho', hb⟩ := HM.out.bad hlt
              rw [ho] at ho'
              cases ho'
              rw [hbr] at hb
              cases hb
          clear hB ho hA hA1 hw hkk hfr hbp hbb hbr
          go_wp2
          go_quiet ((first | (go_at_call 123; exact Calls.quiet_of_same (hC _))))
          go_wp2
          go_roundw
          case rel => exact ⟨j + 1, by omega, by go_num, below_drewN HA.out _⟩
          case measure => simp [intOf]; omega
        | false =>
          rw [hbb] at hC hbr
          have hjm : j = m := by
            rcases Nat.lt_or_ge j m with h | h
            · have := HM.out.fine j o h ho
              rw [hbr] at this
              cases this
            · omega
          subst hjm
          have hend : ∀ W : World, Below w.heap.size w W → Told (W.alloc (.cells #[.int .i64 1, .int .i64 (j : Int)] 217)) (.iface 216 (.pointer (some ⟨W.heap.size, 0, none⟩))) l j 1 ∧ Below w.heap.size w (W.alloc (.cells #[.int .i64 1, .int .i64 (j : Int)] 217)) :=
            fun W hW => ⟨.inr ⟨hlt, W.heap.size, rfl, heap_alloc_new W _⟩, hW.alloc hW.size _⟩
          have HE := hid hend
          clear hB ho hA hA1 hw hkk hfr hbp hbb hbr hend
          go_wp2
          go_quiet ((first | (go_at_call 123; exact Calls.quiet_of_same (hC _))))
          go_wp2
          go_ret
          exact ⟨_, rfl, by simpa using HE.out _ (below_drewN HA.out _)⟩
    · obtain rfl : m = l.length := by omega
      have HB := hid hB
      clear hB
      go_wp2
      go_ret
      exact ⟨_, rfl, .inl ⟨rfl, rfl⟩, HB.out⟩
end Go.Proofs.YtjefgmeejhakbaaGreatDoor
