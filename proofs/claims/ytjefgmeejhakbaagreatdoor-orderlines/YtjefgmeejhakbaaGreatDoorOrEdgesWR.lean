/- order.Edges. -/
import Derived.Test.YtjefgmeejhakbaaGreatDoorOrNoteRR
import Derived.Test.YtjefgmeejhakbaaGreatDoorOrCompactWR
namespace Go.Proofs.YtjefgmeejhakbaaGreatDoor
open Go.RowKit
theorem heap_setCells_all {g : Nat} {e : TypeId} : ∀ (vs : List Value) (o : Nat) (w : World) (cur : Array Value), w.heap[g]? = some (.cells cur e (0, 0)) → o + vs.length ≤ cur.size → ∃ cur', (w.setCells g o vs).heap[g]? = some (.cells cur' e (0, 0)) ∧ cur'.size = cur.size ∧ ∀ i, cur'[i]? = if o ≤ i ∧ i < o + vs.length then vs[i - o]? else cur[i]?
  | [], o, _, cur, h, _ => ⟨cur, h, rfl, fun i => by rw [if_neg (fun h => absurd h.2 (by have := h.1; simp only [List.length_nil]; omega))]⟩
  | v :: r, o, w, cur, h, hs => by
    rw [World.setCells]
    obtain ⟨cur', h1, h2, h3⟩ := heap_setCells_all r (o + 1) _ _ (heap_setCell_same w g o cur e v h) (by simp at hs ⊢; omega)
    refine ⟨cur', h1, by rw [h2]; simp, fun i => ?_⟩
    rw [h3 i]
    by_cases e1 : i = o
    · subst e1
      rw [if_neg (by omega), if_pos (by simp), Array.getElem?_setIfInBounds, if_pos rfl, if_pos (by simp at hs; omega)]
      simp
    · by_cases e2 : o + 1 ≤ i ∧ i < o + 1 + r.length
      · rw [if_pos e2, if_pos (by simp; omega), show i - o = (i - (o + 1)) + 1 by omega]
        rfl
      · rw [if_neg e2, if_neg (by simp; omega), Array.getElem?_setIfInBounds, if_neg (fun e => e1 e.symm)]
theorem heap_setCells_whole {g : Nat} {e : TypeId} {w : World} {cur C : Array Value} (h : w.heap[g]? = some (.cells cur e (0, 0))) (hs : C.size = cur.size) : (w.setCells g 0 C.toList).heap[g]? = some (.cells C e (0, 0)) := by
  obtain ⟨cur', h1, h2, h3⟩ := heap_setCells_all C.toList 0 w cur h (by simp; omega)
  rw [h1]
  congr 2
  apply Array.ext_getElem?
  intro i
  rw [h3 i]
  by_cases hi : i < C.size
  · rw [if_pos (by simp; omega)]; simp
  · rw [if_neg (by simp; omega), Array.getElem?_eq_none (by omega), Array.getElem?_eq_none (by omega)]
def notesK (l : List Opp) (k : Nat) : List (Int × Int) := (List.range k).flatMap (fun k => (conP (writersP l (k : Nat))).filter neP)
theorem notesK_step (l : List Opp) (k : Nat) : notesK l (k + 1) = notesK l k ++ (conP (writersP l (k : Nat))).filter neP := by
  unfold notesK; rw [List.range_succ, List.flatMap_append]; simp
def notesJ (l : List Opp) (j : Nat) : List (Int × Int) := notesK l 10 ++ (l.take j).flatMap (fun o => (readsP l o).filter neP)
theorem notesJ_step {l : List Opp} {j : Nat} {o : Opp} (h : l[j]? = some o) : notesJ l (j + 1) = notesJ l j ++ (readsP l o).filter neP := by
  unfold notesJ; rw [List.take_add_one, h, List.flatMap_append, List.append_assoc]; simp
theorem notesJ_all (l : List Opp) : notesJ l l.length = notesP l := by unfold notesJ notesP notesK; rw [List.take_length]
theorem notesK_len (l : List Opp) (k : Nat) : (notesK l k).length ≤ l.length * k := by
  have := flat_len (fun k => (conP (writersP l ((k : Nat) : Int))).filter neP) l.length (List.range k) (fun k _ => Nat.le_trans (List.length_filter_le _ _) (Nat.le_trans (conP_length _) (writers_len l _)))
  rwa [List.length_range] at this
theorem notesJ_len (l : List Opp) (j : Nat) : (notesJ l j).length ≤ 12 * l.length := by
  unfold notesJ
  have h1 := notesK_len l 10
  have h2 := flat_len (fun o => (readsP l o).filter neP) 2 (l.take j) (fun o _ => Nat.le_trans (List.length_filter_le _ _) (readsP_len l o))
  rw [List.length_append]
  rw [List.length_take] at h2
  omega
theorem noteP_filter (a b : Int) : noteP a b = [(a, b)].filter neP := by
  unfold noteP neP
  by_cases e : a = b <;> simp [e]
theorem readNotes_eq {l : List Opp} {o : Opp} (hr : o.2.2.1 = false) {s : List Int} (hs : writersP l o.2.1 = s) {p : Int} (hp : behindG s o.2.2.2 = (p, true)) : readNotes s o.1 o.2.2.2 p = (readsP l o).filter neP := by
  have hrs : readsP l o = (readP s o).getD [] := by
    unfold readsP
    rw [if_neg (by rw [hr]; decide), hs]
  rw [hrs]
  unfold readNotes readP
  unfold behindG at hp
  have hopt : ∀ x : Option Int, (match x with | some y => noteP o.1 y | none => []) = (x.toList.map (fun y => (o.1, y))).filter neP := fun x => by
    cases x with
    | none => rfl
    | some y => simp [noteP_filter]
  by_cases e : o.2.2.2 = 0
  · rw [if_pos e] at hp
    cases hp
    rw [if_pos e, if_pos e]
    simp only [List.nil_append, Int.toNat_zero, Option.getD_some]
    exact hopt _
  · rw [if_neg e] at hp
    rw [if_neg e, if_neg e]
    cases hf : firstAt o.2.2.2 s with
    | none => rw [hf] at hp; cases hp
    | some i =>
      rw [hf] at hp
      cases hp
      simp only [Option.map_some, Option.getD_some]
      rw [show ((i : Int) + 1).toNat = i + 1 by omega, noteP_filter]
      refine (congrArg (List.filter neP [(o.2.2.2, o.1)] ++ ·) (hopt s[i + 1]?)).trans ?_
      show List.filter neP [(o.2.2.2, o.1)] ++ _ = _
      rw [← List.filter_append]
      rfl
set_option maxRecDepth 100000 in
set_option maxHeartbeats 400000 in
theorem edges_beyond (ad : Option Addr) (cap : Nat) (l : List Opp) (m : Nat) (w : World) (hn : l.length ≤ 1000) (hO : OpsAt w ad l) (hm : FineTo opBad l m) (hl : m < l.length) :
    Calls Tryz.prog 12 #[.slice ad l.length cap] w fun e w' => ∃ pb, e = .returned (.tuple #[.slice none 0 0, .iface 216 (.pointer (some ⟨pb, 0, none⟩))]) ∧ w'.heap[pb]? = some (.cells #[.int .i64 2, .int .i64 m] 217 (0, 0)) ∧ Below w.heap.size w w' := by
  have hC := beyond_any ad cap l m w (by omega) hO hm
  have HC := hid hC
  clear hC hO hm
  go_enter Tryz.func12, Tryz.ntmps12
  go_wp2_with fail
  refine HC.out.mono ?_
  rintro e w1 ⟨ev, rfl, hT, hB⟩
  rcases hT with ⟨e, _⟩ | ⟨_, pb, rfl, hpb⟩
  · omega
  · have HP := hid (And.intro hpb hB)
    have hne : ∀ w, (binOp .neq 33 (.iface 216 (.pointer (some ⟨pb, 0, none⟩))) .nilIface).run Tryz.prog w = .ok (.bool true) w := fun _ => by kernel_rfl
    clear hpb hB
    go_wp2
    go_ret2
    exact ⟨pb, rfl, HP.out⟩
theorem there_new (w : World) (cur : Array Value) (t : TypeId) (n : Nat) (h : n = cur.size) : (w.alloc (.cells cur t)).there w.heap.size 0 n := fun i hi => by
  have hg := heap_alloc_new w (.cells cur t)
  generalize w.alloc (.cells cur t) = wz at hg
  rw [Nat.zero_add, cell_of_row wz w.heap.size i cur t (0, 0) hg]
  exact ⟨by rw [Array.getElem?_eq_getElem (by omega)]; rfl, by simp [World.frozen?, hg]⟩
theorem keys_stored {w : World} {K : Nat} {av : Nat → Value} {mv : Nat → Option Nat} {S : Nat → List Int} (h : KeysAt w K av mv S) {cur : Array Value} (hc : cur.size = 20) :
    KeysAt ((w.alloc (.cells cur 133)).setCells w.heap.size 0 (keyCells av mv).toList) w.heap.size av mv S ∧ Below w.heap.size w ((w.alloc (.cells cur 133)).setCells w.heap.size 0 (keyCells av mv).toList) := by
  have hB : Below w.heap.size w ((w.alloc (.cells cur 133)).setCells w.heap.size 0 (keyCells av mv).toList) := below_setCells (Nat.le_refl _) _ _ _ ((Below.refl _ _).alloc (Nat.le_refl _) _)
  have h2 := h.below hB
  exact ⟨⟨heap_setCells_whole (heap_alloc_new w _) (by rw [keyCells_size, hc]), h2.row, h2.map, h2.nil, h2.ap, h2.am⟩, hB⟩
set_option maxRecDepth 100000 in
set_option maxHeartbeats 400000 in
theorem edges_ground (ad : Option Addr) (cap : Nat) (l : List Opp) (m : Nat) (w : World) (hn : l.length ≤ 1000) (hO : OpsAt w ad l) (hf : FineTo opBad l l.length) (hm : FineTo (badRead l) l m) (hl : m < l.length) :
    Calls Tryz.prog 12 #[.slice ad l.length cap] w fun e w' => ∃ pb, e = .returned (.tuple #[.slice none 0 0, .iface 216 (.pointer (some ⟨pb, 0, none⟩))]) ∧ w'.heap[pb]? = some (.cells #[.int .i64 1, .int .i64 m] 217 (0, 0)) ∧ Below w.heap.size w w' := by
  have HC := hid (beyond_any ad cap l l.length w (by omega) hO hf)
  have HO := hid hO
  have HF := hid hf.all
  have HM := hid hm
  have hin0 : (Tryz.prog.info? 133).map (·.size) = some 20 := by kernel_rfl
  have HI := hid hin0
  clear hO hf hm hin0
  go_enter Tryz.func12, Tryz.ntmps12
  go_wp2_with fail
  refine HC.out.mono ?_
  rintro e w1 ⟨ev, rfl, hT, hB⟩
  rcases hT with ⟨_, rfl⟩ | ⟨h, _⟩
  · have HB := hid hB
    have hnn : ∀ w, (binOp .neq 33 .nilIface .nilIface).run Tryz.prog w = .ok (.bool false) w := fun _ => by kernel_rfl
    clear hB HC
    go_wp2_with fail
    refine (written_any ad cap l w1 (by omega) (HO.out.below HB.out) HF.out).mono ?_
    rintro e w2 ⟨K, av, mv, rfl, hK, hown, hB2⟩
    obtain ⟨hs1, hs2⟩ := keys_stored hK (cur := #[.slice none 0 0, .map none, .slice none 0 0, .map none, .slice none 0 0, .map none, .slice none 0 0, .map none, .slice none 0 0, .map none, .slice none 0 0, .map none, .slice none 0 0, .map none, .slice none 0 0, .map none, .slice none 0 0, .map none, .slice none 0 0, .map none]) rfl
    have hBs := HB.out.size
    have hB2s := hB2.size
    have HK2 := hid (And.intro hs1 (HB.out.trans ((hB2.mono hBs).trans (hs2.mono (Nat.le_trans hBs hB2s)))))
    have hth := there_new w2 #[.slice none 0 0, .map none, .slice none 0 0, .map none, .slice none 0 0, .map none, .slice none 0 0, .map none, .slice none 0 0, .map none, .slice none 0 0, .map none, .slice none 0 0, .map none, .slice none 0 0, .map none, .slice none 0 0, .map none, .slice none 0 0, .map none] 133 (keyCells av mv).size (by rw [keyCells_size]; rfl)
    have h1 : (keyCells av mv).all (·.oneCell') = true := Array.all_eq_true_iff_forall_mem.2 (fun v hv => keyCells_one hK v (by simpa using hv))
    have hin : (Tryz.prog.info? 133).map (·.size) = some (keyCells av mv).size := by rw [keyCells_size]; exact HI.out
    obtain ⟨C, hC⟩ : ∃ C, keyCells av mv = C := ⟨_, rfl⟩
    rw [hC] at hth h1 hin HK2 ⊢
    have HTH := hid hth
    clear hK hown hs1 hs2 hB2 hth hC
    go_wp2_with (refine wpList_store_mid (by rfl) 133 _ _ (by rfl) w2.heap.size 0 C (by rfl) (by rfl) HTH.out hin h1 ?_)
    generalize ((w2.alloc (.cells _ 133)).setCells w2.heap.size 0 C.toList) = wk at HK2 ⊢
    refine (groundless_any ad cap w2.heap.size av mv l m wk (by omega) (HO.out.below HK2.out.2) HF.out HK2.out.1 HM.out).mono ?_
    rintro e w3 ⟨ev, rfl, hT, hB3⟩
    have hK2s := HK2.out.2.size
    rcases hT with ⟨h, _⟩ | ⟨_, pb, rfl, hpb⟩
    · omega
    · have HP := hid (And.intro hpb (HK2.out.2.trans (hB3.mono hK2s)))
      have hne : ∀ w, (binOp .neq 33 (.iface 216 (.pointer (some ⟨pb, 0, none⟩))) .nilIface).run Tryz.prog w = .ok (.bool true) w := fun _ => by kernel_rfl
      clear hpb hB3 hK2s
      go_wp2
      go_ret2
      exact ⟨pb, rfl, HP.out⟩
  · omega
set_option maxRecDepth 100000 in
set_option maxHeartbeats 2000000 in
theorem edges_ok (ad : Option Addr) (cap : Nat) (l : List Opp) (w : World) (hn : l.length ≤ 1000) (hO : OpsAt w ad l) (hf : FineTo opBad l l.length) (hm : FineTo (badRead l) l l.length) :
    Calls Tryz.prog 12 #[.slice ad l.length cap] w fun e w' => ∃ v E, e = .returned (.tuple #[v, .nilIface]) ∧ IsEdges l E ∧ E.length ≤ 12 * l.length ∧ w'.ownsRow w.heap.size 78 2 v E.length (vrow E) ∧ Below w.heap.size w w' := by
  have HC := hid (beyond_any ad cap l l.length w (by omega) hO hf)
  have HO := hid hO
  have HF := hid hf.all
  have HM := hid hm
  have hin0 : (Tryz.prog.info? 133).map (·.size) = some 20 := by kernel_rfl
  have HI := hid hin0
  clear hO hf hm hin0
  go_enter Tryz.func12, Tryz.ntmps12
  go_wp2_with fail
  refine HC.out.mono ?_
  rintro e w1 ⟨ev, rfl, hT, hB⟩
  rcases hT with ⟨_, rfl⟩ | ⟨h, _⟩
  · have HB := hid hB
    have hnn : ∀ w, (binOp .neq 33 .nilIface .nilIface).run Tryz.prog w = .ok (.bool false) w := fun _ => by kernel_rfl
    clear hB HC
    go_wp2_with fail
    refine (written_any ad cap l w1 (by omega) (HO.out.below HB.out) HF.out).mono ?_
    rintro e w2 ⟨K, av, mv, rfl, hK, hown, hB2⟩
    obtain ⟨hs1, hs2⟩ := keys_stored hK (cur := #[.slice none 0 0, .map none, .slice none 0 0, .map none, .slice none 0 0, .map none, .slice none 0 0, .map none, .slice none 0 0, .map none, .slice none 0 0, .map none, .slice none 0 0, .map none, .slice none 0 0, .map none, .slice none 0 0, .map none, .slice none 0 0, .map none]) rfl
    have hBs := HB.out.size
    have hB2s := hB2.size
    have HK2 := hid (And.intro hs1 (HB.out.trans ((hB2.mono hBs).trans (hs2.mono (Nat.le_trans hBs hB2s)))))
    have hth := there_new w2 #[.slice none 0 0, .map none, .slice none 0 0, .map none, .slice none 0 0, .map none, .slice none 0 0, .map none, .slice none 0 0, .map none, .slice none 0 0, .map none, .slice none 0 0, .map none, .slice none 0 0, .map none, .slice none 0 0, .map none, .slice none 0 0, .map none] 133 (keyCells av mv).size (by rw [keyCells_size]; rfl)
    have h1 : (keyCells av mv).all (·.oneCell') = true := Array.all_eq_true_iff_forall_mem.2 (fun v hv => keyCells_one hK v (by simpa using hv))
    have hin : (Tryz.prog.info? 133).map (·.size) = some (keyCells av mv).size := by rw [keyCells_size]; exact HI.out
    obtain ⟨C, hC⟩ : ∃ C, keyCells av mv = C := ⟨_, rfl⟩
    rw [hC] at hth h1 hin HK2 ⊢
    have HTH := hid hth
    clear hK hown hs1 hs2 hB2 hth hC
    go_wp2_with (refine wpList_store_mid (by rfl) 133 _ _ (by rfl) w2.heap.size 0 C (by rfl) (by rfl) HTH.out hin h1 ?_)
    generalize ((w2.alloc (.cells _ 133)).setCells w2.heap.size 0 C.toList) = wk at HK2 ⊢
    refine (groundless_any ad cap w2.heap.size av mv l l.length wk (by omega) (HO.out.below HK2.out.2) HF.out HK2.out.1 HM.out).mono ?_
    rintro e w3 ⟨ev, rfl, hT, hB3⟩
    rcases hT with ⟨_, rfl⟩ | ⟨h, _⟩
    · have hK2s := HK2.out.2.size
      have hB3s := hB3.size
      have hkn : ∀ b, keysOwn w2.heap.size av mv b → b < w3.heap.size := fun b hb => Nat.lt_of_lt_of_le (HK2.out.1.own_lt hb) hB3s
      have HK3 := hid (And.intro (HK2.out.1.below hB3) (And.intro (HK2.out.2.trans (hB3.mono hK2s)) hkn))
      have hw3 : w.heap.size ≤ w3.heap.size := Nat.le_trans hK2s hB3s
      clear hB3 hK2s hB3s hkn HK2 HB HTH hin h1 HI
      go_wp2
      have HT0 : Hid (TwosN w3.heap.size (w3.alloc (.cells #[.slice none 0 0] 23)) w3.heap.size (.slice none 0 0) []) := hid ⟨heap_alloc_new w3 _, World.ownsRow_nil _ _ _ _, Nat.le_refl _⟩
      have HB0 := hid (show Below w3.heap.size w3 (w3.alloc (.cells #[.slice none 0 0] 23)) from (Below.refl _ _).alloc (Nat.le_refl _) _)
      go_loopw [25] (fun kv wr => ∃ (k : Nat) (v : Value), kv = .int .i64 k ∧ k ≤ 10 ∧ TwosN w3.heap.size wr w3.heap.size v (notesK l k) ∧ Below w3.heap.size w3 wr) (fun kv _ => 10 - (intOf kv).toNat)
      case atStart => exact ⟨0, _, rfl, by omega, HT0.out, HB0.out⟩
      case round =>
        obtain ⟨k, v, rfl, hk, hT, hB4⟩ := hrel
        have HR := hid (And.intro hT hB4)
        have hKr : KeysAt wr w2.heap.size av mv (fun k => writersP l (k : Nat)) := HK3.out.1.same (fun b hb => hB4.block b (HK3.out.2.2 b hb))
        by_cases hlt : k < 10
        · have hk0 : (0 : Int) ≤ (k : Int) := by omega
          have hk1 : (k : Int) < 10 := by omega
          have hlen : (notesK l k).length + (writersP l (k : Nat)).length ≤ 50000 := by
            have h1 := notesK_len l k
            have h2 := writers_len l (k : Nat)
            have h3 : l.length * k ≤ l.length * 10 := Nat.mul_le_mul_left _ hk
            omega
          have HC5 := hid (noteWrites_any w3.heap.size w3.heap.size w2.heap.size v (notesK l k) k av mv _ wr hT hKr HK3.out.2.2 hlt hlen)
          clear hT hB4 hKr hlen
          go_wp2_with (go_at_call 63; refine HC5.out.mono ?_; rintro e w5 ⟨rfl, v5, hT5, hB5⟩)
          go_roundw
          case rel => exact ⟨k + 1, v5, by go_num, by omega, by rw [notesK_step]; exact hT5, HR.out.2.trans hB5⟩
          case measure => simp [intOf]; omega
        · obtain rfl : k = 10 := by omega
          have hge : ¬ ((10 : Nat) : Int) < 10 := by omega
          clear hT hB4 hKr
          go_wp2
          go_loopw [35] (fun iv wr => ∃ (j : Nat) (v : Value), iv = .int .i64 j ∧ j ≤ l.length ∧ TwosN w3.heap.size wr w3.heap.size v (notesJ l j) ∧ Below w3.heap.size w3 wr) (fun iv _ => l.length - (intOf iv).toNat)
          case atStart =>
            refine ⟨0, v, rfl, Nat.zero_le _, ?_, HR.out.2⟩
            have e : notesJ l 0 = notesK l 10 := by unfold notesJ; simp
            rw [e]
            exact HR.out.1
          case round =>
            obtain ⟨j, v6, rfl, hj, hT6, hB6⟩ := hrel
            have HR6 := hid (And.intro hT6 hB6)
            by_cases hlt2 : j < l.length
            · obtain ⟨o, ho⟩ : ∃ o, l[j]? = some o := ⟨l[j], List.getElem?_eq_getElem hlt2⟩
              have hBw : Below w.heap.size w wr := HK3.out.2.1.trans (hB6.mono hw3)
              obtain ⟨g, off, rfl, hg, ⟨c0, c1, c2, c3⟩, i0, i1, i2⟩ := HO.out.below hBw j o ho
              obtain ⟨b1, b2, b3, b4⟩ := opBad_false (HF.out o (List.mem_of_getElem? ho))
              have hj0 : (0 : Int) ≤ (j : Int) := by omega
              have hj1 : (j : Int) < (l.length : Int) := by omega
              have hB6s := hB6.size
              cases hw : o.2.2.1 with
              | true =>
                have hst : notesJ l (j + 1) = notesJ l j := by rw [notesJ_step ho]; unfold readsP; rw [if_pos hw]; simp
                have HST := hid hst
                have hA : Below wr.heap.size wr (wr.alloc (.cells #[.int .i64 o.1, .int .i64 o.2.1, .bool true, .int .i64 o.2.2.2] 90)) := (Below.refl _ _).alloc (Nat.le_refl _) _
                have HA := hid (And.intro (hT6.below hA) (hB6.trans (hA.mono hB6s)))
                rw [hw] at c2
                clear hT6 hB6 hBw ho hst hA
                go_wp2
                go_roundw
                case rel => exact ⟨j + 1, v6, by go_num, by omega, by rw [HST.out]; exact HA.out.1, HA.out.2⟩
                case measure => simp [intOf]; omega
              | false =>
                obtain ⟨kk, hkk⟩ : ∃ kk : Nat, o.2.1 = (kk : Nat) := ⟨o.2.1.toNat, by omega⟩
                have hk10 : kk < 10 := by omega
                have hkk0 : (0 : Int) ≤ (kk : Int) := by omega
                have hkk1 : (kk : Int) < 10 := by omega
                have hbr := badRead_read (l := l) hw (s := writersP l (kk : Nat)) (by rw [hkk])
                rw [HM.out.fine j o hlt2 ho] at hbr
                obtain ⟨p, hp⟩ : ∃ p, behindG (writersP l (kk : Nat)) o.2.2.2 = (p, true) := ⟨(behindG (writersP l (kk : Nat)) o.2.2.2).1, Prod.ext rfl (by simpa using hbr.symm)⟩
                have hst := notesJ_step ho
                rw [← readNotes_eq hw (s := writersP l (kk : Nat)) (by rw [hkk]) hp] at hst
                obtain ⟨tx, htx⟩ : ∃ tx, o.1 = tx := ⟨_, rfl⟩
                obtain ⟨fr, hfr⟩ : ∃ fr, o.2.2.2 = fr := ⟨_, rfl⟩
                rw [htx] at c0 hst
                rw [hkk] at c1
                rw [hw] at c2
                rw [hfr] at c3 i2 hp hst
                have HST := hid hst
                have hA : Below wr.heap.size wr (wr.alloc (.cells #[.int .i64 tx, .int .i64 (kk : Nat), .bool false, .int .i64 fr] 90)) := (Below.refl _ _).alloc (Nat.le_refl _) _
                have hX0 := heap_alloc_new wr (.cells #[.int .i64 tx, .int .i64 (kk : Nat), .bool false, .int .i64 fr] 90)
                have hKr : KeysAt wr w2.heap.size av mv (fun k => writersP l (k : Nat)) := HK3.out.1.same (fun b hb => hB6.block b (HK3.out.2.2 b hb))
                have x0 : (wr.alloc (.cells #[.int .i64 tx, .int .i64 (kk : Nat), .bool false, .int .i64 fr] 90)).cell? ⟨wr.heap.size, 0, none⟩ = some (.int .i64 tx) := (cell_of_row _ _ 0 _ _ (0, 0) hX0).trans rfl
                have x1 : (wr.alloc (.cells #[.int .i64 tx, .int .i64 (kk : Nat), .bool false, .int .i64 fr] 90)).cell? ⟨wr.heap.size, 1, none⟩ = some (.int .i64 (kk : Nat)) := (cell_of_row _ _ 1 _ _ (0, 0) hX0).trans rfl
                have x2 : (wr.alloc (.cells #[.int .i64 tx, .int .i64 (kk : Nat), .bool false, .int .i64 fr] 90)).cell? ⟨wr.heap.size, 2, none⟩ = some (.bool false) := (cell_of_row _ _ 2 _ _ (0, 0) hX0).trans rfl
                have x3 : (wr.alloc (.cells #[.int .i64 tx, .int .i64 (kk : Nat), .bool false, .int .i64 fr] 90)).cell? ⟨wr.heap.size, 3, none⟩ = some (.int .i64 fr) := (cell_of_row _ _ 3 _ _ (0, 0) hX0).trans rfl
                have hlen : (notesJ l j).length + (writersP l (kk : Nat)).length ≤ 50000 := by
                  have h1 := notesJ_len l j
                  have h2 := writers_len l (kk : Nat)
                  omega
                have hTa := (hT6.below hA).below (below_drewN (Below.refl _ _) 1)
                have HTa := hid hTa
                have HC6 := hid (noteR_any w3.heap.size w3.heap.size w2.heap.size v6 (notesJ l j) kk av mv _ tx fr p false ((wr.alloc (.cells #[.int .i64 tx, .int .i64 (kk : Nat), .bool false, .int .i64 fr] 90)).drewN 1) hTa ((hKr.below hA).below (below_drewN (Below.refl _ _) 1)) HK3.out.2.2 hk10 hlen i2 hp)
                have HBA := hid (hB6.trans (hA.mono hB6s))
                have HNX := hid (show ¬ tOwn w3.heap.size v6 wr.heap.size from fun hh => by have := (hT6.own_le hh).2; omega)
                have HXd := hid (show ((wr.alloc (.cells #[.int .i64 tx, .int .i64 (kk : Nat), .bool false, .int .i64 fr] 90)).drewN 1).heap[wr.heap.size]? = _ from hX0)
                clear hT6 hB6 hBw ho hst hA hKr hX0 hlen hTa hkk hw htx hfr hbr hp
                go_wp2
                go_region_held3 (fun W => W.cell? ⟨wr.heap.size, 0, none⟩ = some (.int .i64 tx) ∧ W.cell? ⟨wr.heap.size, 1, none⟩ = some (.int .i64 (kk : Nat)) ∧ W.cell? ⟨wr.heap.size, 2, none⟩ = some (.bool false) ∧ W.cell? ⟨wr.heap.size, 3, none⟩ = some (.int .i64 fr))
                  (first
                    | go_keep
                    | exact ⟨y0, y1, y2, y3⟩)
                  (first
                    | (go_at_call 64
                       refine HC6.out.mono ?_
                       rintro e w7 ⟨rfl, v7, hT7, hK7⟩
                       have hX7 := twos_box hK7 HXd.out HNX.out
                       have y0 : w7.cell? ⟨wr.heap.size, 0, none⟩ = some (.int .i64 tx) := (cell_of_row _ _ 0 _ _ (0, 0) hX7).trans rfl
                       have y1 : w7.cell? ⟨wr.heap.size, 1, none⟩ = some (.int .i64 (kk : Nat)) := (cell_of_row _ _ 1 _ _ (0, 0) hX7).trans rfl
                       have y2 : w7.cell? ⟨wr.heap.size, 2, none⟩ = some (.bool false) := (cell_of_row _ _ 2 _ _ (0, 0) hX7).trans rfl
                       have y3 : w7.cell? ⟨wr.heap.size, 3, none⟩ = some (.int .i64 fr) := (cell_of_row _ _ 3 _ _ (0, 0) hX7).trans rfl
                       have HK7 := hid (And.intro hT7 (hK7.twos HTa.out))
                       clear hT7 hK7 hX7))
                go_wp2
                go_roundw
                case rel => exact ⟨j + 1, v7, by go_num, by omega, by rw [HST.out]; exact HK7.out.1, HBA.out.trans ((below_drewN (Below.refl _ _) 1).trans HK7.out.2)⟩
                case measure => simp [intOf]; omega
            · obtain rfl : j = l.length := by omega
              have hT7 := hT6
              rw [notesJ_all] at hT7
              have c7 := hT7.cell
              have hnl := notes_len l
              have HT7 := hid hT7
              have HC7 := hid (sortTwos_any w3.heap.size v6 (notesP l) wr hT7.row (by omega))
              clear hT6 hB6 hT7
              go_wp2_with fail
              refine HC7.out.mono ?_
              rintro e w8 ⟨rfl, d8, hp8, hs8, ho8, hg8⟩
              have c8 : w8.cell? ⟨w3.heap.size, 0, none⟩ = some v6 := (World.cell?_of_block (a := ⟨w3.heap.size, 0, none⟩) (hg8.block _ HT7.out.lt (fun e => HT7.out.ne e.symm))).trans HT7.out.cell
              have hl8 : d8.length = (notesP l).length := hp8.length_eq
              rw [← hl8] at ho8
              have HC8 := hid (compact_any w3.heap.size v6 d8 w8 (by omega) ho8)
              have H8 := hid (And.intro hp8 (And.intro hs8 hg8))
              clear hp8 hs8 ho8 hg8
              go_wp2_with fail
              refine HC8.out.mono ?_
              rintro e w9 ⟨v9, rfl, ho9, hg9⟩
              have H9 := hid (And.intro ho9 hg9)
              clear ho9 hg9
              go_wp2
              go_ret2
              refine ⟨v9, compP d8, rfl, comp_edges HF.out H8.out.1 H8.out.2.1, Nat.le_trans (comp_len d8) (by omega), owns_base H9.out.1 hw3, ?_⟩
              have hown : ∀ k, v6.ownBlock = some k → w.heap.size ≤ k := fun k e => Nat.le_trans hw3 (HT7.out.row.lt k e).1
              have hb6 := HK3.out.2.1.trans (HR6.out.2.mono hw3)
              have hb8 := hb6.grown H8.out.2.2 hb6.size hown
              exact hb8.grown H9.out.2 hb8.size hown
    · omega
  · omega
end Go.Proofs.YtjefgmeejhakbaaGreatDoor
