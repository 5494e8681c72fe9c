/- (*Store).Install where nothing is wrong. -/
import Derived.Test.YtjefgmeejhakbaaGreatDoorMgAFQ
namespace Go.Proofs.YtjefgmeejhakbaaGreatDoor
open Go.RowKit
variable {P : Tail}
def WRow (W : World) (b off : Nat) (ws : List (Int × Int)) : Prop :=
  ∀ j a v, ws[j]? = some (a, v) → W.cell? ⟨b, off + j * 2, none⟩ = some (.int .i64 a) ∧ W.cell? ⟨b, off + j * 2 + 1, none⟩ = some (.int .i64 v)
theorem WRow.same {A B : World} {b off : Nat} {ws : List (Int × Int)} (h : WRow A b off ws) (hb : B.heap[b]? = A.heap[b]?) : WRow B b off ws :=
  fun j a v e => ⟨(World.cell?_of_block (a := ⟨b, off + j * 2, none⟩) hb).trans (h j a v e).1, (World.cell?_of_block (a := ⟨b, off + j * 2 + 1, none⟩) hb).trans (h j a v e).2⟩
def instP (t : Int) (ws : List (Int × Int)) (ks : List (List (Int × Int))) : List (List (Int × Int)) :=
  ws.foldl (fun ks p => ks.set p.1.toNat (putP t p.2 (ks[p.1.toNat]?.getD []))) ks
theorem instP_snoc (t : Int) (ws : List (Int × Int)) (ks : List (List (Int × Int))) (a v : Int) : instP t (ws ++ [(a, v)]) ks = (instP t ws ks).set a.toNat (putP t v ((instP t ws ks)[a.toNat]?.getD [])) := by
  simp [instP]
theorem putP_length (t x : Int) (l : List (Int × Int)) : (putP t x l).length ≤ l.length + 1 := by
  unfold putP
  split
  · simp
  · simp
theorem instP_bound (t : Int) : ∀ (ws : List (Int × Int)) (ks : List (List (Int × Int))) (N : Nat), (∀ l ∈ ks, l.length ≤ N) → ∀ l ∈ instP t ws ks, l.length ≤ N + ws.length
  | [], ks, N, h, l, hl => by simpa using h l (by simpa [instP] using hl)
  | (a, v) :: r, ks, N, h, l, hl => by
    have := instP_bound t r (ks.set a.toNat (putP t v (ks[a.toNat]?.getD []))) (N + 1) (fun m hm => by
      rcases List.mem_or_eq_of_mem_set hm with hm | rfl
      · have := h m hm; omega
      · have h1 := putP_length t v (ks[a.toNat]?.getD [])
        have h2 : (ks[a.toNat]?.getD []).length ≤ N := by
          cases e : ks[a.toNat]? with
          | none => simp
          | some m => simpa using h m (List.mem_of_getElem? e)
        omega) l (by simpa [instP] using hl)
    simp
    omega
def Fine (p : Int × Int) : Prop := keyB p.1 = true ∧ -1099511627776 ≤ p.2 ∧ p.2 ≤ 1099511627776
theorem keyB_nat {k : Int} (h : keyB k = true) : ∃ n : Nat, k = n ∧ n < 10 := by
  simp [keyB] at h
  exact ⟨k.toNat, by omega, by omega⟩
section
variable {w w' : World} {base s : Nat} {last : Int} {vs : List Value} {ks : List (List (Int × Int))}
theorem Sto.setLast (h : Sto P w base s last vs ks) (t : Int) : Sto P (w.setCell ⟨s, 0, none⟩ (.int .i64 t)) base s t vs ks ∧ Kept s vs vs w (w.setCell ⟨s, 0, none⟩ (.int .i64 t)) := by
  refine ⟨⟨?_, h.lv, h.lk, ?_, h.apart, h.sb⟩, ⟨rfl, rfl, rfl, by simp, fun b _ hs _ => heap_setCell_other _ _ _ _ hs, fun _ hg => .inl hg⟩⟩
  · rw [heap_setCell_same w s 0 _ P.tt _ h.blk, P.set0]
  · intro k v l hv hl
    have ho := h.own k v l hv hl
    refine ⟨ho.1, ?_⟩
    rcases ho.2 with hn | ⟨g, cap, cur, e, hb, hgg, r⟩
    · exact .inl hn
    · refine .inr ⟨g, cap, cur, e, hb, ?_, r⟩
      rw [heap_setCell_other _ _ _ _ (show g ≠ s by have := h.sb; omega)]
      exact hgg
end
set_option maxRecDepth 100000 in
set_option maxHeartbeats 2000000 in
theorem install_good (base s b off cap : Nat) (last t : Int) (vs : List Value) (ks : List (List (Int × Int))) (ws : List (Int × Int)) (w : World) (h : Sto P w base s last vs ks) (hbase : base ≤ w.heap.size)
    (hws : WRow w b off ws) (hbr : ¬ InRows vs b) (hbs : b ≠ s) (hbl : b < w.heap.size) (hfine : ∀ p ∈ ws, Fine p) (h1 : last < t) (h2 : t ≤ 1099511627776) (hn : ws.length ≤ 100000) (hks : ∀ l ∈ ks, l.length ≤ 100000) :
    Calls Tryz.prog 76 #[.pointer (some ⟨s, 0, none⟩), .int .i64 t, .slice (some ⟨b, off, none⟩) ws.length cap] w fun e w' => e = .returned .nilIface ∧
      ∃ vs', Sto P w' base s t vs' (instP t ws ks) ∧ Kept s vs vs' w w' := by
  have hc0 := h.cellLast
  have d1 : decide (t ≤ last) = false := by simp; omega
  have d2 : decide (1099511627776 < t) = false := by simp; omega
  go_enter Tryz.func76, Tryz.ntmps76
  go_wp2
  go_loopw [25] (fun i wr => ∃ k : Nat, k ≤ ws.length ∧ i = .int .i64 k ∧ Below w.heap.size w wr) (fun i _ => ws.length - (intOf i).toNat)
  case atStart => exact ⟨0, Nat.zero_le _, rfl, Below.refl _ _⟩
  case round =>
    obtain ⟨k, hk, rfl, hB⟩ := hrel
    by_cases hlt : k < ws.length
    · obtain ⟨⟨a, v⟩, hav⟩ : ∃ p, ws[k]? = some p := ⟨ws[k], List.getElem?_eq_getElem hlt⟩
      obtain ⟨hf1, hf2, hf3⟩ := hfine (a, v) (List.mem_of_getElem? hav)
      obtain ⟨ca, cv⟩ := (hws.same (hB.block b hbl)) k a v hav
      have hk0 : (0 : Int) ≤ (k : Int) := by omega
      have hk1 : (k : Int) < (ws.length : Int) := by omega
      simp only at hf1 hf2 hf3
      clear hav
      go_wp2_with (go_at_call 131; refine (wrong_good _ _ _ hf1 hf2 hf3).mono ?_; rintro e w' ⟨rfl, hb1⟩)
      go_roundw
      case rel => exact ⟨k + 1, by omega, by go_num, hB.trans (((Below.refl _ _).alloc hB.size _).trans (hb1.mono (by simp; have := hB.size; omega)))⟩
      case measure => simp [intOf]; omega
    · have hS := h.below hB
      have hwr := hws.same (hB.block b hbl)
      have hK1 : Kept s vs vs w wr := Kept.of_below hB
      clear hc0
      go_wp2
      go_loopw [42] (fun i wz => ∃ (j : Nat) (us : List Value), j ≤ ws.length ∧ i = .int .i64 j ∧ Sto P wz base s last us (instP t (ws.take j) ks) ∧ Kept s vs us w wz) (fun i _ => ws.length - (intOf i).toNat)
      case atStart => exact ⟨0, vs, Nat.zero_le _, rfl, by simpa [instP] using hS, hK1⟩
      case round =>
        clear hS hwr hK1 hB hk hlt
        obtain ⟨j, us, hj, rfl, hSz, hKz⟩ := hrel
        by_cases hlt : j < ws.length
        · obtain ⟨⟨a, v⟩, hav⟩ : ∃ p, ws[j]? = some p := ⟨ws[j], List.getElem?_eq_getElem hlt⟩
          obtain ⟨hf1, -, -⟩ := hfine (a, v) (List.mem_of_getElem? hav)
          obtain ⟨a, rfl, ha⟩ := keyB_nat hf1
          obtain ⟨ca, cv⟩ := (hws.same (hKz.block b hbl hbs hbr)) j a v hav
          have hk0 : (0 : Int) ≤ (j : Int) := by omega
          have hk1 : (j : Int) < (ws.length : Int) := by omega
          have hst : Hid (instP t (ws.take (j + 1)) ks = (instP t (ws.take j) ks).set a (putP t v ((instP t (ws.take j) ks)[a]?.getD []))) := by
            have e : ws.take (j + 1) = ws.take j ++ [((a : Int), v)] := by
              rw [List.take_add_one, hav]; rfl
            show _ = _
            rw [e, instP_snoc]
            simp
          obtain ⟨l, hl⟩ : ∃ l, (instP t (ws.take j) ks)[a]? = some l := ⟨(instP t (ws.take j) ks)[a]'(by rw [hSz.lk]; exact ha), List.getElem?_eq_getElem _⟩
          have hll : l.length < 1000000 - 1 := by
            have h1 := instP_bound t (ws.take j) ks 100000 hks l (List.mem_of_getElem? hl)
            have h2 : (ws.take j).length ≤ 100000 := by simp; omega
            omega
          have hsz := hKz.size
          have hbz : base ≤ wr.heap.size + 1 := by omega
          clear hav hf1
          go_wp2_with fail
          have hal : Below wr.heap.size wr (wr.alloc (.cells #[.int .i64 (a : Int), .int .i64 v] 78)) := (Below.refl _ _).alloc (Nat.le_refl _) _
          refine (put_any base s last us (instP t (ws.take j) ks) a l t v _ (hSz.below hal) (by simp; omega) hl (by omega)).mono ?_
          rintro e w' ⟨rfl, us', hS', hK'⟩
          go_wp2
          go_roundw
          case rel => exact ⟨j + 1, us', by omega, by go_num, by rw [hst.out, hl]; exact hS', hKz.trans ((Kept.of_below hal).trans hK')⟩
          case measure => simp [intOf]; omega
        · have e : ws.take j = ws := List.take_of_length_le (by omega)
          rw [e] at hSz
          have cz := hSz.cellLast
          have fz := hSz.free 0
          clear e
          go_wp2
          go_ret
          exact ⟨rfl, us, (hSz.setLast t).1, hKz.trans (hSz.setLast t).2⟩
end Go.Proofs.YtjefgmeejhakbaaGreatDoor
