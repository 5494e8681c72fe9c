/- base's Disk.written: what was written, one behind the other. -/
import Derived.Test.YtjefgmeejhakbaaGreatDoorMgAO
namespace Go.Proofs.YtjefgmeejhakbaaGreatDoor
open Go.RowKit

theorem info94 : (Tryz.prog.info? 94).map (·.size) = some 250 := by kernel_rfl
theorem info93 : (Tryz.prog.info? 93).map (·.size) = some 1 := by kernel_rfl
theorem run_place {vs : List Value} {k : Nat} {v : Value} (hv : vs[k]? = some v) (hk : k < 250) (w : World) :
    (Instr.index 94 (.agg vs.toArray) (.int .i64 (k : Int))).run Tryz.prog w = .ok v w := by
  have hk0 : (0 : Int) ≤ (k : Int) ∧ (k : Int) < 250 := by omega
  cases hq : Tryz.prog.info? 93 with
  | none => have := info93; simp [hq] at this
  | some i =>
    have hs : i.size = 1 := by have := info93; simpa [hq] using this
    simp [Instr.index, asIntOf, run_underlying Tryz.underlying94, sizeOf, typeInfo, hq, hs, hk0]
    rw [if_pos hk]
    simp [part, isAgg, run_underlying Tryz.underlying93, hv]
/-- append of nothing. -/
theorem run_append_zeroW {w : World} {base : Nat} {t ty e : TypeId} {i : TypeInfo} {size : Nat} (ht : Tryz.prog.underlying t = some (.slice e)) (hi : Tryz.prog.info? e = some i) {v : Value} {n : Nat} {xs : List Value} (h : w.ownsRow base e size v n xs) (ad : Addr) (c : Nat) :
    (Builtin.append_ #[t, t] ty #[v, .slice (some ad) 0 c]).run Tryz.prog w = .ok v w := by
  rcases h.2 with ⟨rfl, rfl⟩ | ⟨g, cap, cur, rfl, hb, hc, hle, _⟩
  · have hfc := run_firstCells_some (P := Tryz.prog) w i.size 0 ad 0 c [] (by simp) (fun j u hu => by simp at hu)
    simp [Builtin.append_, run_underlying ht, sizeOf, typeInfo, hi, Builtin.lenOf, hfc]
  · have := run_append_room_cells (P := Tryz.prog) w t ty e i ht hi g 0 n cap ad 0 c [] (by simp) (fun j u hu => by simp at hu) (fun u hu => by simp at hu) (by omega) (fun j hj => by simp at hj) (fun j hj => by simp at hj)
    simpa [World.setCells] using this
set_option maxRecDepth 100000 in
/-- append of a row of writes, onto one's own. -/
theorem wpList_app_writes {w : World} {ops : Array Oper} {rest : List Oper} {o : Oper} {a : Act} {Q : Exit → Act → World → Prop} (hgd : o.guard = none) (s x : Operand)
    (ho : o.op = .call { callee := .builtin .append, args := #[s, x], argTypes := #[23, 23] }) (base : Nat) (v : Value) (n : Nat) (xs : List Value) (hs : a.eval s = v) (hown : w.ownsRow base 78 2 v n xs)
    (sv : Value) (m : Nat) (news : List Value) (hx : a.eval x = sv) (hsrc : w.ownsRow 0 78 2 sv m news) (h1 : ∀ u ∈ news, u.oneCell' = true) (hn : n + m ≤ 1000000) (hbase : base ≤ w.heap.size)
    (h : ∀ v' w', w'.ownsRow base 78 2 v' (n + m) (xs ++ news) → Below base w w' → wpList Tryz.prog ops Q rest (a.put o.dst v') w') : wpList Tryz.prog ops Q (o :: rest) a w := by
  obtain ⟨i0, hi0, hz0, hz1, hz2⟩ := info_parts info78
  by_cases hm : m = 0
  · subst hm
    have hne : news = [] := List.eq_nil_of_length_eq_zero (by rw [hsrc.1])
    subst hne
    have hrun : (Builtin.append_ #[23, 23] o.type #[v, sv]).run Tryz.prog w = .ok v w := by
      rcases row_slice hsrc with ⟨rfl, _⟩ | ⟨g, c, rfl, _⟩
      · exact run_append_owned_none (P := Tryz.prog) (w := w) base 23 o.type 78 i0 2 Tryz.underlying23 hi0 v n xs hown
      · exact run_append_zeroW Tryz.underlying23 hi0 hown _ c
    refine wpList_plain hgd fun K hK => ?_
    unfold Oper.wp
    simp [execOp, ho, resolve, invoke, builtin, hs, hx, hrun, Result.andThen]
    exact hK _ _ (h v w (by simpa using hown) (Below.refl _ _))
  · rcases row_slice hsrc with ⟨_, e0⟩ | ⟨g, c, rfl, hg, hc⟩
    · exact (hm e0).elim
    · refine wpList_append_lies w hgd s x _ ho base 78 i0 _ 2 16 Tryz.underlying23 hi0 hz0 hz1 hz2 rfl (by omega) v n xs hs hown ⟨g, 0, none⟩ m c news hx hsrc.1 (fun j u hu => by rw [addr_add]; exact hc j u hu) h1 (by omega) (by unfold maxLen; omega) (by omega) hbase w.heap.size rfl ?_
      intro g' cap w' h2 h3 h4 h5
      refine h _ w' h2 ⟨h3.os, h3.tape, h3.output, h3.size, fun b hb => h3.block b (by omega) (fun e => ?_)⟩
      have := (hown.lt b e.symm).1
      omega

theorem whole_cons (x : Int) (r : List Int) : wholeP (x :: r) = (decide (((x :: r).length : Int) = x * 9 + 9) && (((numN ((x :: r).drop ((x :: r).length - 8)) 8 : Nat) : Int) == sumP ((x :: r).take ((x :: r).length - 8)))) := rfl
/-- A record's bytes are whole. -/
theorem whole_rec (ws : List (Int × Int)) : wholeP (recP ws) = true := by
  have h1 : recP ws = (ws.length : Int) :: (ws.flatMap wrB ++ bytesN (sumN (headP ws)) 8) := rfl
  have hl := recP_len ws
  have h2 : (recP ws).length - 8 = (headP ws).length := by rw [hl, headP_len]; omega
  have h3 : (recP ws).drop ((recP ws).length - 8) = bytesN (sumN (headP ws)) 8 := by
    rw [h2]; unfold recP; rw [List.drop_left]
  have h4 : (recP ws).take ((recP ws).length - 8) = headP ws := by
    rw [h2]; unfold recP; rw [List.take_left]
  have h5 := sumP_in (headP ws)
  have h6 : sumN (headP ws) < 2 ^ 64 := by unfold sumN; omega
  have h7 : numN (bytesN (sumN (headP ws)) 8) 8 = sumN (headP ws) := by
    have := number_bytes h6 []
    rwa [List.append_nil] at this
  have h8 : wholeP (recP ws) = (decide (((recP ws).length : Int) = (ws.length : Int) * 9 + 9) && ((numN ((recP ws).drop ((recP ws).length - 8)) 8 : Nat) : Int) == sumP ((recP ws).take ((recP ws).length - 8))) := by
    conv => lhs; rw [h1]
    rfl
  rw [h8, h3, h4, h7, hl, decide_eq_true (by omega), Bool.true_and, beq_iff_eq]
  unfold sumN
  omega
/-- A torn one's are not. -/
theorem whole_torn (ws : List (Int × Int)) {k : Nat} (hk : k < (recP ws).length) : wholeP ((recP ws).take k) = false := by
  cases k with
  | zero => rfl
  | succ k =>
    have h1 : (recP ws).take (k + 1) = (ws.length : Int) :: (ws.flatMap wrB ++ bytesN (sumN (headP ws)) 8).take k := rfl
    have hl := recP_len ws
    have h2 : ((recP ws).take (k + 1)).length = k + 1 := by rw [List.length_take]; omega
    rw [h1] at h2 ⊢
    rw [whole_cons, decide_eq_false (by rw [h2]; omega), Bool.false_and]

theorem flat_le {recs : List (List (Int × Int))} {n : Nat} (h : ∀ x ∈ recs, x.length ≤ 10) (hn : recs.length ≤ n) : recs.flatten.length ≤ 10 * n := by
  induction recs generalizing n with
  | nil => simp
  | cons x r ih =>
    have h1 := h x (List.mem_cons_self ..)
    have h2 := ih (n := n - 1) (fun y hy => h y (List.mem_cons_of_mem _ hy)) (by simp only [List.length_cons] at hn; omega)
    rw [List.flatten_cons, List.length_append]
    simp only [List.length_cons] at hn
    omega
section
variable {w : World} {d : Nat} {dv : List Value} {D : Dsk}
/-- The commits that were written. -/
structure Recs (D : Dsk) (recs : List (List (Int × Int))) : Prop where
  at_ : ∀ (j : Nat) (ws : List (Int × Int)), recs[j]? = some ws → D.pl[j]? = some (recP ws)
  len : ∀ ws ∈ recs, ws.length ≤ 10
  fine : ∀ ws ∈ recs, ∀ p ∈ ws, Fine p
  ne : ∀ ws ∈ recs, ws ≠ []
  lt : recs.length ≤ 100
  end_ : ∀ l, D.pl[recs.length]? = some l → wholeP l = false
set_option maxRecDepth 100000 in
set_option maxHeartbeats 1000000 in
theorem written_any (h : DiskAt w d dv D) {recs : List (List (Int × Int))} (hr : Recs D recs) :
    Calls Tryz.prog 106 #[.pointer (some ⟨d, 0, none⟩)] w fun e w' => ∃ v, e = .returned (.tuple #[.int .i64 (recs.length : Int), v]) ∧ w'.ownsRow w.heap.size 78 2 v recs.flatten.length (vrow recs.flatten) ∧ Below w.heap.size w w' := by
  have hld : w.rangeAt d 0 dv := fun j v hv => by
    have hi : j < 250 := by rw [← h.lv]; exact (List.getElem?_eq_some_iff.1 hv).1
    obtain ⟨v', _, hv', _, hc⟩ := h.get hi
    rw [hv] at hv'
    cases hv'
    rw [Nat.zero_add]
    exact hc
  have hin : (Tryz.prog.info? 94).map (·.size) = some dv.length := by rw [info94, h.lv]
  have HD := hid h
  have HR := hid hr
  have hlt := hr.lt
  clear h hr
  go_enter Tryz.func106, Tryz.ntmps106
  go_wp2_with (refine wpList_load_mid (by rfl) 94 _ (by rfl) d 0 (by rfl) dv (.array 250 93) hld Tryz.underlying94 rfl hin ?_)
  clear hld hin
  go_loopw [4, 11] (fun tv iv wr => ∃ j : Nat, iv = .int .i64 j ∧ j ≤ recs.length ∧ Hid (wr.ownsRow w.heap.size 78 2 tv (recs.take j).flatten.length (vrow (recs.take j).flatten) ∧ Below w.heap.size w wr)) (fun _ iv _ => 251 - (intOf iv).toNat)
  case atStart => exact ⟨0, rfl, Nat.zero_le _, by simpa [vrow] using World.ownsRow_nil w w.heap.size 78 2, Below.refl _ _⟩
  case round =>
    obtain ⟨j, rfl, hj, HX⟩ := hrel
    have hj250 : j < 250 := by omega
    obtain ⟨v, l, hv, hl, hc⟩ := HD.out.get hj250
    have hix := run_place hv hj250
    have HDr := hid (HD.out.below HX.out.2)
    have HI := hid (isWritten_any HDr.out hj250 hl)
    have gj1 : (j : Int) < 250 := by omega
    by_cases hlt2 : j < recs.length
    · obtain ⟨ws, hws⟩ : ∃ ws, recs[j]? = some ws := ⟨_, List.getElem?_eq_getElem hlt2⟩
      have hpl := HR.out.at_ j ws hws
      rw [hl] at hpl
      injection hpl with hpl
      subst hpl
      have hmem := List.mem_of_getElem? hws
      rw [whole_rec] at HI
      have hrow := HDr.out.row j v _ hv hl
      obtain ⟨ad, cap, rfl, hcap, hA, hgg⟩ := row_bytes hrow (HD.out.fin _ (List.mem_of_getElem? hl)).2
      obtain ⟨g, off, rfl, hg⟩ := hgg (by rw [recP_len]; omega)
      have HWO := hid (fun q => writesOf_any g off cap ws (wr.drewN q) (HR.out.len ws hmem) (fun p hp => by have := HR.out.fine ws hmem p hp; unfold Fine at this; unfold I64; omega) hcap hg (hA.same (fun _ _ => by simp)))
      have HWS := hid hws
      have hwl := HR.out.len ws hmem
      clear hrow hA hgg hws hl hv hc hmem
      go_wp2_with fail
      refine HI.out.mono ?_
      rintro e w1 ⟨rfl, q, hq⟩
      rw [hq]
      clear hq w1 HI
      go_wp2_with fail
      refine (HWO.out q).mono ?_
      rintro e w2 ⟨wv, rfl, hwrow, hB2⟩
      have hbs := HX.out.2.size
      have HO2 := hid (show w2.ownsRow w.heap.size 78 2 u4 (recs.take j).flatten.length (vrow (recs.take j).flatten) from owns_same HX.out.1 (fun g hg => hB2.block g (owns_lt HX.out.1 hg)))
      have HB2 := hid (show Below w.heap.size w w2 from HX.out.2.trans ((show Below wr.heap.size wr w2 from ⟨hB2.os, hB2.tape, hB2.output, hB2.size, hB2.block⟩).mono hbs))
      have HW2 := hid (owns_base hwrow (Nat.zero_le _))
      have hfl : (recs.take j).flatten.length ≤ 10 * j := flat_le (fun x hx => HR.out.len x (List.mem_of_mem_take hx)) (by rw [List.length_take]; omega)
      clear hwrow hB2 HWO
      go_wp2_with (at_builtin; refine wpList_app_writes (by rfl) _ _ (by rfl) w.heap.size u4 _ _ (by rfl) HO2.out wv ws.length (vrow ws) (by rfl) HW2.out (vrow_one ws) (by omega) HB2.out.size ?_; intro v3 w3 ho3 hB3)
      have HF := hid (And.intro (show w3.ownsRow w.heap.size 78 2 v3 (recs.take (j + 1)).flatten.length (vrow (recs.take (j + 1)).flatten) by
        rw [List.take_add_one, HWS.out]
        simp only [Option.toList_some, List.flatten_append, List.flatten_cons, List.flatten_nil, List.append_nil]
        rw [List.length_append, vrow_append]
        exact ho3) (HB2.out.trans hB3))
      clear ho3 hB3
      go_roundw
      case rel => exact ⟨j + 1, by go_num, by omega, HF.out⟩
      case measure => simp [intOf]; omega
    · obtain rfl : j = recs.length := by omega
      rw [HR.out.end_ l hl] at HI
      rw [List.take_length] at HX
      have HF := hid HX.out
      clear hl hv hc
      go_wp2_with fail
      refine HI.out.mono ?_
      rintro e w1 ⟨rfl, q, hq⟩
      rw [hq]
      clear hq w1 HI
      go_wp2
      go_ret2
      exact ⟨_, rfl, owns_same HF.out.1 (fun g hg => by simp), below_drewN HF.out.2 q⟩
end

end Go.Proofs.YtjefgmeejhakbaaGreatDoor
