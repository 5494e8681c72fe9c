/- The document's engine and the landed one: what WRITES is made of. -/
import Derived.Test.YtjefgmeejhakbaaGreatDoorFeGone
namespace Go.Proofs.YtjefgmeejhakbaaGreatDoor
open Go.RowKit
def restP (E : Eng) (p : Nat → Tx → Bool) (j : Nat) : List Nat := ((List.range E.txs.length).drop j).filter (fun i => match E.txs[i]? with | some t => p i t | none => false)
theorem restP_end (E : Eng) (p : Nat → Tx → Bool) : restP E p E.txs.length = [] := by
  unfold restP
  rw [List.drop_of_length_le (by simp)]
  rfl
theorem restP_step {E : Eng} {p : Nat → Tx → Bool} {j : Nat} {t : Tx} (ht : E.txs[j]? = some t) : restP E p j = if p j t = true then j :: restP E p (j + 1) else restP E p (j + 1) := by
  have hj := (List.getElem?_eq_some_iff.1 ht).1
  unfold restP
  rw [List.drop_eq_getElem_cons (by simpa using hj), List.getElem_range, List.filter_cons, ht]
section
variable {w w' : World} {L : REnL} {B : Nat} {E E' : Eng} {R : REng} {i j : Nat} {t u : Tx} {r s : RTx}
theorem RefAt.place (h : RefAt w L B E) (ht : E.txs[i]? = some t) : ∃ b, L.bs[i]? = some b := by
  obtain ⟨R, hA, hRel⟩ := h
  obtain ⟨r, hr, _⟩ := hRel.getR ht
  obtain ⟨l, hl, _⟩ := hA.get hr
  exact ⟨l.b, rbs_get hl⟩
theorem rahead_ref (h : RefAt w L B E) (hB : B ≤ 10000000) (hij : i ≠ j) (hi : E.txs[i]? = some t) (hj : E.txs[j]? = some u) (l1 : t.level = 2) (l2 : u.level = 2) (s1 : t.state ≠ 3) (s2 : u.state ≠ 3) {bi bj : Nat} (hbi : L.bs[i]? = some bi) (hbj : L.bs[j]? = some bj) :
    Calls Tryz.prog 138 #[.pointer (some ⟨bi, 0, none⟩), .pointer (some ⟨bj, 0, none⟩)] w fun e w' => e = .returned (.bool (!(putAheadP E i j).1)) ∧ RefPost L (B + 2) (putAheadP E i j).2 w w' ∧ w'.cell? ⟨bi, 5, none⟩ = w.cell? ⟨bi, 5, none⟩ ∧ w'.cell? ⟨bj, 4, none⟩ = w.cell? ⟨bj, 4, none⟩ := by
  obtain ⟨R, hA, hRel⟩ := h
  obtain ⟨r, hr, hX⟩ := hRel.getR hi
  obtain ⟨s, hs, hY⟩ := hRel.getR hj
  obtain ⟨l, hl, rfl⟩ := bs_getb hbi
  obtain ⟨m, hm, rfl⟩ := bs_getb hbj
  obtain ⟨h1, h2⟩ := hRel.ahead hij hi hj hr hs l1 l2 s1 s2
  refine (rahead_any hA hij hl hm hr hs ((hRel.szR hr).mono (by omega)) ((hRel.szR hs).mono (by omega)) (hRel.bl hr) (hRel.bl hs) rfl).mono ?_
  rintro e w1 ⟨rfl, L', hA', hK, hR, hb⟩
  obtain ⟨l', hl', hlb⟩ := bs_getb (show L'.bs[i]? = some l.b by rw [hb]; exact hbi)
  obtain ⟨m', hm', hmb⟩ := bs_getb (show L'.bs[j]? = some m.b by rw [hb]; exact hbj)
  have hs1 : (R.setTx i { r with behind := r.behind ++ [j] }).txs[j]? = some s := by rw [rsetTx_ne hij]; exact hs
  have q1 := (hA'.txs i l' _ hl' (by rw [rsetTx_ne (Ne.symm hij)]; exact rsetTx_get hr)).cell 5
  have q2 := (hA'.txs j m' _ hm' (rsetTx_get hs1)).cell 4
  have q3 := (hA.txs i l r hl hr).cell 5
  have q4 := (hA.txs j m s hm hs).cell 4
  rw [hlb] at q1
  rw [hmb] at q2
  refine ⟨?_, ⟨L', ⟨_, hA', h1⟩, hK, hR, hb⟩, q1.trans q3.symm, q2.trans q4.symm⟩
  rw [h2, hX.state, hY.state, Bool.not_not]
theorem rneq_ptr {W : World} {b bi : Nat} {ca cb : Array Value} {ta tb : TypeId} (ha : W.heap[b]? = some (.cells ca ta (0, 0))) (hb : W.heap[bi]? = some (.cells cb tb (0, 0))) :
    (binOp .neq 171 (.pointer (some ⟨b, 0, none⟩)) (.pointer (some ⟨bi, 0, none⟩))).run Tryz.prog W = .ok (.bool (decide (b ≠ bi))) W := by
  have h22 : (Tryz.prog.info? 177).map (·.size) = some 12 := by kernel_rfl
  obtain ⟨j, hj⟩ : ∃ j, Tryz.prog.info? 177 = some j := by
    cases hj : Tryz.prog.info? 177 with
    | none => rw [hj] at h22; cases h22
    | some j => exact ⟨j, rfl⟩
  have hz : j.size ≠ 0 := by
    rw [hj] at h22
    simp at h22
    omega
  have h : ∀ d : Nat, (Op.equalIn (d + 1) 171 (.pointer (some ⟨b, 0, none⟩)) (.pointer (some ⟨bi, 0, none⟩))).run Tryz.prog W = .ok (decide (b = bi)) W := fun d => by
    by_cases e : b = bi
    · subst e
      simp [Op.equalIn, run_underlying Tryz.underlying171, sizeOf, typeInfo, hj, run_sameAddr_same]
    · have hne : (⟨b, 0, none⟩ : Addr) ≠ ⟨bi, 0, none⟩ := fun e1 => e (by injection e1)
      simp [Op.equalIn, run_underlying Tryz.underlying171, sizeOf, typeInfo, hj, hz, run_sameAddr_other W hne ha hb, e]
  simp only [binOp]
  simp [Op.equal, Op.maxDepth, h 9999]
theorem RefAt.neq (h : RefAt w L B E) (hi : E.txs[i]? = some t) (hj : E.txs[j]? = some u) {bi bj : Nat} (hbi : L.bs[i]? = some bi) (hbj : L.bs[j]? = some bj) :
    (binOp .neq 171 (.pointer (some ⟨bi, 0, none⟩)) (.pointer (some ⟨bj, 0, none⟩))).run Tryz.prog w = .ok (.bool (decide (i ≠ j))) w := by
  obtain ⟨R, hA, hRel⟩ := h
  obtain ⟨r, hr, hX⟩ := hRel.getR hi
  obtain ⟨s, hs, hY⟩ := hRel.getR hj
  obtain ⟨l, hl, rfl⟩ := bs_getb hbi
  obtain ⟨m, hm, rfl⟩ := bs_getb hbj
  rw [rneq_ptr (hA.txs i l r hl hr).blk (hA.txs j m s hm hs).blk]
  have : decide (l.b ≠ m.b) = decide (i ≠ j) := by
    rw [decide_eq_decide]
    constructor
    · rintro hne rfl
      rw [hl] at hm
      cases hm
      exact hne rfl
    · exact fun hne => hA.b_ne hne hl hm
  rw [this]
theorem Rel.hasRead (h : Rel B E R) (hj : E.txs[j]? = some u) (hr : R.txs[i]? = some r) (hs : R.txs[j]? = some s) {k : Nat} (hk : k < 10) :
    hasReadB (k : Int) i j u = (s.reads.any (fun o => o.2.1 == (k : Int)) && (decide (j ≠ i) && ((s.level == 2 && s.state != 3) && (liveB s.state || decide (r.begun < s.over))))) := by
  have hY := h.tx j u s hj hs
  unfold hasReadB wasOverB
  rw [hY.level, hY.state, Int.toNat_natCast]
  by_cases h3 : u.state = 3
  · simp [h3]
  · have hseen := hY.seen h3 k hk
    rw [hseen, Option.getD_some]
    have e3 : decide (u.state ≠ 3) = true := by simpa using h3
    have e4 : (u.state != 3) = true := by simpa using h3
    rw [e3, e4]
    cases hl : liveB u.state with
    | true => simp
    | false =>
      have := h.ord i j r s u hr hs hj hl
      have e5 : decide (u.bae < (i : Int) + 1) = !decide (r.begun < s.over) := by
        rw [Bool.eq_iff_iff]
        simp only [decide_eq_true_eq, Bool.not_eq_true', decide_eq_false_iff_not, this]
        omega
      rw [e5]
      simp
theorem Rel.put (h : Rel B E R) (ht : E.txs[i]? = some t) (hr : R.txs[i]? = some r) (hs : t.state = 0) : Rel (B + 1) (E.setTx i { t with vals := updT t.vals t.wk (some t.wv) }) (R.setTx i { r with own := r.own ++ [(t.wk, t.wv)] }) := by
  have hx := h.tx i t r ht hr
  refine h.setTx ht hr (by omega) (.inl rfl) ⟨hx.level, hx.state, hx.why, hx.start, hx.want, fun k => ?_, hx.reads, hx.seen, hx.be, hx.ah, hx.bl, hx.al, hx.non⟩ (fun e => by omega) ⟨rfl, rfl⟩ rfl rfl ⟨by simp, by simp, by simp, by simp⟩ (by show B + 1 + 1000 * potT t ≤ _; omega)
  show lastOf (r.own ++ [(t.wk, t.wv)]) k = updT t.vals t.wk (some t.wv) k
  rw [lastOf_snoc]
  unfold updT
  split
  · rfl
  · exact hx.own k
theorem any_take_succ {l : List (Int × Int × Bool × Int)} {a : Nat} {o : Int × Int × Bool × Int} (h : l[a]? = some o) (k : Int) : (l.take (a + 1)).any (fun o => o.2.1 == k) = ((l.take a).any (fun o => o.2.1 == k) || o.2.1 == k) := by
  rw [List.take_add_one, h, Option.toList_some, List.any_append]
  simp
theorem opsV_get : ∀ (l : List (Int × Int × Bool × Int)) (j : Nat) (o : Int × Int × Bool × Int), l[j]? = some o → (opsV l)[j * 4]? = some (.int .i64 o.1) ∧ (opsV l)[j * 4 + 1]? = some (.int .i64 o.2.1) ∧ (opsV l)[j * 4 + 2]? = some (.bool o.2.2.1) ∧ (opsV l)[j * 4 + 3]? = some (.int .i64 o.2.2.2)
  | [], j, o, h => by simp at h
  | x :: r, 0, o, h => by simp at h; subst h; simp [opsV]
  | x :: r, j + 1, o, h => by
    have := opsV_get r j o (by simpa using h)
    rw [show (j + 1) * 4 = j * 4 + 4 by omega]
    simpa [opsV] using this
end
end Go.Proofs.YtjefgmeejhakbaaGreatDoor
