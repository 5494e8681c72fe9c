/- order.rising; slices.SortFunc over twos. -/
import Derived.Test.YtjefgmeejhakbaaGreatDoorOrRowsR
import Derived.Test.YtjefgmeejhakbaaGreatDoorOrEdgeR
namespace Go.Proofs.YtjefgmeejhakbaaGreatDoor
open Go.RowKit Go.Shelf Go.Lib Go.Sort
def cmpW (x y : Int × Int) : Int := if Lib.compareInt x.1 y.1 ≠ 0 then Lib.compareInt x.1 y.1 else Lib.compareInt x.2 y.2
theorem cmpInt_neg (x y : Int) : Lib.compareInt x y < 0 ↔ x < y := by unfold Lib.compareInt; split <;> (try split) <;> omega
theorem cmpInt_zero (x y : Int) : Lib.compareInt x y = 0 ↔ x = y := by unfold Lib.compareInt; split <;> (try split) <;> omega
theorem ltW (x y : Int × Int) : ltOf cmpW x y = true ↔ lt2 x y := by
  unfold ltOf cmpW lt2
  rw [decide_eq_true_eq]
  have h1 := cmpInt_neg x.1 y.1
  have h2 := cmpInt_zero x.1 y.1
  have h3 := cmpInt_neg x.2 y.2
  by_cases e : Lib.compareInt x.1 y.1 = 0
  · rw [if_neg (by simpa using e), h3]
    have := h2.1 e
    omega
  · rw [if_pos e, h1]
    have : x.1 ≠ y.1 := fun e2 => e (h2.2 e2)
    omega
theorem ltW_false (x y : Int × Int) : ltOf cmpW x y = false ↔ ¬ lt2 x y := by rw [← ltW, Bool.not_eq_true]
theorem swoW : SWO (ltOf cmpW) where
  irrefl x := (ltW_false x x).2 (lt2_irrefl x)
  trans x y z h1 h2 := (ltW x z).2 (lt2_trans ((ltW x y).1 h1) ((ltW y z).1 h2))
  ntrans x y z h1 h2 := (ltW_false x z).2 (by
    have h1 := (ltW_false x y).1 h1
    have h2 := (ltW_false y z).1 h2
    unfold lt2 at *
    omega)
theorem totW (x y : Int × Int) (h1 : ltOf cmpW x y = false) (h2 : ltOf cmpW y x = false) : x = y := by
  have h1 := (ltW_false x y).1 h1
  have h2 := (ltW_false y x).1 h2
  rcases lt2_total x y with h | h | h
  · exact (h1 h).elim
  · exact h
  · exact (h2 h).elim
set_option maxHeartbeats 1000000 in
theorem rising_any (x y : Int × Int) (W : World) : Calls Tryz.prog 66 #[.agg #[.int .i64 x.1, .int .i64 x.2], .agg #[.int .i64 y.1, .int .i64 y.2]] W fun e w' => e = .returned (.int .i64 (cmpW x y)) ∧ ∃ q os', w' = grow (W.drewN q) os' := by
  have hcon := fun a b W' => AnyG.cmp_Compare_int Tryz.lCmp a b W'
  change ∀ a b W', Calls Tryz.prog 125 _ _ _ at hcon
  unfold cmpW
  by_cases h : Lib.compareInt x.1 y.1 = 0
  · rw [if_neg (by simpa using h)]
    have h1 := fun W' => hcon x.1 y.1 W'
    have h2 := fun W' => hcon x.2 y.2 W'
    rw [h] at h1
    generalize Lib.compareInt x.2 y.2 = r at h2 ⊢
    clear hcon h
    go_enter Tryz.func66, Tryz.ntmps66
    go_wp2_with fail
    refine (h1 _).mono ?_
    rintro e w' ⟨rfl, rfl⟩
    go_wp2_with fail
    refine (h2 _).mono ?_
    rintro e w' ⟨rfl, rfl⟩
    go_wp2
    go_ret
    exact ⟨rfl, 0, _, by rw [alloc_eq_grow, alloc_eq_grow, grow_grow]; rfl⟩
  · rw [if_pos h]
    have h1 := fun W' => hcon x.1 y.1 W'
    generalize Lib.compareInt x.1 y.1 = r at h h1 ⊢
    have hr : (r != 0) = true := by simpa using h
    clear hcon h
    go_enter Tryz.func66, Tryz.ntmps66
    go_wp2_with fail
    refine (h1 _).mono ?_
    rintro e w' ⟨rfl, rfl⟩
    go_wp2
    go_ret
    exact ⟨rfl, 0, _, by rw [alloc_eq_grow, alloc_eq_grow, grow_grow]; rfl⟩
theorem cmpLaysW (blk off size : Nat) (w : World) : CmpLays Tryz.prog 66 #[] encW 2 cmpW blk off size w := fun _ _ _ _ x y => rising_any x y _
theorem sortTwos_any (N : Nat) (v : Value) (d : List (Int × Int)) (w : World) (h : w.ownsRow N 78 2 v d.length (vrow d)) (hn : d.length ≤ 1000000) :
    Calls Tryz.prog 65 #[v, .func (.func 66) #[] #[]] w fun e w' => e = .returned (.tuple #[]) ∧ ∃ d', d'.Perm d ∧ d'.Pairwise le2 ∧ w'.ownsRow N 78 2 v d.length (vrow d') ∧ w.grownBy w' v.ownBlock := by
  by_cases h0 : d = []
  · subst h0
    obtain ⟨ad, cap, rfl⟩ := row_form h
    have hc := AnyF.slices_SortFunc_none { Tryz.lSort with } ad cap (.func (.func 66) #[] #[]) w
    change Calls Tryz.prog 65 _ _ _ at hc
    refine hc.mono ?_
    rintro e w' ⟨rfl, rfl⟩
    exact ⟨rfl, [], List.Perm.refl _, List.Pairwise.nil, h, ⟨rfl, rfl, rfl, Nat.le_refl _, fun _ _ _ => rfl⟩⟩
  · rcases row_slice h with ⟨_, e0⟩ | ⟨g, cap, rfl, hg, _⟩
    · exact (h0 (List.eq_nil_of_length_eq_zero e0)).elim
    · have e1 : (flatK encW 2 d.toArray).toList = vrow d := flatW d.toArray
      have hH : HoldsK encW 2 w g 0 d.toArray := holds_of_owns (by rw [e1]; exact h)
      have eg : ∀ args w, (callFunc 66 args).run Tryz.prog w = .ok (.enter 66 args) w := enters_of Tryz.func66 (by kernel_rfl) rfl
      have hc := AnyQ.slices_SortFunc_total Tryz.lSort 2 Tryz.isAgg78 Tryz.sizeOf78 encW (fun _ => rfl) (fun x v hv => by simp [encW] at hv; rcases hv with rfl | rfl <;> rfl) cmpW swoW 66 #[] g 0 cap d.toArray w eg (cmpLaysW g 0 _ w) hH hg (by simp; omega) totW
      change Calls Tryz.prog 65 _ _ _ at hc
      rw [List.size_toArray] at hc
      refine hc.mono ?_
      rintro e w' ⟨rfl, n, os, rfl⟩
      obtain ⟨d', hd'⟩ : ∃ d', d.mergeSort (fun x y => !(ltOf cmpW) y x) = d' := ⟨_, rfl⟩
      have hp : d'.Perm d := hd' ▸ List.mergeSort_perm _ _
      have hs : d'.Pairwise le2 := by
        have := List.pairwise_mergeSort (le := fun x y => !(ltOf cmpW) y x) (fun a b c h1 h2 => ?_) (fun a b => ?_) d
        · rw [hd'] at this
          refine this.imp (fun {a b} hab => ?_)
          unfold le2
          rw [← ltW]
          intro hba
          rw [hba] at hab
          cases hab
        · simp only [Bool.not_eq_true'] at h1 h2 ⊢
          exact swoW.ntrans c b a h2 h1
        · simp only [Bool.or_eq_true, Bool.not_eq_true']
          cases h1 : ltOf cmpW b a with
          | false => exact .inl rfl
          | true => exact .inr (swoW.asym h1)
      have hl : d'.length = d.length := hp.length_eq
      have e2 : (flatK encW 2 d'.toArray).toList = vrow d' := flatW d'.toArray
      have hpo := put_owns h (F := flatK encW 2 d'.toArray) (by rw [size_flatK, List.size_toArray, hl]) n os
      rw [e2] at hpo
      refine ⟨rfl, d', hp, hs, ?_⟩
      have hw : sortWorldK encW 2 w g 0 n (d.toArray.toList.mergeSort fun x y => !(ltOf cmpW) y x).toArray os = grow (putRow id (Sort.ahead w n) g 0 (flatK encW 2 d'.toArray)) os := by
        rw [← hd']; rfl
      rw [hw]
      exact hpo
end Go.Proofs.YtjefgmeejhakbaaGreatDoor
