/- sort.Slice as the reference's Edges calls it. -/
import Derived.Test.YtjefgmeejhakbaaGreatDoorOrSortR
import Derived.Test.YtjefgmeejhakbaaGreatDoorOrNoteR
import Derived.Shelf.GgSortFunc.Tiny
namespace Go.Proofs.YtjefgmeejhakbaaGreatDoor
open Go.RowKit Go.Shelf Go.Lib Go.Sort
set_option maxRecDepth 100000 in
set_option maxHeartbeats 1000000 in
theorem refLess (g c B n i j : Nat) (a b : Int × Int) (W : World) (hs : W.cell? ⟨B, 0, none⟩ = some (.slice (some ⟨g, 0, none⟩) n c)) (hi : i < n) (hj : j < n)
    (a1 : W.cell? ⟨g, i * 2, none⟩ = some (.int .i64 a.1)) (a2 : W.cell? ⟨g, i * 2 + 1, none⟩ = some (.int .i64 a.2)) (b1 : W.cell? ⟨g, j * 2, none⟩ = some (.int .i64 b.1)) (b2 : W.cell? ⟨g, j * 2 + 1, none⟩ = some (.int .i64 b.2)) :
    Calls Tryz.prog 57 #[.int .i64 i, .int .i64 j, .pointer (some ⟨B, 0, none⟩)] W fun e w' => e = .returned (.bool (ltOf cmpW a b)) ∧ ∃ q, w' = W.drewN q := by
  have hi0 : (0 : Int) ≤ (i : Int) := by omega
  have hi1 : (i : Int) < (n : Int) := by omega
  have hj0 : (0 : Int) ≤ (j : Int) := by omega
  have hj1 : (j : Int) < (n : Int) := by omega
  have hlt := ltW a b
  unfold lt2 at hlt
  by_cases h1 : a.1 < b.1
  · have hd : decide (a.1 < b.1) = true := by simpa using h1
    have hr : ltOf cmpW a b = true := hlt.2 (.inl h1)
    rw [hr]
    clear hlt hr
    go_enter Tryz.func57, Tryz.ntmps57
    go_wp2
    go_quiet (fail)
    go_wp2
    go_ret
    exact ⟨rfl, _, rfl⟩
  · have hd : decide (a.1 < b.1) = false := by simpa using h1
    by_cases h2 : a.1 = b.1
    · have hd2 : (a.1 == b.1) = true := by simpa using h2
      have hr : ltOf cmpW a b = decide (a.2 < b.2) := by
        rw [Bool.eq_iff_iff, hlt, decide_eq_true_eq]
        omega
      rw [hr]
      clear hlt hr
      go_enter Tryz.func57, Tryz.ntmps57
      go_wp2
      go_quiet (fail)
      go_wp2
      go_ret
      exact ⟨rfl, _, rfl⟩
    · have hd2 : (a.1 == b.1) = false := by simpa using h2
      have hr : ltOf cmpW a b = false := by
        cases hh : ltOf cmpW a b with
        | false => rfl
        | true => have := hlt.1 hh; omega
      rw [hr]
      clear hlt hr
      go_enter Tryz.func57, Tryz.ntmps57
      go_wp2
      go_quiet (fail)
      go_wp2
      go_ret
      exact ⟨rfl, _, rfl⟩
noncomputable def svT : TypeInfo := (Tryz.prog.info? 23).get (by kernel_rfl)
noncomputable def svE : TypeInfo := (Tryz.prog.info? 78).get (by kernel_rfl)
theorem svK (n : Nat) (h2 : 2 ≤ n) : Lib.swapperK n svE 25 = 9 := by
  have a : svE.hasPointers = false := by kernel_rfl
  have b : svE.bytes = 16 := by kernel_rfl
  have c : (n == 0) = false := by simp; omega
  have d : (n == 1) = false := by simp; omega
  simp [Lib.swapperK, a, b, c, d]
theorem permIn_list {d d' : Array (Int × Int)} (h : PermIn 0 d.size d d') : d'.toList.Perm d.toList := by
  have h3 := h.2.2
  rw [Array.extract_size] at h3
  have h2 : d'.extract 0 d.size = d' := by rw [← h.1, Array.extract_size]
  rwa [h2] at h3
theorem sortedIn_list {d : Array (Int × Int)} {n : Nat} (hn : d.size = n) (h : SortedIn (ltOf cmpW) 0 n d) : d.toList.Pairwise le2 := by
  rw [List.pairwise_iff_getElem]
  intro i j hi hj hij
  have hi' : i < d.size := by simpa using hi
  have hj' : j < d.size := by simpa using hj
  have := h i j (Nat.zero_le _) hij (by omega)
  rw [ltW_false, getElem!_pos d i hi', getElem!_pos d j hj'] at this
  unfold le2
  simpa using this
set_option maxRecDepth 100000 in
theorem refSort_any (N B : Nat) (v : Value) (d : List (Int × Int)) (w : World) (h : TwosN N w B v d) (hn : d.length ≤ 1000000) :
    Calls Tryz.prog 56 #[.iface 23 v, .func (.func 57) #[] #[.pointer (some ⟨B, 0, none⟩)]] w fun e w' => e = .returned (.tuple #[]) ∧ ∃ d', d'.Perm d ∧ d'.Pairwise le2 ∧ TwosN N w' B v d' ∧ w.grownBy w' v.ownBlock := by
  by_cases h2 : 2 ≤ d.length
  · have ho := h.row
    have hc0 := h.cell
    have hBl := h.lt
    have hne := h.ne
    rcases row_slice ho with ⟨_, e0⟩ | ⟨g, cap, rfl, hg, _⟩
    · omega
    · have e1 : (flatK encW 2 d.toArray).toList = vrow d := flatW d.toArray
      have hH : HoldsK encW 2 w g 0 d.toArray := holds_of_owns (by rw [e1]; exact ho)
      have hBg : B ≠ g := fun e => hne (by rw [e]; rfl)
      have hless : LessReadsK Tryz.prog 57 #[.pointer (some ⟨B, 0, none⟩)] encW 2 (ltOf cmpW) g 0 d.toArray.size w := by
        intro m os dk hs i j hi hj
        have e : sortWorldK encW 2 w g 0 m dk os = putRowK encW 2 (grow (Sort.ahead w m) os) g 0 dk := by
          unfold sortWorldK; rw [putRowK_grow _ _ (Sort.ahead w m) _ g 0 _ hg]
        have hHg : HoldsK encW 2 (grow (Sort.ahead w m) os) g 0 d.toArray := holdsK_grow _ _ _ _ g 0 d.toArray hg (holdsK_ahead _ _ _ _ _ _ _ hH)
        have hHp := holdsK_putRowK _ _ _ g 0 d.toArray dk hHg hs
        rw [← e] at hHp
        have cs : ∀ t, t < dk.size → (sortWorldK encW 2 w g 0 m dk os).cell? ⟨g, t * 2, none⟩ = some (.int .i64 dk[t]!.1) ∧ (sortWorldK encW 2 w g 0 m dk os).cell? ⟨g, t * 2 + 1, none⟩ = some (.int .i64 dk[t]!.2) := fun t ht => by
          have c1 := (hHp.cell (i := t) (c := 0) ht (by omega)).1
          have c2 := (hHp.cell (i := t) (c := 1) ht (by omega)).1
          rw [Nat.zero_add] at c1 c2
          exact ⟨c1, c2⟩
        refine refLess g cap B d.length i j dk[i]! dk[j]! _ ?_ (by simpa using hi) (by simpa using hj) (cs i (by omega)).1 (cs i (by omega)).2 (cs j (by omega)).1 (cs j (by omega)).2
        rw [e, cell?_putRowK_other _ _ _ g 0 dk _ (by exact hBg), cell?_grow _ _ _ (by exact hBl)]
        exact hc0
      have hS := Any.sort_Slice_cells_sorted Tryz.lSlice 23 78 svT svE (by kernel_rfl) (by kernel_rfl) (by kernel_rfl) (by kernel_rfl) 25 (fun _ => by kernel_rfl) encW 2 (fun _ => rfl) (by kernel_rfl) (fun _ => by kernel_rfl)
        (fun x v hv => by simp [encW] at hv; rcases hv with rfl | rfl <;> rfl) (ltOf cmpW) swoW 57 #[.pointer (some ⟨B, 0, none⟩)]
        (enters_of Tryz.func57 (by kernel_rfl) rfl) g 0 cap d.toArray (by simpa using h2) (by simp; omega) 175 (by rw [svK _ (by simpa using h2)]; kernel_rfl) false
        (fun args W => run_callFunc_extern Tryz.func175 (by kernel_rfl) (by kernel_rfl) (by kernel_rfl) (e := Extern.ReflectliteSwapper.swap false) (by kernel_rfl) args W) w hless hH hg
      change Calls Tryz.prog 56 _ _ _ at hS
      rw [List.size_toArray] at hS
      refine hS.mono ?_
      rintro e w' ⟨rfl, d', n, os, hp, hs, rfl⟩
      have hpl : d'.toList.Perm d := by have := permIn_list (d := d.toArray) (by rw [List.size_toArray]; exact hp); simpa using this
      have hz : d'.size = d.length := by rw [hp.1, List.size_toArray]
      have hsl := sortedIn_list hz hs
      have hpo := put_owns ho (F := flatK encW 2 d') (by rw [size_flatK, hz]) n os
      rw [flatW] at hpo
      refine ⟨rfl, d'.toList, hpl, hsl, ⟨(hpo.2.block B hBl (fun e => hBg (by injection e))).trans h.blk, ?_, h.le⟩, hpo.2⟩
      rw [hpl.length_eq]
      exact hpo.1
  · obtain ⟨ad, cap, rfl⟩ := row_form h.row
    have h1 : d.length ≤ 1 := by omega
    have hf : ∃ f, Tryz.prog.funcs.findIdx? (·.name == "internal/reflectlite" ++ ".Swapper$" ++ toString (swapperK d.length svE 25)) = some f := by
      rcases Nat.le_one_iff_eq_zero_or_eq_one.1 h1 with e | e
      · rw [e]; exact ⟨167, by kernel_rfl⟩
      · rw [e]; exact ⟨168, by kernel_rfl⟩
    obtain ⟨f, hf⟩ := hf
    have hS := Any.sort_Slice_tiny Tryz.lSlice 23 78 svT svE (by kernel_rfl) (by kernel_rfl) (by kernel_rfl) (by kernel_rfl) 25 (fun _ => by kernel_rfl) ad d.length cap h1 f hf (.func 57) #[] #[.pointer (some ⟨B, 0, none⟩)] w
    change Calls Tryz.prog 56 _ _ _ at hS
    refine hS.mono ?_
    rintro e w' ⟨rfl, os, rfl⟩
    have hB : Below w.heap.size w (grow w os) := ⟨rfl, rfl, rfl, by simp, fun k hk => heap_grow_old w os hk⟩
    refine ⟨rfl, d, List.Perm.refl _, ?_, h.below hB, ⟨hB.os, hB.tape, hB.output, hB.size, fun k hk _ => hB.block k hk⟩⟩
    match d, h1 with
    | [], _ => exact List.Pairwise.nil
    | [_], _ => exact List.pairwise_singleton _ _
end Go.Proofs.YtjefgmeejhakbaaGreatDoor
