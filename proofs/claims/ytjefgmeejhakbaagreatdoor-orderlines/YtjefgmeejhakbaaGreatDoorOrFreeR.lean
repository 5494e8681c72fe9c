/- order.free. -/
import Derived.Test.YtjefgmeejhakbaaGreatDoorOrAheadR
import Derived.Maps.RangeWalk
namespace Go.Proofs.YtjefgmeejhakbaaGreatDoor
open Go.RowKit Go.Shelf Go.Lib Go.Sort
theorem sameKey_int (y x : Int) : (Lit.int .i64 y).sameKey (.int .i64 x) = decide (y = x) := by
  by_cases e : y = x
  · subst e; simp [Lit.sameKey]
  · rw [Maps.sameKey_ne (litNe e)]; simp [e]
theorem sortQ_any (N : Nat) (v : Value) (q : List Int) (w : World) (h : w.ownsRow N 3 1 v q.length (intsV q)) (hn : q.length ≤ 1000000) :
    Calls Tryz.prog 126 #[v] w fun e w' => e = .returned (.tuple #[]) ∧ ∃ q', q'.Perm q ∧ q'.Pairwise (· ≤ ·) ∧ w'.ownsRow N 3 1 v q.length (intsV q') ∧ w.grownBy w' v.ownBlock := by
  by_cases h0 : q = []
  · subst h0
    obtain ⟨ad, cap, rfl⟩ := row_form h
    have hc := AnyM.slices_Sort_int_none Tryz.lSortQ ad cap w
    change Calls Tryz.prog 126 _ _ _ at hc
    refine hc.mono ?_
    rintro e w' ⟨rfl, rfl⟩
    exact ⟨rfl, [], List.Perm.refl _, List.Pairwise.nil, h, ⟨rfl, rfl, rfl, Nat.le_refl _, fun _ _ _ => rfl⟩⟩
  · rcases row_slice h with ⟨_, e0⟩ | ⟨g, cap, rfl, hg, _⟩
    · exact (h0 (List.eq_nil_of_length_eq_zero e0)).elim
    · have hI : Holds id w g 0 (intsV q).toArray := holds_of_owns (by simpa using h)
      have hH : Holds (Value.int .i64) w g 0 q.toArray := fun j hj => by
        have hj' : j < q.length := by simpa using hj
        have := hI j (by simpa [intsV] using hj')
        simpa [intsV, hj'] using this
      have hc := AnyM.slices_Sort_int Tryz.lSortQ g 0 cap q w hH hg (by omega)
      change Calls Tryz.prog 126 _ _ _ at hc
      refine hc.mono ?_
      rintro e w' ⟨rfl, n, os, rfl⟩
      obtain ⟨q', hq'⟩ : ∃ q', q.mergeSort (fun x y => decide (x ≤ y)) = q' := ⟨_, rfl⟩
      have hp : q'.Perm q := hq' ▸ List.mergeSort_perm _ _
      have hs : q'.Pairwise (· ≤ ·) := by
        have := List.pairwise_mergeSort (le := fun x y : Int => decide (x ≤ y)) (fun a b c h1 h2 => ?_) (fun a b => ?_) q
        · rw [hq'] at this
          exact this.imp (fun {a b} hab => by simpa using hab)
        · simp at h1 h2 ⊢; omega
        · simp; omega
      have hl : q'.length = q.length := hp.length_eq
      have hpo := put_owns h (F := (intsV q').toArray) (by simp [intsV, hl]) n os
      refine ⟨rfl, q', hp, hs, ?_⟩
      rw [hq', putRow_ints]
      exact hpo
set_option maxRecDepth 100000 in
set_option maxHeartbeats 1000000 in
theorem free_any (b n : Nat) (M : Int → Option Int) (w : World) (hn : ∀ (q : List Int), q.Nodup → (∀ y ∈ q, M y ≠ none) → q.length ≤ 1000) (hI : IMap w b n (fun y => (M y).map (Value.int .i64))) :
    Calls Tryz.prog 69 #[.map (some b)] w fun e w' => ∃ v q, e = .returned v ∧ w'.ownsRow w.heap.size 3 1 v q.length (intsV q) ∧ q.Pairwise (· ≤ ·) ∧ q.Nodup ∧ (∀ y, y ∈ q ↔ M y = some 0) ∧ Below w.heap.size w w' := by
  obtain ⟨i0, hi0, hz0, hz1, hz2⟩ := info_parts info3
  obtain ⟨D, hD, hDf⟩ := hI
  have HD := hid hDf
  have HN := hid hn
  have hbl := hD.lt
  clear hDf hn
  go_enter Tryz.func69, Tryz.ntmps69
  go_wp2_with (at_range; refine wpList_range_own _ rfl _ 69 rfl 3 3 lawI Tryz.underlying69 _ b n D rfl hD ?_; intro w0 hrg0 hg0 hs0)
  go_loopw [3] (fun sv wr => ∃ left cnt out, wr.ranges Tryz.prog 3 anyElem b w.heap.size n D left cnt ∧ wr.ownsRow w.heap.size 3 1 sv out.length (intsV out) ∧ sv.ownBlock ≠ some w.heap.size ∧ (∀ y, y ∈ out ↔ M y = some 0 ∧ left (.int .i64 y) = false) ∧ out.Nodup ∧ (∀ kl, left kl = true → Maps.has D kl = true) ∧ Below w.heap.size w wr) (fun _ wr => wr.rangeLeft b w.heap.size)
  case atStart =>
    refine ⟨_, _, [], hrg0, World.ownsRow_nil _ _ _ _, (fun e => by cases e), fun y => ?_, List.nodup_nil, fun _ h => h, ⟨hg0.os, hg0.tape, hg0.output, hg0.size, fun k hk => hg0.block k hk (by simp)⟩⟩
    constructor
    · intro h; simp at h
    · rintro ⟨h1, h2⟩
      have := (HD.out y).1
      rw [h1] at this
      rw [this] at h2
      cases h2
  case round =>
    obtain ⟨left, cnt, out, hrg, ho, hne, hout, hnd, hle, hB⟩ := hrel
    have HR := hid (And.intro hrg (And.intro ho (And.intro hout (And.intro hnd (And.intro hle (And.intro hB hne))))))
    clear ho hout hnd hle hB hne
    go_wp2_with (at_next; refine wpList_next_ranges _ rfl _ rfl 3 lawI anyElem (Value.int .i64) (fun c : Value => c) (fun key kl hkey => by obtain ⟨x, rfl, _⟩ := Maps.keyOf_int_inv Tryz.underlying3 hkey; exact ⟨x, rfl⟩) (fun v y _ => ⟨v, rfl⟩) b w.heap.size n D left cnt rfl hrg ?_ ?_)
    · intro hc0 hl0
      have HL := hid hl0
      clear hc0 hl0 hrg
      obtain ⟨_, ho, hout, hnd, _, hB, _⟩ := HR.out
      have hlen := HN.out out hnd (fun y hy => by rw [((hout y).1 hy).1]; simp)
      have HC := hid (sortQ_any w.heap.size u3 out wr ho (by omega))
      clear ho hout hnd hB
      go_wp2_with fail
      refine HC.out.mono ?_
      rintro e w1 ⟨rfl, q, hp, hs, ho1, hg1⟩
      have H1 := hid (And.intro hp (And.intro hs (And.intro ho1 hg1)))
      clear hp hs ho1 hg1
      go_wp2
      go_ret
      obtain ⟨_, ho, hout, hnd, _, hB, _⟩ := HR.out
      obtain ⟨hp, hs, ho1, hg1⟩ := H1.out
      rw [← hp.length_eq] at ho1
      refine ⟨u3, q, rfl, ho1, hs, hp.nodup_iff.2 hnd, fun y => ?_, hB.grown hg1 hB.size (fun k e => (ho.lt k e).1)⟩
      rw [hp.mem_iff, hout y, HL.out]
      simp
    · intro x c kl ya yb w1 cnt1 hkey hlk hv hat hrg1 hlt hg1 hs1 hen
      obtain ⟨x', ex, rfl, hwx⟩ := Maps.keyOf_int_inv Tryz.underlying3 hkey
      cases ex
      obtain ⟨_, ho, hout, hnd, hle, hB, hne⟩ := HR.out
      have hhas := hle _ hlk
      have hD1 := HD.out x
      rw [hD1.1] at hhas
      obtain ⟨m, hm⟩ : ∃ m, M x = some m := by
        cases h : M x with
        | none => rw [h] at hhas; cases hhas
        | some m => exact ⟨m, rfl⟩
      have hcm : c = .int .i64 m := by
        have h1 := hD1.2 (.int .i64 m) (by rw [hm]; rfl) (.held c)
        rw [hat] at h1
        simp only [anyElem, Option.some.injEq, Prod.mk.injEq] at hv
        rw [← hv.1] at h1
        injection h1
      subst hcm
      have hBs := hB.size
      have hro : ∀ g, u3.ownBlock = some g → w1.heap[g]? = wr.heap[g]? := fun g e => hg1.block g (ho.lt g e).2 (fun e2 => by cases e2; exact hne e)
      have ho1 := owns_same ho hro
      have hB1 : Below w.heap.size w w1 := hB.grown hg1 hBs (fun k e => by cases e; exact Nat.le_refl _)
      have hle1 : ∀ kl, (left kl && !kl.sameKey (.int .i64 x)) = true → Maps.has D kl = true := fun kl h => hle kl (by simp at h; exact h.1)
      have hml : ∀ y, (left (.int .i64 y) && !(Lit.int .i64 y).sameKey (.int .i64 x)) = false ↔ left (.int .i64 y) = false ∨ y = x := fun y => by
        rw [sameKey_int]
        cases left (.int .i64 y) <;> simp
      have hxo : x ∉ out := fun h => by rw [((hout x).1 h).2] at hlk; cases hlk
      have H1 := hid (And.intro hrg1 (And.intro ho1 (And.intro hB1 (And.intro hle1 (And.intro hml (And.intro hxo (And.intro hout (And.intro hnd hne))))))))
      have HM := hid hm
      have hmeas := hrg1.left_eq
      have hmeas0 := hrg.left_eq
      have hlen := HN.out out hnd (fun y hy => by rw [((hout y).1 hy).1]; simp)
      have hB1s := hB1.size
      clear hrg ho hout hnd hle hB hne hkey hlk hv hat hwx hhas hD1 hm hro ho1 hB1 hle1 hml hxo hrg1 hg1 hs1
      by_cases hm0 : m = 0
      · subst hm0
        go_wp2_with (at_builtin; refine wpList_append_lies _ rfl _ _ _ rfl w.heap.size 3 i0 _ 1 8 Tryz.underlying144 hi0 hz0 hz1 hz2 rfl (by omega) u3 _ _ rfl (H1.out.2.1.alloc _) ⟨w1.heap.size, 0, none⟩ 1 1 [.int .i64 x] rfl rfl (World.news_of_block (cs := #[.int .i64 x]) (t := 3) (fr := (0, 0)) (heap_alloc_new w1 _)) (by simp [Value.oneCell']) (by omega) (by unfold maxLen; omega) (by omega) (by simp; omega) (w1.heap.size + 1) (by simp) ?_; intro g2 cap2 w2 ho2 hgrow2 hat2 hlt2)
        go_roundw
        case rel =>
          obtain ⟨hrg1, ho1, hB1, hle1, hml, hxo, hout, hnd, hne⟩ := H1.out
          have hrg2 := (hrg1.alloc (.cells #[.int .i64 x] 3)).kept hgrow2 (fun e => by have := (ho1.lt b e.symm).1; omega) (fun e => hne e.symm)
          refine ⟨_, cnt1, out ++ [x], hrg2, by rw [List.length_append, intsV_append]; exact ho2, fun e => ?_, fun y => ?_, List.nodup_append.2 ⟨hnd, by simp, fun a ha c hc e => by simp at hc; exact hxo (hc ▸ e ▸ ha)⟩, hle1, ?_⟩
          · have e3 : g2 = w.heap.size := by injection e
            rcases hat2 with e | e
            · exact hne (e3 ▸ e)
            · have := hB1.size
              omega
          · rw [List.mem_append, List.mem_singleton, hout y, hml y]
            by_cases e : y = x
            · subst e; simp [HM.out]
            · simp [e]
          · exact (hB1.alloc hB1s _).grown hgrow2 (by simp; omega) (fun k e => (ho1.lt k e).1)
        case measure =>
          have hrg2 := (H1.out.1.alloc (.cells #[.int .i64 x] 3)).kept hgrow2 (fun e => by have := (H1.out.2.1.lt b e.symm).1; omega) (fun e => H1.out.2.2.2.2.2.2.2.2 e.symm)
          rw [hrg2.left_eq, hmeas0]
          omega
      · have hb : (m == 0) = false := by simpa using hm0
        go_wp2
        go_roundw
        case rel =>
          obtain ⟨hrg1, ho1, hB1, hle1, hml, hxo, hout, hnd, hne⟩ := H1.out
          refine ⟨_, cnt1, out, hrg1, ho1, hne, fun y => ?_, hnd, hle1, hB1⟩
          rw [hout y, hml y]
          by_cases e : y = x
          · subst e
            rw [HM.out]
            simp [hm0]
          · simp [e]
        case measure =>
          rw [hmeas, hmeas0]
          omega
end Go.Proofs.YtjefgmeejhakbaaGreatDoor
