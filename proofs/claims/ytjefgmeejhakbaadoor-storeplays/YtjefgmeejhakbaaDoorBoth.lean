/- A store and the document's side by side: Install of any list, Read, Newer. -/
import Derived.Test.YtjefgmeejhakbaaDoorDocB
import Derived.Test.YtjefgmeejhakbaaDoorSameL
import Derived.Test.YtjefgmeejhakbaaDoorSwept
namespace Go.Proofs.YtjefgmeejhakbaaDoor
open Go.RowKit

structure Both (w : World) (base S R : Nat) (la lb : Int) (vs : List Value) (lv : Value) (ks : List (List (Int × Int))) (L : List (Int × Int × Int)) : Prop where
  a : Sto w base S la vs ks
  b : Ref w base R lb lv L
  ap : ∀ g, InRows vs g → lv.ownBlock ≠ some g
  ne : S ≠ R
  hb : base ≤ w.heap.size

section
variable {w w' : World} {base S R : Nat} {la lb : Int} {vs : List Value} {lv : Value} {ks : List (List (Int × Int))} {L : List (Int × Int × Int)}
theorem Both.below (h : Both w base S R la lb vs lv ks L) (hB : Below w.heap.size w w') : Both w' base S R la lb vs lv ks L :=
  ⟨h.a.below hB, h.b.below hB, h.ap, h.ne, Nat.le_trans h.hb hB.size⟩
theorem Both.left (h : Both w base S R la lb vs lv ks L) {la' : Int} {vs' : List Value} {ks' : List (List (Int × Int))} (hs : Sto w' base S la' vs' ks') (hk : Kept S vs vs' w w') : Both w' base S R la' lb vs' lv ks' L := by
  refine ⟨hs, ?_, ?_, h.ne, Nat.le_trans h.hb hk.size⟩
  · refine h.b.kept (hk.block R h.b.lt (fun e => h.ne e.symm) (fun hr => by have := (h.a.row hr).1; have := h.b.rb; omega)) (fun g hg => ?_)
    have hl := h.b.own.lt g hg
    exact hk.block g hl.2 (by have := h.a.sb; omega) (fun hr => h.ap g hr hg)
  · intro g hr hg
    rcases hk.sub g hr with h1 | h1
    · exact h.ap g h1 hg
    · have := (h.b.own.lt g hg).2; omega
theorem Both.right (h : Both w base S R la lb vs lv ks L) {lb' : Int} {lv' : Value} {L' : List (Int × Int × Int)} (hs : Ref w' base R lb' lv' L') (hk : KeptS R w w') (hg : ∀ g, lv'.ownBlock = some g → lv.ownBlock = some g ∨ w.heap.size ≤ g) : Both w' base S R la lb' vs lv' ks L' := by
  refine ⟨?_, hs, ?_, h.ne, Nat.le_trans h.hb hk.size⟩
  · exact h.a.kept (hk.block S h.a.lt h.ne) (fun g hr => hk.block g (h.a.row hr).2 (by have := (h.a.row hr).1; have := h.b.rb; omega))
  · intro g hr he
    rcases hg g he with h1 | h1
    · exact h.ap g hr h1
    · have := (h.a.row hr).2; omega
theorem Ref.sliceV (h : Ref w base R lb lv L) : ∃ ad cap, lv = .slice ad L.length cap := by
  rcases h.slice with ⟨e, rfl⟩ | ⟨g, cap, e, _⟩
  · exact ⟨none, 0, e⟩
  · exact ⟨_, _, e⟩
/-- An error's place is not in the document's store. -/
theorem ErrIs.keptR {ev : Value} {c p : Int} (h : ErrIs w ev c p) (hr : Ref w base R lb lv L) (hk : KeptS R w w') : ErrIs w' ev c p := by
  rcases h with h | h | ⟨pb, h1, h2, h3⟩
  · exact .inl h
  · exact .inr (.inl h)
  · have hl := World.block_lt_of_cell? w _ h2
    have hne : pb ≠ R := by
      rintro rfl
      have h4 := hr.c0
      rw [h2] at h4
      obtain ⟨ad, cap, e⟩ := hr.sliceV
      rw [e] at h4
      cases h4
    have hs := hk.block pb hl hne
    exact .inr (.inr ⟨pb, h1, (World.cell?_of_block (a := ⟨pb, 0, none⟩) hs).trans h2, (World.cell?_of_block (a := ⟨pb, 1, none⟩) hs).trans h3⟩)
end

/-- A list of writes that came in, below B. -/
def WList (W : World) (B : Nat) (u : Value) (ws : List (Int × Int)) : Prop :=
  (∃ ad cap, u = .slice ad 0 cap ∧ ws = []) ∨ ∃ b off cap, u = .slice (some ⟨b, off, none⟩) ws.length cap ∧ WRow W b off ws ∧ b < B
theorem WList.below {W W' : World} {B : Nat} {u : Value} {ws : List (Int × Int)} (h : WList W B u ws) (hB : Below B W W') : WList W' B u ws := by
  rcases h with h | ⟨b, off, cap, e, hr, hb⟩
  · exact .inl h
  · exact .inr ⟨b, off, cap, e, hr.same (hB.block b hb), hb⟩
theorem WList.of_kept {W W' : World} {B : Nat} {u : Value} {ws : List (Int × Int)} (h : WList W B u ws) (hs : ∀ b, b < B → W'.heap[b]? = W.heap[b]?) : WList W' B u ws := by
  rcases h with h | ⟨b, off, cap, e, hr, hb⟩
  · exact .inl h
  · exact .inr ⟨b, off, cap, e, hr.same (hs b hb), hb⟩
theorem inner_list {W : World} {u : Value} (h : Inner W u) : ∃ ad cap ws, u = .slice ad ws.length cap ∧ WList W W.heap.size u ws := by
  obtain ⟨ad, n, cap, rfl, hc⟩ := h
  rcases Nat.eq_zero_or_pos n with rfl | hn
  · exact ⟨ad, cap, [], rfl, .inl ⟨ad, cap, rfl, rfl⟩⟩
  · obtain ⟨b, off, k0, x0, rfl, c0, _⟩ := hc 0 hn
    have key : ∀ m, m ≤ n → ∃ ws : List (Int × Int), ws.length = m ∧ WRow W b off ws := by
      intro m
      induction m with
      | zero => exact fun _ => ⟨[], rfl, fun j a v e => by simp at e⟩
      | succ m ih =>
        intro hm
        obtain ⟨ws, hl, hr⟩ := ih (by omega)
        obtain ⟨b', off', k, x, e, c1, c2⟩ := hc m (by omega)
        cases e
        refine ⟨ws ++ [(k, x)], by simp [hl], fun j a v e => ?_⟩
        by_cases hj : j < ws.length
        · rw [List.getElem?_append_left hj] at e
          exact hr j a v e
        · have hjl := (List.getElem?_eq_some_iff.1 e).1
          simp only [List.length_append, List.length_singleton] at hjl
          have hje : j = m := by omega
          subst hje
          rw [← hl, List.getElem?_append_right (Nat.le_refl _), Nat.sub_self] at e
          cases e
          exact ⟨c1, c2⟩
    obtain ⟨ws, hl, hr⟩ := key n (Nat.le_refl _)
    subst hl
    exact ⟨_, cap, ws, rfl, .inr ⟨b, off, cap, rfl, hr, World.block_lt_of_cell? W _ c0⟩⟩

theorem install_any (base s B : Nat) (last t c p : Int) (vs : List Value) (ks : List (List (Int × Int))) (ws : List (Int × Int)) (u : Value) (w : World) (h : Sto w base s last vs ks) (hbase : base ≤ w.heap.size)
    (hu : WList w B u ws) (hBs : B ≤ s) (hBb : B ≤ base) (ho : Out last t ws c p) (hn : ws.length ≤ 1000) (hks : ∀ l ∈ ks, l.length ≤ 100000) :
    Calls Tryd.prog 9 #[.pointer (some ⟨s, 0, none⟩), .int .i64 t, u] w fun e w' => ∃ ev, e = .returned ev ∧ ErrIs w' ev c p ∧
      ∃ vs', Sto w' base s (aftT c t last) vs' (aftK c t ws ks) ∧ Kept s vs vs' w w' := by
  have hnr : ∀ b, b < B → ¬ InRows vs b := fun b hb hr => by have := (h.row hr).1; omega
  rcases ho with ⟨h1, rfl, rfl⟩ | ⟨h1, h2, i, q, h3, h4, h5, rfl⟩ | ⟨h1, h2, h3, rfl, rfl⟩
  · refine (install_order base s last t u vs ks w h h1).mono ?_
    rintro e w' ⟨rfl, rfl⟩
    exact ⟨_, rfl, .inr (.inl ⟨rfl, rfl⟩), vs, h, Kept.refl _ _ _⟩
  · have hc0 : c ≠ 0 := by rcases h5.ne with h | h <;> omega
    rcases hu with ⟨ad, cap, rfl, rfl⟩ | ⟨b, off, cap, rfl, hr, hb⟩
    · simp at h4
    · refine (install_bad base s b off cap i last t c vs ks ws q w h hr (by omega) h3 h4 h5 h1 h2 hn).mono ?_
      rintro e w' ⟨⟨pb, rfl, h6, h7⟩, hB⟩
      refine ⟨_, rfl, .inr (.inr ⟨pb, rfl, h6, h7⟩), vs, ?_, Kept.of_below hB⟩
      rw [aftT, aftK, if_neg hc0, if_neg hc0]
      exact h.below hB
  · rcases hu with ⟨ad, cap, rfl, rfl⟩ | ⟨b, off, cap, rfl, hr, hb⟩
    · refine (install_empty base s cap ad last t vs ks w h h1 h2).mono ?_
      rintro e w' ⟨rfl, vs', hs, hk⟩
      exact ⟨_, rfl, .inl ⟨rfl, rfl, rfl⟩, vs', hs, hk⟩
    · refine (install_good base s b off cap last t vs ks ws w h hbase hr (hnr b hb) (by omega) (by omega) h3 h1 h2 hn hks).mono ?_
      rintro e w' ⟨rfl, vs', hs, hk⟩
      exact ⟨_, rfl, .inl ⟨rfl, rfl, rfl⟩, vs', hs, hk⟩

theorem refInst_any (base R B : Nat) (last t c p : Int) (lv : Value) (L : List (Int × Int × Int)) (ws : List (Int × Int)) (u : Value) (w : World) (h : Ref w base R last lv L) (hbase : base ≤ w.heap.size)
    (hu : WList w B u ws) (hBs : B ≤ R) (ho : Out last t ws c p) (hn : ws.length ≤ 1000) (hlen : L.length ≤ 10000) :
    Calls Tryd.prog 10 #[.pointer (some ⟨R, 0, none⟩), .int .i64 t, u] w fun e w' => e = .returned (.agg #[.int .i64 c, .int .i64 p]) ∧
      ∃ lv', Ref w' base R (aftT c t last) lv' (aftL c t ws L) ∧ KeptS R w w' ∧ (∀ g, lv'.ownBlock = some g → lv.ownBlock = some g ∨ w.heap.size ≤ g) := by
  have hRl := h.lt
  rcases ho with ⟨h1, rfl, rfl⟩ | ⟨h1, h2, i, q, h3, h4, h5, rfl⟩ | ⟨h1, h2, h3, rfl, rfl⟩
  · refine (refInst_order base R last t lv u L w h h1).mono ?_
    rintro e w' ⟨rfl, hB⟩
    exact ⟨rfl, lv, h.below hB, KeptS.of_below hB, fun g e => .inl e⟩
  · have hc0 : c ≠ 0 := by rcases h5.ne with h | h <;> omega
    rcases hu with ⟨ad, cap, rfl, rfl⟩ | ⟨b, off, cap, rfl, hr, hb⟩
    · simp at h4
    · refine (refInst_bad base R b off cap i last t c lv L ws q w h hr (by omega) h3 h4 h5 h1 h2 hn).mono ?_
      rintro e w' ⟨rfl, hB⟩
      refine ⟨rfl, lv, ?_, KeptS.of_below hB, fun g e => .inl e⟩
      rw [aftT, aftL, if_neg hc0, if_neg hc0]
      exact h.below hB
  · rcases hu with ⟨ad, cap, rfl, rfl⟩ | ⟨b, off, cap, rfl, hr, hb⟩
    · refine (refInst_empty base R cap ad last t lv L w h h1 h2).mono ?_
      rintro e w' ⟨rfl, hs, hk⟩
      refine ⟨rfl, lv, ?_, hk, fun g e => .inl e⟩
      have e : aftL 0 t [] L = L := by simp [aftL, addTo, lastN]
      rw [e]
      exact hs
    · refine (refInst_good base R b off cap last t lv L ws w h hbase hr (by omega) (by omega) h3 h1 h2 hn hlen).mono ?_
      rintro e w' ⟨rfl, lv', hs, hk, hg⟩
      exact ⟨rfl, lv', hs, hk, hg⟩

theorem key_in {k : Int} : keyB k = inB k 0 9 := by
  rw [Bool.eq_iff_iff]
  simp [keyB, inB]
  omega

theorem reads_alike {last : Int} {ks : List (List (Int × Int))} {L : List (Int × Int × Int)} (h : Doc last ks L) (hL : L.length ≤ 100000) (k t : Int) : ∃ (a x ee : Int) (ev : Value),
    (∀ w base R l lv, Ref w base R l lv L → Calls Tryd.prog 13 #[.pointer (some ⟨R, 0, none⟩), .int .i64 k, .int .i64 t] w fun e w' => e = .returned (.tuple #[.agg #[.int .i64 a, .int .i64 x], .int .i64 ee]) ∧ Below w.heap.size w w') ∧
    (∀ w base S l vs, Sto w base S l vs ks → Calls Tryd.prog 14 #[.pointer (some ⟨S, 0, none⟩), .int .i64 k, .int .i64 t] w fun e w' => e = .returned (.tuple #[.agg #[.int .i64 a, .int .i64 x], ev]) ∧ Below w.heap.size w w') ∧
    (∀ w, ErrIs w ev ee (-1)) := by
  by_cases hk : inB k 0 9 = true
  · obtain ⟨n, rfl, hn⟩ := keyB_nat (key_in.trans hk)
    have hl := h.eq n hn
    have hb := best_sub n t L (h.rise n)
    have hlen : (sub (n : Int) L).length ≤ 1000000 := by have := sub_length n L; omega
    have hbd := lat_bounds (sub (n : Int) L) t
    by_cases h0 : 0 ≤ lat (sub (n : Int) L) t
    · obtain ⟨m, hm⟩ := Int.eq_ofNat_of_zero_le h0
      obtain ⟨⟨a, x⟩, hax⟩ : ∃ q, (sub (n : Int) L)[m]? = some q := ⟨(sub (n : Int) L)[m]'(by omega), List.getElem?_eq_getElem _⟩
      have hr := readP_some t _ m a x hm hax
      refine ⟨a, x, 0, .nilIface, fun w base R l lv hr' => ?_, fun w base S l vs hs => read_some base S n l t vs ks _ w hs hl hlen m hm a x hax, fun w => .inl ⟨rfl, rfl, rfl⟩⟩
      have := refRead_any base R n t l lv L w hk hL hr'
      rw [hb, hr] at this
      exact this
    · have hr := readP_none t (sub (n : Int) L) (by omega)
      refine ⟨0, 0, 8, .iface 38 (.int .i64 8), fun w base R l lv hr' => ?_, fun w base S l vs hs => read_none base S n l t vs ks _ w hs hl hlen (by omega), fun w => .inr (.inl ⟨rfl, rfl⟩)⟩
      have := refRead_any base R n t l lv L w hk hL hr'
      rw [hb, hr] at this
      exact this
  · have hk' : inB k 0 9 = false := by simpa using hk
    exact ⟨0, 0, 2, .iface 38 (.int .i64 2), fun w base R l lv _ => refRead_range R k t w hk', fun w base S l vs _ => read_range S k t w (key_in.trans hk'), fun w => .inr (.inl ⟨rfl, rfl⟩)⟩

theorem timesV_ints (l : List (Int × Int)) : timesV l = intsV (l.map fun x => x.1) := by simp [timesV, intsV]

theorem news_alike {last : Int} {ks : List (List (Int × Int))} {L : List (Int × Int × Int)} (h : Doc last ks L) (hL : L.length ≤ 100000) (k t : Int) : ∃ (l : List Int) (ee : Int) (ev : Value), l.length ≤ 100000 ∧
    (∀ w base R l' lv, Ref w base R l' lv L → Calls Tryd.prog 15 #[.pointer (some ⟨R, 0, none⟩), .int .i64 k, .int .i64 t] w fun e w' => ∃ tv, e = .returned (.tuple #[tv, .int .i64 ee]) ∧ w'.ownsRow w.heap.size 3 1 tv l.length (intsV l) ∧ Below w.heap.size w w') ∧
    (∀ w base S l' vs, Sto w base S l' vs ks → Calls Tryd.prog 16 #[.pointer (some ⟨S, 0, none⟩), .int .i64 k, .int .i64 t] w fun e w' => ∃ tv, e = .returned (.tuple #[tv, ev]) ∧ w'.ownsRow w.heap.size 3 1 tv l.length (intsV l) ∧ Below w.heap.size w w') ∧
    (∀ w, ErrIs w ev ee (-1)) := by
  by_cases hk : inB k 0 9 = true
  · obtain ⟨n, rfl, hn⟩ := keyB_nat (key_in.trans hk)
    have hl := h.eq n hn
    have hb := news_sub n t L (h.rise n)
    have hlen : (sub (n : Int) L).length ≤ 1000000 := by have := sub_length n L; omega
    refine ⟨newsR n t L, 0, .nilIface, by have := newsR_length n t L; omega, fun w base R l lv hr' => refNewer_any base R n t l lv L w hk hL (news_pair n t L (h.rise n)) hr', fun w base S l vs hs => ?_, fun w => .inl ⟨rfl, rfl, rfl⟩⟩
    have := newer_any base S n l t vs ks _ w hs hl hlen
    rw [timesV_ints, ← hb] at this
    have e : ((sub (n : Int) L).drop (lat (sub (n : Int) L) t + 1).toNat).length = (newsR n t L).length := by rw [hb, List.length_map]
    rw [e] at this
    exact this
  · have hk' : inB k 0 9 = false := by simpa using hk
    refine ⟨[], 2, .iface 38 (.int .i64 2), by simp, fun w base R l lv _ => ?_, fun w base S l vs _ => ?_, fun w => .inr (.inl ⟨rfl, rfl⟩)⟩
    · refine (refNewer_range R k t w hk').mono ?_
      rintro e w' ⟨rfl, rfl⟩
      exact ⟨_, rfl, World.ownsRow_nil _ _ _ _, Below.refl _ _⟩
    · refine (newer_range S k t w (key_in.trans hk')).mono ?_
      rintro e w' ⟨rfl, rfl⟩
      exact ⟨_, rfl, World.ownsRow_nil _ _ _ _, Below.refl _ _⟩

end Go.Proofs.YtjefgmeejhakbaaDoor
