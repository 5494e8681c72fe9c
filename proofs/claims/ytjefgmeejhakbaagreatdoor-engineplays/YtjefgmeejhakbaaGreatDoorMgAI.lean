/- EsInstErr FtAskB: put together for a claim. -/
import Derived.Test.YtjefgmeejhakbaaGreatDoorEsNewer
import Derived.Test.YtjefgmeejhakbaaGreatDoorFtAsk
/- (*Store).Install where something is wrong, or there is nothing to install. -/
namespace Go.Proofs.YtjefgmeejhakbaaGreatDoor
open Go.RowKit
variable {P : Tail}
set_option maxHeartbeats 1000000 in
theorem wrong_key (k v : Int) (w : World) (h1 : keyB k = false) :
    Calls Tryz.prog 131 #[.agg #[.int .i64 k, .int .i64 v]] w fun e w' => e = .returned (.int .i64 2) ∧ Below w.heap.size w w' := by
  go_enter Tryz.func131, Tryz.ntmps131
  go_wp2_with (go_at_call 159; refine (isKey_any _ _).mono ?_; rintro e w' ⟨rfl, rfl⟩)
  go_ret
  exact ⟨rfl, (Below.refl _ _).alloc (Nat.le_refl _) _⟩
set_option maxHeartbeats 1000000 in
theorem wrong_low (k v : Int) (w : World) (h1 : keyB k = true) (h2 : v < -1099511627776) :
    Calls Tryz.prog 131 #[.agg #[.int .i64 k, .int .i64 v]] w fun e w' => e = .returned (.int .i64 1) ∧ Below w.heap.size w w' := by
  go_enter Tryz.func131, Tryz.ntmps131
  go_wp2_with (go_at_call 159; refine (isKey_any _ _).mono ?_; rintro e w' ⟨rfl, rfl⟩)
  go_ret
  exact ⟨rfl, (Below.refl _ _).alloc (Nat.le_refl _) _⟩
set_option maxHeartbeats 1000000 in
theorem wrong_high (k v : Int) (w : World) (h1 : keyB k = true) (h2 : ¬ v < -1099511627776) (h3 : 1099511627776 < v) :
    Calls Tryz.prog 131 #[.agg #[.int .i64 k, .int .i64 v]] w fun e w' => e = .returned (.int .i64 1) ∧ Below w.heap.size w w' := by
  go_enter Tryz.func131, Tryz.ntmps131
  go_wp2_with (go_at_call 159; refine (isKey_any _ _).mono ?_; rintro e w' ⟨rfl, rfl⟩)
  go_ret
  exact ⟨rfl, (Below.refl _ _).alloc (Nat.le_refl _) _⟩
def Bad (p : Int × Int) (c : Int) : Prop := (keyB p.1 = false ∧ c = 2) ∨ (keyB p.1 = true ∧ (p.2 < -1099511627776 ∨ 1099511627776 < p.2) ∧ c = 1)
theorem Bad.ne {p : Int × Int} {c : Int} (h : Bad p c) : c = 2 ∨ c = 1 := by rcases h with h | h; exact .inl h.2; exact .inr h.2.2
theorem wrong_bad {k v c : Int} (w : World) (h : Bad (k, v) c) : Calls Tryz.prog 131 #[.agg #[.int .i64 k, .int .i64 v]] w fun e w' => e = .returned (.int .i64 c) ∧ Below w.heap.size w w' := by
  rcases h with ⟨h1, rfl⟩ | ⟨h1, h2, rfl⟩
  · exact wrong_key k v w h1
  · by_cases h3 : v < -1099511627776
    · exact wrong_low k v w h1 h3
    · exact wrong_high k v w h1 h3 (by rcases h2 with h | h; exact absurd h h3; exact h)
set_option maxRecDepth 100000 in
set_option maxHeartbeats 2000000 in
theorem install_order (base s : Nat) (last t : Int) (lv : Value) (vs : List Value) (ks : List (List (Int × Int))) (w : World) (h : Sto P w base s last vs ks) (ho : t ≤ last ∨ 1099511627776 < t) :
    Calls Tryz.prog 76 #[.pointer (some ⟨s, 0, none⟩), .int .i64 t, lv] w fun e w' => e = .returned (.iface 24 (.int .i64 10)) ∧ w' = w := by
  have hc0 := h.cellLast
  by_cases h1 : t ≤ last
  · go_enter Tryz.func76, Tryz.ntmps76
    go_wp2
    go_ret
    exact ⟨rfl, rfl⟩
  · have h2 : 1099511627776 < t := by omega
    go_enter Tryz.func76, Tryz.ntmps76
    go_wp2
    go_ret
    exact ⟨rfl, rfl⟩
set_option maxRecDepth 100000 in
set_option maxHeartbeats 2000000 in
theorem install_bad (base s b off cap i : Nat) (last t c : Int) (vs : List Value) (ks : List (List (Int × Int))) (ws : List (Int × Int)) (p : Int × Int) (w : World) (h : Sto P w base s last vs ks)
    (hws : WRow w b off ws) (hbl : b < w.heap.size) (hfine : ∀ p ∈ ws.take i, Fine p) (hi : ws[i]? = some p) (hbad : Bad p c) (h1 : last < t) (h2 : t ≤ 1099511627776) (hn : ws.length ≤ 1000) :
    Calls Tryz.prog 76 #[.pointer (some ⟨s, 0, none⟩), .int .i64 t, .slice (some ⟨b, off, none⟩) ws.length cap] w fun e w' =>
      (∃ pb, e = .returned (.iface 216 (.pointer (some ⟨pb, 0, none⟩))) ∧ w'.cell? ⟨pb, 0, none⟩ = some (.int .i64 c) ∧ w'.cell? ⟨pb, 1, none⟩ = some (.int .i64 (i : Int))) ∧ Below w.heap.size w w' := by
  have hc0 := h.cellLast
  have d1 : decide (t ≤ last) = false := by simp; omega
  have d2 : decide (1099511627776 < t) = false := by simp; omega
  have hil := (List.getElem?_eq_some_iff.1 hi).1
  have hcn := hbad.ne
  go_enter Tryz.func76, Tryz.ntmps76
  go_wp2
  go_loopw [25] (fun v wr => ∃ k : Nat, k ≤ i ∧ v = .int .i64 k ∧ Below w.heap.size w wr) (fun v _ => ws.length - (intOf v).toNat)
  case atStart => exact ⟨0, Nat.zero_le _, rfl, Below.refl _ _⟩
  case round =>
    obtain ⟨k, hk, rfl, hB⟩ := hrel
    have hBs := hB.size
    have hk0 : (0 : Int) ≤ (k : Int) := by omega
    have hk1 : (k : Int) < (ws.length : Int) := by omega
    by_cases hlt : k < i
    · obtain ⟨⟨a, v⟩, hav⟩ : ∃ p, ws[k]? = some p := ⟨ws[k], List.getElem?_eq_getElem (by omega)⟩
      obtain ⟨hf1, hf2, hf3⟩ := hfine (a, v) (List.mem_of_getElem? (show (ws.take i)[k]? = some (a, v) by rw [List.getElem?_take, if_pos hlt]; exact hav))
      obtain ⟨ca, cv⟩ := (hws.same (hB.block b hbl)) k a v hav
      simp only at hf1 hf2 hf3
      clear hav hi
      go_wp2_with (go_at_call 131; refine (wrong_good _ _ _ hf1 hf2 hf3).mono ?_; rintro e w' ⟨rfl, hb1⟩)
      go_roundw
      case rel => exact ⟨k + 1, by omega, by go_num, hB.trans (((Below.refl _ _).alloc hB.size _).trans (hb1.mono (by simp; omega)))⟩
      case measure => simp [intOf]; omega
    · have hki : k = i := by omega
      subst hki
      obtain ⟨a, v⟩ := p
      obtain ⟨ca, cv⟩ := (hws.same (hB.block b hbl)) k a v hi
      have hcz : (c != 0) = true := by rcases hcn with rfl | rfl <;> rfl
      have HBD := hid hbad
      clear hbad hi hcn
      go_wp2_with (go_at_call 131; refine (wrong_bad _ HBD.out).mono ?_; rintro e w1 ⟨rfl, hb1⟩)
      go_ret
      have hbw := hB.trans (((Below.refl wr.heap.size wr).alloc (Nat.le_refl _) (.cells #[.int .i64 a, .int .i64 v] 78)).mono hBs |>.trans (hb1.mono (by simp; omega)))
      refine ⟨⟨w1.heap.size, rfl, ?_, ?_⟩, hbw.alloc hbw.size _⟩
      · exact (cell_of_row _ _ 0 _ 217 (0, 0) (World.alloc_heap_new w1 _)).trans rfl
      · exact (cell_of_row _ _ 1 _ 217 (0, 0) (World.alloc_heap_new w1 _)).trans rfl
set_option maxRecDepth 100000 in
set_option maxHeartbeats 2000000 in
theorem install_empty (base s cap : Nat) (ad : Option Addr) (last t : Int) (vs : List Value) (ks : List (List (Int × Int))) (w : World) (h : Sto P w base s last vs ks) (h1 : last < t) (h2 : t ≤ 1099511627776) :
    Calls Tryz.prog 76 #[.pointer (some ⟨s, 0, none⟩), .int .i64 t, .slice ad 0 cap] w fun e w' => e = .returned .nilIface ∧
      ∃ vs', Sto P w' base s t vs' ks ∧ Kept s vs vs' w w' := by
  have hc0 := h.cellLast
  have hf0 := h.free 0
  have d1 : decide (t ≤ last) = false := by simp; omega
  have d2 : decide (1099511627776 < t) = false := by simp; omega
  go_enter Tryz.func76, Tryz.ntmps76
  go_wp2
  go_loop [25] (fun i => i = .int .i64 0) (fun _ => 0)
  case atStart => rfl
  case round =>
    subst hrel
    go_wp2
    go_loop [42] (fun i => i = .int .i64 0) (fun _ => 0)
    case atStart => rfl
    case round =>
      subst hrel
      go_wp2
      go_ret
      exact ⟨rfl, vs, (h.setLast t).1, (h.setLast t).2⟩
end Go.Proofs.YtjefgmeejhakbaaGreatDoor

/- (*interleafref.Table).Ask where the key is held by another. -/
namespace Go.Proofs.YtjefgmeejhakbaaGreatDoor
open Go.RowKit
variable {F : FEmb}
def moreP (T : Tab) (tx k : Int) (A : Bool) : Bool × Int × Tab := match A with
  | true => (false, 11, T)
  | false => (false, 0, updT T k (T k ++ [tx]))
set_option maxRecDepth 100000 in
set_option maxHeartbeats 8000000 in
theorem rask_more (base r : Nat) (vs : List Value) (T : Tab) (q : Int → Nat) (tx : Int) (j : Nat) (w : World) (h : RTab F w base r vs T) (hT : Tidy0 T) (hq : Ranked T q) (hj : j < 10) (htx : 1 ≤ tx) (hbase : base ≤ w.heap.size) (hlen : ∀ k, (T k).length ≤ 100000)
    (hw : waitsP T tx = -1) (hn : T j ≠ []) (hne : holdsP T j ≠ tx) :
    Calls Tryz.prog 140 #[.pointer (some ⟨r, 2, none⟩), .int .i64 tx, .int .i64 (j : Int)] w (RAskPost F base r vs (moreP T tx j (reachP T tx (q (holdsP T j) + 1) (holdsP T j))) w) := by
  obtain ⟨i0, hi0, hz0, hz1, hz2⟩ := info_parts info3
  have hin : inB (j : Int) 0 9 = true := by simp [inB]; omega
  have hcw := rwaits_any base r vs T tx w h hT (fun k => by have := hlen k; omega)
  have hch := rholds_any base r vs T (j : Int) w h hT
  rw [hw] at hcw
  have hy1 := holds_pos hT hn
  obtain ⟨y, hy⟩ : ∃ y, holdsP T j = y := ⟨_, rfl⟩
  rw [hy] at hch hy1 hne ⊢
  obtain ⟨v, hv, ho⟩ := h.at hj
  have cv := h.cell hv
  have hpos : 0 < (T j).length := List.length_pos_iff.2 hn
  have hlj := hlen j
  rcases row_slice ho with ⟨_, e0⟩ | ⟨gz, cz, rfl, hgz, hcz⟩
  · omega
  have fv := h.free (2 + j)
  have hr := h.lt
  have HCW := hid hcw
  have HCH := hid hch
  have HR := hid h
  have HWX := hid (fun x => rwaits_any base r vs T x w h hT (fun k => by have := hlen k; omega))
  have HHX := hid (fun k => rholds_any base r vs T k w h hT)
  have HQ := hid hq
  have HT := hid hT
  have g3 : ¬ tx < 1 := by omega
  have e0 : (y == tx) = false := by simpa using hne
  have e1 : (y == 0) = false := by simp; omega
  have hj0 : (0 : Int) ≤ (j : Int) := by omega
  have hj1 : (j : Int) < 10 := by omega
  obtain ⟨M, hM⟩ : ∃ M, (T j).length = M := ⟨_, rfl⟩
  rw [hM] at cv hpos hlj
  have HML := hid hM
  have HCZ := hid hcz
  obtain ⟨A, hA⟩ : ∃ A, reachP T tx (q y + 1) y = A := ⟨_, rfl⟩
  rw [hA]
  have HA := hid hA
  clear hcw hch h hT hw hn ho hv hlen hM hcz hq hy hA
  go_enter Tryz.func140, Tryz.ntmps140
  go_wp2_with (first
    | (go_at_call 54; refine (in_any _ _ _ _).mono ?_; rintro e w' ⟨rfl, hw'⟩; rw [hw']; clear hw' w')
    | (go_at_call 148; refine HCW.out.mono ?_; rintro e w' ⟨rfl, hw'⟩; rw [hw']; clear hw' w')
    | (go_at_call 147; refine HCH.out.mono ?_; rintro e w' ⟨rfl, hw'⟩; rw [hw']; clear hw' w'))
  go_loop [9] (fun v => ∃ x : Int, v = .int .i64 x ∧ 1 ≤ x ∧ Hid (∃ m, q x < m ∧ reachP T tx m x = A)) (fun v => q (intOf v))
  case atStart => exact ⟨y, rfl, hy1, q y + 1, by omega, HA.out⟩
  case round =>
    obtain ⟨x, rfl, hx1, HM⟩ := hrel
    have ex : (x != 0) = true := by simp; omega
    obtain ⟨m, hm1, hm2⟩ := HM.out
    obtain ⟨m, rfl⟩ : ∃ m', m = m' + 1 := ⟨m - 1, by omega⟩
    rw [reachP] at hm2
    have hcx := HWX.out x
    by_cases hw : waitsP T x < 0
    · rw [if_pos hw] at hm2
      have hw1 : waitsP T x = -1 := by rcases waits_cases T x with e | e <;> omega
      rw [hw1] at hcx
      have HCX := hid hcx
      subst hm2
      have hO1 := hid (World.ownsRow_made (base := w.heap.size) (e := 3) (size := 1) w #[] 0 (Nat.le_refl _) (by simp [maxLen]) rfl)
      have hO3 := hid (World.ownsRow_made (base := w.heap.size) (e := 3) (size := 1) (w.alloc (.cells #[.int .i64 tx] 3)) #[] 0 (by simp) (by simp [maxLen]) rfl)
      have hN2 := hid (show ((w.alloc (.cells #[] 3)).alloc (.cells #[.int .i64 tx] 3)).heap[w.heap.size + 1]? = some (.cells #[.int .i64 tx] 3) by have := heap_alloc_new (w.alloc (.cells #[] 3)) (.cells #[.int .i64 tx] 3); rwa [World.size_alloc] at this)
      have hN3 := hid (show ((w.alloc (.cells #[.int .i64 tx] 3)).alloc (.cells #[] 3)).heap[w.heap.size]? = some (.cells #[.int .i64 tx] 3) from (Below.heap_alloc _ _ w.heap.size (by simp)).trans (heap_alloc_new w _))
      have hcA := hid (fun (o : Obj) (j2 : Nat) (u : Value) (hu : (intsV (T j))[j2]? = some u) => show (w.alloc o).cell? ((⟨gz, 0, none⟩ : Addr).add j2) = some u by
        rw [addr_add]
        exact (World.cell?_of_block (a := ⟨gz, j2, none⟩) (Below.heap_alloc w o gz hgz)).trans (HCZ.out j2 u hu))
      have hcB := hid (fun (o o' : Obj) (j2 : Nat) (u : Value) (hu : (intsV (T j))[j2]? = some u) => show ((w.alloc o).alloc o').cell? ((⟨gz, 0, none⟩ : Addr).add j2) = some u by
        rw [addr_add]
        exact (World.cell?_of_block (a := ⟨gz, j2, none⟩) ((Below.heap_alloc _ o' gz (by simp; omega)).trans (Below.heap_alloc w o gz hgz))).trans (HCZ.out j2 u hu))
      have HIL := hid (show (intsV (T j)).length = M * 1 by rw [intsV_length, HML.out]; omega)
      have hk1 := intsV_one (T j)
      clear hcx hw1 hw hm1 HM
      go_wp2_with (go_at_call 148; refine HCX.out.mono ?_; rintro e w' ⟨rfl, hw'⟩; rw [hw']; clear hw' w')
      go_region_law
        (first
          | (refine step_append_lies _ (by rfl) _ _ _ (by rfl) w.heap.size 3 i0 _ 1 8 Tryz.underlying29 hi0 hz0 hz1 hz2 rfl (by omega) (.slice (some ⟨w.heap.size, 0, none⟩) 0 0) 0 [] (by rfl) (hO1.out.drew) ⟨gz, 0, none⟩ M cz (intsV (T j)) (by rfl) HIL.out (fun j2 u hu => hcA.out (.cells #[] 3) j2 u hu) hk1 hpos (by unfold maxLen; omega) (by omega) (by simp <;> omega) (w.heap.size + 1) (by simp) ?_
             intro g1 cap1 w1 hown1 hgrow1 hat1 hlt1
             rw [Nat.zero_add] at hown1 ⊢
             rw [List.nil_append] at hown1
             have hBB1 : Below w.heap.size w w1 := ((((Below.refl _ w).alloc (Nat.le_refl _) _).drew)).grown hgrow1 (by simp) (fun k e => by cases e; exact Nat.le_refl _)
             have cR1 : w1.cell? ⟨r, 2 + j, none⟩ = some (.slice (some ⟨gz, 0, none⟩) M cz) := (hBB1.cell (p := ⟨r, 2 + j, none⟩) hr).trans cv)
          | (refine step_append_lies _ (by rfl) _ _ _ (by rfl) w.heap.size 3 i0 _ 1 8 Tryz.underlying29 hi0 hz0 hz1 hz2 rfl (by omega) (.slice (some ⟨w.heap.size, 0, none⟩) 0 0) 0 [] (by rfl) ((hO1.out.alloc (.cells #[.int .i64 tx] 3)).drew) ⟨gz, 0, none⟩ M cz (intsV (T j)) (by rfl) HIL.out (fun j2 u hu => hcB.out (.cells #[] 3) (.cells #[.int .i64 tx] 3) j2 u hu) hk1 hpos (by unfold maxLen; omega) (by omega) (by simp <;> omega) (w.heap.size + 1 + 1) (by simp) ?_
             intro g1 cap1 w1 hown1 hgrow1 hat1 hlt1
             rw [Nat.zero_add] at hown1 ⊢
             rw [List.nil_append] at hown1
             have hBB1 : Below w.heap.size w w1 := (((((Below.refl _ w).alloc (Nat.le_refl _) _).alloc (by simp) _).drew)).grown hgrow1 (by simp <;> omega) (fun k e => by cases e; exact Nat.le_refl _)
             have hsrc : w1.heap[w.heap.size + 1]? = some (.cells #[.int .i64 tx] 3 (0, 0)) := (hgrow1.block (w.heap.size + 1) (by simp) (by simp [Value.ownBlock])).trans hN2.out
             have cR1 : w1.cell? ⟨r, 2 + j, none⟩ = some (.slice (some ⟨gz, 0, none⟩) M cz) := (hBB1.cell (p := ⟨r, 2 + j, none⟩) hr).trans cv)
          | (refine step_append_lies _ (by rfl) _ _ _ (by rfl) w.heap.size 3 i0 _ 1 8 Tryz.underlying29 hi0 hz0 hz1 hz2 rfl (by omega) (.slice (some ⟨w.heap.size + 1, 0, none⟩) 0 0) 0 [] (by rfl) (by have := hO3.out.drew; rw [World.size_alloc] at this; exact this) ⟨gz, 0, none⟩ M cz (intsV (T j)) (by rfl) HIL.out (fun j2 u hu => hcB.out (.cells #[.int .i64 tx] 3) (.cells #[] 3) j2 u hu) hk1 hpos (by unfold maxLen; omega) (by omega) (by simp <;> omega) (w.heap.size + 1 + 1) (by simp) ?_
             intro g1 cap1 w1 hown1 hgrow1 hat1 hlt1
             rw [Nat.zero_add] at hown1 ⊢
             rw [List.nil_append] at hown1
             have hBB1 : Below w.heap.size w w1 := (((((Below.refl _ w).alloc (Nat.le_refl _) _).alloc (by simp) _).drew)).grown hgrow1 (by simp <;> omega) (fun k e => by cases e; simp)
             have hsrc : w1.heap[w.heap.size]? = some (.cells #[.int .i64 tx] 3 (0, 0)) := (hgrow1.block w.heap.size (by simp <;> omega) (by simp [Value.ownBlock])).trans hN3.out
             have cR1 : w1.cell? ⟨r, 2 + j, none⟩ = some (.slice (some ⟨gz, 0, none⟩) M cz) := (hBB1.cell (p := ⟨r, 2 + j, none⟩) hr).trans cv)
          | (refine step_append_lies _ (by rfl) _ _ _ (by rfl) w.heap.size 3 i0 _ 1 8 Tryz.underlying29 hi0 hz0 hz1 hz2 rfl (by omega) (.slice (some ⟨g1, 0, none⟩) M cap1) M (intsV (T j)) (by rfl) (hown1.alloc _) ⟨w1.heap.size, 0, none⟩ 1 1 [.int .i64 tx] (by rfl) (by rfl) (World.news_of_block (cs := #[.int .i64 tx]) (t := 3) (fr := (0, 0)) (heap_alloc_new w1 _)) (by simp [Value.oneCell']) (by omega) (by unfold maxLen; omega) (by omega) (by have := hBB1.size; simp <;> omega) (w1.heap.size + 1) (by simp) ?_
             intro g2 cap2 w2 hown2 hgrow2 hat2 hlt2
             have hBB2 : Below w.heap.size w w2 := (hBB1.alloc hBB1.size _).grown hgrow2 (by have := hBB1.size; simp <;> omega) (fun k e => (hown1.lt k e).1)
             have fR2 : w2.frozen? ⟨r, 2 + j, none⟩ = false := (hBB2.frozen (p := ⟨r, 2 + j, none⟩) hr).trans fv
             have cR2 : w2.cell? ⟨r, 2 + j, none⟩ = some (.slice (some ⟨gz, 0, none⟩) M cz) := (hBB2.cell (p := ⟨r, 2 + j, none⟩) hr).trans cv)
          | (refine step_append_lies _ (by rfl) _ _ _ (by rfl) w.heap.size 3 i0 _ 1 8 Tryz.underlying29 hi0 hz0 hz1 hz2 rfl (by omega) (.slice (some ⟨g1, 0, none⟩) M cap1) M (intsV (T j)) (by rfl) hown1 ⟨_, 0, none⟩ 1 1 [.int .i64 tx] (by rfl) (by rfl) (World.news_of_block (cs := #[.int .i64 tx]) (t := 3) (fr := (0, 0)) hsrc) (by simp [Value.oneCell']) (by omega) (by unfold maxLen; omega) (by omega) hBB1.size w1.heap.size rfl ?_
             intro g2 cap2 w2 hown2 hgrow2 hat2 hlt2
             have hBB2 : Below w.heap.size w w2 := hBB1.grown hgrow2 hBB1.size (fun k e => (hown1.lt k e).1)
             have fR2 : w2.frozen? ⟨r, 2 + j, none⟩ = false := (hBB2.frozen (p := ⟨r, 2 + j, none⟩) hr).trans fv
             have cR2 : w2.cell? ⟨r, 2 + j, none⟩ = some (.slice (some ⟨gz, 0, none⟩) M cz) := (hBB2.cell (p := ⟨r, 2 + j, none⟩) hr).trans cv)
          | fail)
      all_goals
        have HF := hid (HR.out.put (k := j) (l := T j ++ [tx]) hj hBB2 hbase (by rw [intsV_append, List.length_append, HML.out]; exact hown2) (by simp))
        clear hown2 hgrow2 hat2 hBB2 fR2 cR2 cv fv hown1 hgrow1 hat1 hBB1 cR1
        go_wp2
        go_ret2
        exact ⟨rfl, _, HF.out⟩
    · rw [if_neg hw] at hm2
      have hlt := HQ.out _ _ (mem_of_waits (T := T) (x := x) (by omega))
      have hz1 := holds_of_waits HT.out (x := x) (by omega)
      obtain ⟨k, hk⟩ : ∃ k, waitsP T x = k := ⟨_, rfl⟩
      rw [hk] at hm2 hlt hz1 hcx hw
      have hcz := HHX.out k
      obtain ⟨z, hz⟩ : ∃ z, holdsP T k = z := ⟨_, rfl⟩
      rw [hz] at hm2 hlt hz1 hcz
      have HCX := hid hcx
      have HZ := hid hcz
      have ek : ¬ k < 0 := hw
      have HLT := hid hlt
      by_cases hzt : z = tx
      · rw [if_pos hzt] at hm2
        subst hm2
        subst hzt
        have ez : (z == z) = true := by simp
        have HTB := hid HR.out
        clear hk hz hcx hcz hw hm1 HM hlt
        go_wp2_with (first
          | (go_at_call 148; refine HCX.out.mono ?_; rintro e w' ⟨rfl, hw'⟩; rw [hw']; clear hw' w')
          | (go_at_call 147; refine HZ.out.mono ?_; rintro e w' ⟨rfl, hw'⟩; rw [hw']; clear hw' w'))
        go_ret2
        exact ⟨rfl, vs, HTB.out, KeptR.refl _ _ _⟩
      · rw [if_neg hzt] at hm2
        have ez : (z == tx) = false := by simpa using hzt
        have HM2 := hid (show ∃ m, q z < m ∧ reachP T tx m z = A from ⟨m, by omega, hm2⟩)
        clear hk hz hcx hcz hw hm1 HM hlt hm2
        go_wp2_with (first
          | (go_at_call 148; refine HCX.out.mono ?_; rintro e w' ⟨rfl, hw'⟩; rw [hw']; clear hw' w')
          | (go_at_call 147; refine HZ.out.mono ?_; rintro e w' ⟨rfl, hw'⟩; rw [hw']; clear hw' w'))
        go_round
        case rel => exact ⟨z, rfl, hz1, HM2⟩
        case measure => simpa [intOf] using HLT.out
end Go.Proofs.YtjefgmeejhakbaaGreatDoor
