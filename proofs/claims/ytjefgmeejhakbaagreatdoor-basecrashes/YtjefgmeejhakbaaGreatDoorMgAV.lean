/- BsReady BsBase BsWent KtTurn: put together for a claim. -/
import Derived.Test.YtjefgmeejhakbaaGreatDoorMgAU
/- engine.Ready. -/
namespace Go.Proofs.YtjefgmeejhakbaaGreatDoor
open Go.RowKit

section
variable {w w' : World} {L : EnL} {E : Eng}
set_option maxRecDepth 100000 in
theorem ready_shut (h : EnAt w L E) {n c : Int} (hc : (c = 7 ∧ (n < 1 ∨ (E.txs.length : Int) < n)) ∨ (c = 6 ∧ ∃ (i : Nat) (t : Tx), n = (i : Int) + 1 ∧ E.txs[i]? = some t ∧ t.state ≠ 0)) :
    Calls Tryz.prog 84 #[.pointer (some ⟨L.s, 0, none⟩), .int .i64 n] w fun e w' => e = .returned (.iface 24 (.int .i64 c)) ∧ w' = w := by
  have HO : Hid (Calls Tryz.prog 102 #[.pointer (some ⟨L.s, 0, none⟩), .int .i64 n] w fun e w' => e = .returned (.tuple #[.pointer none, .iface 24 (.int .i64 c)]) ∧ w' = w) := by
    rcases hc with ⟨rfl, hn⟩ | ⟨rfl, i, t, rfl, ht, hs⟩
    · exact open_err h hn
    · obtain ⟨l, hl, _⟩ := h.get ht
      exact open_state h hl ht hs
  have hne : ∀ w, (binOp .neq 33 (.iface 24 (.int .i64 c)) .nilIface).run Tryz.prog w = .ok (.bool true) w := fun _ => by kernel_rfl
  clear h hc
  go_enter Tryz.func84, Tryz.ntmps84
  go_wp2_with fail
  refine HO.out.mono ?_
  rintro e w1 ⟨rfl, hw1⟩
  rw [hw1]
  clear hw1 w1 HO
  go_wp2
  go_ret
  exact ⟨rfl, rfl⟩
set_option maxRecDepth 100000 in
theorem ready_main (h : EnAt w L E) {i : Nat} {t : Tx} (ht : E.txs[i]? = some t) (hs : t.state = 0) :
    Calls Tryz.prog 84 #[.pointer (some ⟨L.s, 0, none⟩), .int .i64 ((i : Int) + 1)] w fun e w' => e = .returned (if betB t.ahead t.behind = true then .iface 24 (.int .i64 13) else .nilIface) ∧ w' = w := by
  obtain ⟨l, hl, hA⟩ := h.get ht
  have HO := hid (open_ok h hl ht hs)
  have HB := hid (between_any l.b l.ab l.hb 201 201 t.ahead t.behind w hA.c20 hA.c21 hA.ah hA.be)
  cases hb : betB t.ahead t.behind with
  | true =>
    rw [hb] at HB
    clear h hl ht hs hA hb
    go_enter Tryz.func84, Tryz.ntmps84
    go_wp2_with fail
    refine HO.out.mono ?_
    rintro e w1 ⟨rfl, hw1⟩
    rw [hw1]
    clear hw1 w1 HO
    go_wp2_with fail
    refine HB.out.mono ?_
    rintro e w1 ⟨rfl, hw1⟩
    rw [hw1]
    clear hw1 w1 HB
    go_wp2
    go_ret
    exact ⟨rfl, rfl⟩
  | false =>
    rw [hb] at HB
    clear h hl ht hs hA hb
    go_enter Tryz.func84, Tryz.ntmps84
    go_wp2_with fail
    refine HO.out.mono ?_
    rintro e w1 ⟨rfl, hw1⟩
    rw [hw1]
    clear hw1 w1 HO
    go_wp2_with fail
    refine HB.out.mono ?_
    rintro e w1 ⟨rfl, hw1⟩
    rw [hw1]
    clear hw1 w1 HB
    go_wp2
    go_ret
    exact ⟨rfl, rfl⟩
end

end Go.Proofs.YtjefgmeejhakbaaGreatDoor

/- A base in memory, and its small methods. -/
namespace Go.Proofs.YtjefgmeejhakbaaGreatDoor
open Go.RowKit

/-- A base: its engine, its disk, what it has of itself. -/
structure BasAt (w : World) (b d : Nat) (L : EnL) (E : Eng) (dv : List Value) (D : Dsk) (used torn : Int) (down : Bool) : Prop where
  bas : w.heap[b]? = some (.cells (basCells d L.s used torn down) 193 (0, 0))
  dsk : DiskAt w d dv D
  en : EnAt w L E
  sepb : ¬ L.own b
  sepd : ∀ g, dOwn d dv g → ¬ L.own g ∧ g ≠ b
section
variable {w w' : World} {b d : Nat} {L L' : EnL} {E E' : Eng} {dv dv' : List Value} {D D' : Dsk} {used torn : Int} {down : Bool}
theorem BasAt.lt (h : BasAt w b d L E dv D used torn down) : b < w.heap.size := (Array.getElem?_eq_some_iff.1 h.bas).1
theorem BasAt.cell (h : BasAt w b d L E dv D used torn down) (o : Nat) : w.cell? ⟨b, o, none⟩ = (basCells d L.s used torn down)[o]? := cell_of_row w b o _ _ (0, 0) h.bas
theorem BasAt.free (h : BasAt w b d L E dv D used torn down) (o : Nat) : w.frozen? ⟨b, o, none⟩ = false := by simp [World.frozen?, h.bas]
theorem BasAt.below (h : BasAt w b d L E dv D used torn down) (hB : Below w.heap.size w w') : BasAt w' b d L E dv D used torn down :=
  ⟨(hB.block b h.lt).trans h.bas, h.dsk.below hB, h.en.below hB, h.sepb, h.sepd⟩
theorem BasAt.drewN (h : BasAt w b d L E dv D used torn down) (q : Nat) : BasAt (w.drewN q) b d L E dv D used torn down := h.below (below_drewN (Below.refl _ w) q)
/-- The engine alone was turned. -/
theorem BasAt.turn (h : BasAt w b d L E dv D used torn down) (hE : EnAt w' L' E') (hK : KeptO L.own L'.own w w') (hs : L'.s = L.s) : BasAt w' b d L' E' dv D used torn down := by
  refine ⟨?_, ?_, hE, ?_, ?_⟩
  · rw [hs]; exact (hK.block b h.lt h.sepb).trans h.bas
  · exact h.dsk.same hK.size (fun g hg => hK.block g (h.dsk.own_lt hg) (h.sepd g hg).1)
  · intro ho
    rcases hK.sub b ho with h1 | h1
    · exact h.sepb h1
    · have := h.lt; omega
  · intro g hg
    refine ⟨fun ho => ?_, (h.sepd g hg).2⟩
    rcases hK.sub g ho with h1 | h1
    · exact (h.sepd g hg).1 h1
    · have := h.dsk.own_lt hg; omega
theorem BasAt.post (h : BasAt w b d L E dv D used torn down) (hP : EnPost L E' w w') : ∃ L', BasAt w' b d L' E' dv D used torn down ∧ KeptO L.own L'.own w w' ∧ L'.s = L.s := by
  obtain ⟨L', hE, hK, hs, _⟩ := hP
  exact ⟨L', h.turn hE hK hs, hK, hs⟩
/-- A cell of its own was turned. -/
theorem BasAt.setOwn (h : BasAt w b d L E dv D used torn down) {o : Nat} {v : Value} {used' torn' : Int} {down' : Bool} (hc : (basCells d L.s used torn down).setIfInBounds o v = basCells d L.s used' torn' down') : BasAt (w.setCell ⟨b, o, none⟩ v) b d L E dv D used' torn' down' := by
  have hb : ∀ k, k ≠ b → (w.setCell ⟨b, o, none⟩ v).heap[k]? = w.heap[k]? := fun k hk => heap_setCell_other _ _ _ _ hk
  refine ⟨(setCell_at h.bas).trans (by rw [hc]), h.dsk.same (by simp) (fun g hg => hb g (h.sepd g hg).2), h.en.same (fun g hg => hb g (fun e => h.sepb (e ▸ hg))), h.sepb, h.sepd⟩
/-- The disk was turned. -/
theorem BasAt.setDisk (h : BasAt w b d L E dv D used torn down) (hD : DiskAt w' d dv' D') (ho : ∀ g, dOwn d dv' g → dOwn d dv g ∨ w.heap.size ≤ g) (hk : ∀ k, k < w.heap.size → k ≠ d → w'.heap[k]? = w.heap[k]?) : BasAt w' b d L E dv' D' used torn down := by
  have hbd : b ≠ d := fun e => (h.sepd d (.inl rfl)).2 e.symm
  refine ⟨(hk b h.lt hbd).trans h.bas, hD, h.en.same (fun g hg => hk g (h.en.own_lt hg) (fun e => (h.sepd d (.inl rfl)).1 (e ▸ hg))), h.sepb, fun g hg => ?_⟩
  rcases ho g hg with h1 | h1
  · exact h.sepd g h1
  · exact ⟨fun ho => by have := h.en.own_lt ho; omega, fun e => by have := h.lt; omega⟩
end

section
variable {w : World} {b d : Nat} {L : EnL} {E : Eng} {dv : List Value} {D : Dsk} {used torn : Int} {down : Bool}
set_option maxRecDepth 100000 in
theorem bengine_any (h : BasAt w b d L E dv D used torn down) : Calls Tryz.prog 39 #[.pointer (some ⟨b, 0, none⟩)] w fun e w' => e = .returned (.pointer (some ⟨L.s, 0, none⟩)) ∧ w' = w := by
  have c1 := h.cell 1
  simp only [basCells, List.getElem?_toArray, List.getElem?_cons_zero, List.getElem?_cons_succ] at c1
  clear h
  go_enter Tryz.func39, Tryz.ntmps39
  go_wp2
  go_ret
  exact ⟨rfl, rfl⟩
set_option maxRecDepth 100000 in
theorem bdown_any (h : BasAt w b d L E dv D used torn down) : Calls Tryz.prog 49 #[.pointer (some ⟨b, 0, none⟩)] w fun e w' => e = .returned (.bool down) ∧ w' = w := by
  have c1 := h.cell 4
  simp only [basCells, List.getElem?_toArray, List.getElem?_cons_zero, List.getElem?_cons_succ] at c1
  clear h
  go_enter Tryz.func49, Tryz.ntmps49
  go_wp2
  go_ret
  exact ⟨rfl, rfl⟩
set_option maxRecDepth 100000 in
theorem bused_any (h : BasAt w b d L E dv D used torn down) : Calls Tryz.prog 48 #[.pointer (some ⟨b, 0, none⟩)] w fun e w' => e = .returned (.int .i64 used) ∧ w' = w := by
  have c1 := h.cell 2
  simp only [basCells, List.getElem?_toArray, List.getElem?_cons_zero, List.getElem?_cons_succ] at c1
  clear h
  go_enter Tryz.func48, Tryz.ntmps48
  go_wp2
  go_ret
  exact ⟨rfl, rfl⟩
set_option maxRecDepth 100000 in
theorem btorn_any (h : BasAt w b d L E dv D used torn down) (n : Int) : Calls Tryz.prog 47 #[.pointer (some ⟨b, 0, none⟩), .int .i64 n] w fun e w' => e = .returned (.tuple #[]) ∧ BasAt w' b d L E dv D used (max 0 n) down ∧ (w'.heap.size = w.heap.size ∧ w'.os = w.os ∧ w'.tape = w.tape ∧ w'.output = w.output) ∧ ∀ k, k ≠ b → w'.heap[k]? = w.heap[k]? := by
  have c1 := h.cell 3
  simp only [basCells, List.getElem?_toArray, List.getElem?_cons_zero, List.getElem?_cons_succ] at c1
  have f1 := h.free 3
  have HF := hid h
  clear h
  go_enter Tryz.func47, Tryz.ntmps47
  go_wp2
  refine bodyPost_end (results_none rfl _ _ _) rfl ?_
  exact ⟨rfl, HF.out.setOwn rfl, ⟨by simp, rfl, rfl, rfl⟩, fun k hk => heap_setCell_other _ _ _ _ hk⟩
set_option maxRecDepth 100000 in
theorem dcut_any (h : DiskAt w d dv D) (n : Int) : Calls Tryz.prog 45 #[.pointer (some ⟨d, 0, none⟩), .int .i64 n] w fun e w' => e = .returned (.tuple #[]) ∧ DiskAt w' d dv { D with cut := decide (n ≥ 0), left := n } ∧ (w'.heap.size = w.heap.size ∧ w'.os = w.os ∧ w'.tape = w.tape ∧ w'.output = w.output) ∧ ∀ k, k ≠ d → w'.heap[k]? = w.heap[k]? := by
  have c1 := h.cellCut
  have f1 := h.free 250
  have h1 := h.setCut (decide (n ≥ 0))
  have c2 := h1.cellLeft
  have f2 := h1.free 251
  have HF := hid (h1.setLeft n)
  clear h1 h
  go_enter Tryz.func45, Tryz.ntmps45
  go_wp2
  refine bodyPost_end (results_none rfl _ _ _) rfl ?_
  exact ⟨rfl, HF.out, ⟨by simp, rfl, rfl, rfl⟩, fun k hk => (heap_setCell_other _ _ _ _ hk).trans (heap_setCell_other _ _ _ _ hk)⟩
end

end Go.Proofs.YtjefgmeejhakbaaGreatDoor

/- Plain: what an engine over values keeps, whatever its transactions do. -/
namespace Go.Proofs.YtjefgmeejhakbaaGreatDoor

section
variable {a0 : Int} {K0 : Int → Option Int} {E : Eng} {i : Nat} {u : Tx} {n : Nat}
theorem b_commit (hM : Mid a0 K0 E.ce noQ) (hn : ∀ u ∈ E.txs, u.reads.length ≤ n) (hu : E.txs[i]? = some u) (hs : u.state = 0) : ∃ R, commitE 7 E i = some R ∧ Mid a0 K0 R.2.ce noQ ∧ (∀ u ∈ R.2.txs, u.reads.length ≤ n) ∧ (betB u.ahead u.behind = false → R.1 = 0) ∧ (betB u.ahead u.behind = true → R.1 = 13) := by
  have hl : liveB u.state = true := live_iff.2 (.inl hs)
  by_cases hb : Between u.ahead u.behind
  · obtain ⟨E', h1, h2, h3, _⟩ := commit_bad (goes_rd a0 K0 E) hM hu hl hb ((rd_lose E i 13).trans (rd_over _ i 3))
    exact ⟨_, h1, h2, rd_of h3 hn, fun h => (by rw [betB_true.2 hb] at h; cases h), fun _ => rfl⟩
  · obtain ⟨E', h1, h2, h3, _⟩ := commit_ok (goes_rd a0 K0 E) hM hu hl hb ((RdLe.of_txs (E' := { (installE E i) with com := E.com ++ [i] }) (inst_txs E i)).trans (rd_over _ i 2))
    exact ⟨_, h1, h2, rd_of h3 hn, fun _ => rfl, fun h => (hb (betB_true.1 h)).elim⟩
theorem b_abort (hM : Mid a0 K0 E.ce noQ) (hn : ∀ u ∈ E.txs, u.reads.length ≤ n) (hu : E.txs[i]? = some u) (hl : liveB u.state = true) : ∃ E', endF 7 (loseE E i 0) i 3 = some E' ∧ Mid a0 K0 E'.ce noQ ∧ ∀ u ∈ E'.txs, u.reads.length ≤ n := by
  obtain ⟨E2, h1, h2, h3, _⟩ := lose_ok (goes_rd a0 K0 E) hM hu hl (why := 0) ((rd_lose E i 0).trans (rd_over _ i 3))
  exact ⟨E2, h1, h2, rd_of h3 hn⟩
theorem b_read (hM : Mid a0 K0 E.ce noQ) (hn : ∀ u ∈ E.txs, u.reads.length ≤ n) (hu : E.txs[i]? = some u) (hs : u.state = 0) {key : Int} (hk : 0 ≤ key ∧ key < 10) (hv : u.vals key = none) : ∃ R, readE 7 E i key = some R ∧ Mid a0 K0 R.2.ce noQ ∧ ∀ u ∈ R.2.txs, u.reads.length ≤ n + 1 := by
  have hnote : ∀ v ∈ (noteE E i u key).txs, v.reads.length ≤ n + 1 := fun v hv => by
    rcases List.mem_or_eq_of_mem_set hv with hv | rfl
    · have := hn v hv; omega
    · have := hn u (List.mem_of_getElem? hu)
      show (u.reads ++ [_]).length ≤ n + 1
      simp
      omega
  obtain ⟨R', h1, h2, h3, _⟩ := read_ok (goes_rd a0 K0 (noteE E i u key)) hM hu hs hk hv (fun _ => RdLe.refl _) (fun E2 _ ha => by
      have h5 := rd_aow (noteE E i u key) i key
      rw [ha] at h5
      exact h5) (fun E2 _ ha => by
      have h5 := rd_aow (noteE E i u key) i key
      rw [ha] at h5
      exact h5.trans ((rd_lose E2 i 13).trans (rd_over _ i 3)))
  exact ⟨R', h1, h2, rd_of h3 hnote⟩
theorem b_write (hM : Mid a0 K0 E.ce noQ) (hn : ∀ u ∈ E.txs, u.reads.length ≤ n) (hu : E.txs[i]? = some u) (hs : u.state = 0) {key val : Int} (hk : 0 ≤ key ∧ key < 10) (hv : -1099511627776 ≤ val ∧ val ≤ 1099511627776) {q : Int → Nat} (hq : Ranked E.T q) : ∃ R, writeE 7 q E i key val = some R ∧ Mid a0 K0 R.2.ce noQ ∧ ∀ u ∈ R.2.txs, u.reads.length ≤ n := by
  obtain ⟨R', h1, h2, h3, _⟩ := write_ok (goes_rd a0 K0 E) hM hu hs hk hv hq
    ((rd_want hu key val E.T).trans ((rd_lose _ i 11).trans (rd_over _ i 3)))
    ((rd_want hu key val _).trans (RdLe.set (want_get (key := key) (val := val) hu _) (Nat.le_refl _)))
    (fun T' E2 _ hp => by
      have h5 := rd_put (wantE E i u key val T') i
      rw [hp] at h5
      exact (rd_want hu key val T').trans h5)
    (fun T' why E2 _ _ hp => by
      have h5 := rd_put (wantE E i u key val T') i
      rw [hp] at h5
      exact ((rd_want hu key val T').trans h5).trans ((rd_lose E2 i why).trans (rd_over _ i 3)))
  exact ⟨R', h1, h2, rd_of h3 hn⟩
theorem b_begin (hM : Mid a0 K0 E.ce noQ) (hn : ∀ u ∈ E.txs, u.reads.length ≤ n) {level : Int} (hlv : level = 0 ∨ level = 1 ∨ level = 2) (hl : E.txs.length < 200) (ho : (liveOnes E).length < 6) : Mid a0 K0 ({ E with txs := E.txs ++ [newTx level E.last] } : Eng).ce noQ ∧ ∀ u ∈ ({ E with txs := E.txs ++ [newTx level E.last] } : Eng).txs, u.reads.length ≤ n := by
  refine ⟨hM.begin hlv hl (by rw [← live_len]; exact ho), fun v hv => ?_⟩
  rcases List.mem_append.1 (show v ∈ E.txs ++ [newTx level E.last] from hv) with h | h
  · exact hn v h
  · rw [List.mem_singleton.1 h]
    exact Nat.zero_le _
end

/-! ### The disk -/
/-- What is written, and nothing behind it. -/
def DskOk (D : Dsk) (recs : List (List (Int × Int))) : Prop := Recs D recs ∧ D.pl.length = 250 ∧ (∀ (j : Nat) (l : List Int), recs.length ≤ j → D.pl[j]? = some l → wholeP l = false) ∧ (-1 ≤ D.left ∧ D.left ≤ 100)
theorem DskOk.write {D : Dsk} {recs : List (List (Int × Int))} (h : DskOk D recs) {ws : List (Int × Int)} (hw : ws.length ≤ 10) (hf : ∀ p ∈ ws, Fine p) (hne : ws ≠ []) (hl : recs.length < 100) (torn : Int) (hp : powerB D = true) : DskOk (writeD D recs.length (recP ws) torn) (recs ++ [ws]) := by
  obtain ⟨h1, h2, h3, h4⟩ := h
  have hw0 : writeD D recs.length (recP ws) torn = { pl := D.pl.set recs.length (recP ws), cut := D.cut, left := if D.cut = true then D.left - 1 else D.left } := by unfold writeD; rw [if_pos hp]
  rw [hw0]
  have hleft : -1 ≤ (if D.cut = true then D.left - 1 else D.left) ∧ (if D.cut = true then D.left - 1 else D.left) ≤ 100 := by
    split
    · rename_i hc
      have : D.left > 0 := by unfold powerB at hp; rw [hc] at hp; simpa using hp
      omega
    · exact h4
  refine ⟨⟨fun j vs hj => ?_, fun vs hv => ?_, fun vs hv => ?_, fun vs hv => ?_, by simp; omega, fun l hl2 => ?_⟩, by simp [h2], fun j l hj hl2 => ?_, hleft⟩
  · show (D.pl.set recs.length (recP ws))[j]? = _
    rcases Nat.lt_or_ge j recs.length with hlt | hge
    · rw [List.getElem?_append_left hlt] at hj
      rw [List.getElem?_set_ne (by omega)]
      exact h1.at_ j vs hj
    · have hj2 := (List.getElem?_eq_some_iff.1 hj).1
      simp at hj2
      obtain rfl : j = recs.length := by omega
      rw [List.getElem?_append_right (Nat.le_refl _)] at hj
      simp at hj
      rw [List.getElem?_set_self (by omega), hj]
  · rcases List.mem_append.1 hv with h | h
    · exact h1.len vs h
    · rw [List.mem_singleton.1 h]; exact hw
  · rcases List.mem_append.1 hv with h | h
    · exact h1.fine vs h
    · rw [List.mem_singleton.1 h]; exact hf
  · rcases List.mem_append.1 hv with h | h
    · exact h1.ne vs h
    · rw [List.mem_singleton.1 h]; exact hne
  · have hl2 : (D.pl.set recs.length (recP ws))[(recs ++ [ws]).length]? = some l := hl2
    simp only [List.length_append, List.length_singleton] at hl2
    rw [List.getElem?_set_ne (by omega)] at hl2
    exact h3 _ l (by omega) hl2
  · have hl2 : (D.pl.set recs.length (recP ws))[j]? = some l := hl2
    simp only [List.length_append, List.length_singleton] at hj
    rw [List.getElem?_set_ne (by omega)] at hl2
    exact h3 j l (by omega) hl2
theorem DskOk.off {D : Dsk} {recs : List (List (Int × Int))} (h : DskOk D recs) (ws : List (Int × Int)) (torn : Int) (hp : powerB D = false) : DskOk (writeD D recs.length (recP ws) torn) recs := by
  obtain ⟨h1, h2, h3, h4⟩ := h
  have hl := recP_len ws
  have hlt := h1.lt
  have hw0 : writeD D recs.length (recP ws) torn = { D with pl := D.pl.set recs.length ((recP ws).take (min torn ((recP ws).length - 1)).toNat) } := by unfold writeD; rw [if_neg (by rw [hp]; simp)]
  rw [hw0]
  have hnw : wholeP ((recP ws).take (min torn ((recP ws).length - 1)).toNat) = false := whole_torn ws (by omega)
  have hall : ∀ (j : Nat) (l : List Int), recs.length ≤ j → (D.pl.set recs.length ((recP ws).take (min torn ((recP ws).length - 1)).toNat))[j]? = some l → wholeP l = false := fun j l hj hl2 => by
    by_cases e : j = recs.length
    · subst e
      rw [List.getElem?_set_self (by omega)] at hl2
      cases hl2
      exact hnw
    · rw [List.getElem?_set_ne (fun h => e h.symm)] at hl2
      exact h3 j l hj hl2
  refine ⟨⟨fun j vs hj => ?_, h1.len, h1.fine, h1.ne, h1.lt, fun l hl2 => hall _ l (Nat.le_refl _) hl2⟩, by simp [h2], hall, h4⟩
  have hj2 := (List.getElem?_eq_some_iff.1 hj).1
  show (D.pl.set recs.length _)[j]? = _
  rw [List.getElem?_set_ne (by omega)]
  exact h1.at_ j vs hj
theorem DskOk.cut {D : Dsk} {recs : List (List (Int × Int))} (h : DskOk D recs) (b : Bool) {n : Int} (hn : -1 ≤ n ∧ n ≤ 100) : DskOk { D with cut := b, left := n } recs := ⟨⟨h.1.at_, h.1.len, h.1.fine, h.1.ne, h.1.lt, h.1.end_⟩, h.2.1, h.2.2.1, hn⟩

end Go.Proofs.YtjefgmeejhakbaaGreatDoor

/- The tale when it notes a read, a write, who is over. -/
namespace Go.Proofs.YtjefgmeejhakbaaGreatDoor
open Go.RowKit

theorem owns_set {w : World} {base g n cap i : Nat} {e : TypeId} {xs : List Value} {u : Value} (h : w.ownsRow base e 1 (.slice (some ⟨g, 0, none⟩) n cap) n xs) : (w.setCell ⟨g, i, none⟩ u).ownsRow base e 1 (.slice (some ⟨g, 0, none⟩) n cap) n (xs.set i u) := by
  refine ⟨by rw [List.length_set]; exact h.1, ?_⟩
  rcases h.2 with ⟨e1, _⟩ | ⟨g', cap', cur, e1, hb, hc, h1, h2, h3, h4⟩
  · cases e1
  · injection e1 with e1 e2 e3
    injection e1 with e1
    injection e1 with e1
    subst e1
    subst e3
    refine .inr ⟨g, cap, cur.setIfInBounds i u, rfl, hb, setCell_at hc, h1, h2, by simpa using h3, ?_⟩
    rw [← h4, Array.toList_setIfInBounds, List.take_set]

section
variable {w w1 : World} {s N : Nat} {L : TalL} {t : Tal}
theorem rowX_over (L : TalL) (t : Tal) (l : List Int) (j : Nat) (hj : j < 6) : L.rowX { t with over := l } j = if j = 5 then intsV l else L.rowX t j := by
  obtain rfl | rfl | rfl | rfl | rfl | rfl : j = 0 ∨ j = 1 ∨ j = 2 ∨ j = 3 ∨ j = 4 ∨ j = 5 := by omega
  all_goals rfl
/-- One is over. -/
theorem TalAt.setOver (h : TalAt w s L t N) {g cap i : Nat} (hr : L.row 5 = .slice (some ⟨g, 0, none⟩) N cap) (x : Int) :
    TalAt (w.setCell ⟨g, i, none⟩ (.int .i64 x)) s L { t with over := t.over.set i x } N ∧ KeptO L.own L.own w (w.setCell ⟨g, i, none⟩ (.int .i64 x)) := by
  obtain ⟨ρ, T⟩ := h.tag
  have hg : (L.row 5).ownBlock = some g := by rw [hr]; rfl
  have ho : ∀ b, b ≠ g → (w.setCell ⟨g, i, none⟩ (.int .i64 x)).heap[b]? = w.heap[b]? := fun b hb => heap_setCell_other _ _ _ _ hb
  have hρ := T.row 5 g (by omega) hg
  have hne : ∀ b, ρ b ≠ .row 5 → b ≠ g := fun b hb e => hb (by rw [e]; exact hρ)
  refine ⟨⟨(ho _ (hne _ (by rw [T.b]; exact nofun))).trans h.blk, fun j hj => ?_, fun i v l hv hl => owns_same (h.sn i v l hv hl) (fun b hb => ho b (hne b (by rw [T.sn i v b hv hb]; exact nofun))), fun i b f hb hf => ⟨(h.om i b f hb hf).1.same (ho b (hne b (by rw [T.om i b hb]; exact nofun))), (h.om i b f hb hf).2⟩,
    fun i v l hv hl => owns_same (h.rd i v l hv hl) (fun b hb => ho b (hne b (by rw [T.rd i v b hv hb]; exact nofun))), ⟨h.len.level, h.len.snap, h.len.own, h.len.reads, h.len.begun, by simpa using h.len.over, h.len.sn, h.len.om, h.len.rd⟩, ρ, T⟩,
    ⟨rfl, rfl, rfl, by simp, fun b _ hb => ho b (fun e => hb (.inr (.inl ⟨5, by omega, by rw [e]; exact hg⟩))), fun _ hb => .inl hb⟩⟩
  rw [rowX_over L t _ j hj]
  by_cases e : j = 5
  · subst e
    rw [if_pos rfl, hr]
    have h5 := h.rows 5 (by omega)
    rw [hr] at h5
    have := owns_set (i := i) (u := .int .i64 x) h5
    rw [show L.rowX t 5 = intsV t.over from rfl] at this
    have e2 : intsV (t.over.set i x) = (intsV t.over).set i (.int .i64 x) := by simp [intsV, List.map_set]
    rw [e2]
    exact this
  · rw [if_neg e]
    exact owns_same (h.rows j hj) (fun b hb => ho b (hne b (by rw [T.row j b hj hb]; intro e2; injection e2 with e2; exact e e2)))
/-- What one wrote, or waits to write. -/
theorem TalAt.setOwn (h : TalAt w s L t N) {x b : Nat} {f : Int → Option Int} (hb : L.om[x]? = some b) (hf : t.own[x]? = some f) {key val : Int} (hk : 0 ≤ key ∧ key < 10) :
    ∃ w', (Instr.mapUpdate 69 (.map (some b)) (.int .i64 key) (.int .i64 val)).run Tryz.prog w = .ok () w' ∧ TalAt w' s L { t with own := t.own.set x (updT f key (some val)) } N ∧ KeptO L.own L.own w w' := by
  obtain ⟨ρ, T⟩ := h.tag
  have h0 := h.om x b f hb hf
  obtain ⟨w', hr, hI, hg⟩ := h0.1.store Tryz.underlying69 (by unfold maxLen; omega) (show I64 key by unfold I64; omega) (.int .i64 val)
  rw [show updT (fun k => (f k).map (Value.int .i64)) key (some (.int .i64 val)) = fun k => (updT f key (some val) k).map (Value.int .i64) from (updT_map f key (some val)).symm] at hI
  have hu : ∀ k, updT f key (some val) k ≠ none → 0 ≤ k ∧ k < 10 := fun k hk' => by
    by_cases e : k = key
    · rw [e]; exact hk
    · rw [updT_other _ _ e] at hk'; exact h0.2 k hk'
  have hI10 := hI.upTo 10 (fun a ha => hu a (fun e => ha (by rw [e]; rfl)))
  have ho : ∀ c, c < w.heap.size → c ≠ b → w'.heap[c]? = w.heap[c]? := fun c hc hne => hg.block c hc (fun e => hne (by injection e))
  have hρ := T.om x b hb
  have hne : ∀ c, L.own c → ρ c ≠ .om x → w'.heap[c]? = w.heap[c]? := fun c hc hn => ho c (h.own_lt hc) (fun e => hn (by rw [e]; exact hρ))
  have hx := (List.getElem?_eq_some_iff.1 hf).1
  refine ⟨w', hr, ⟨(hne _ (.inl rfl) (by rw [T.b]; exact nofun)).trans h.blk, fun j hj => ?_, fun i v l hv hl => owns_same (h.sn i v l hv hl) (fun c hc => hne c (.inr (.inr (.inl ⟨i, v, hv, hc⟩))) (by rw [T.sn i v c hv hc]; exact nofun)), fun i c q hc hq => ?_,
    fun i v l hv hl => owns_same (h.rd i v l hv hl) (fun c hc => hne c (.inr (.inr (.inr (.inr ⟨i, v, hv, hc⟩)))) (by rw [T.rd i v c hv hc]; exact nofun)), ⟨h.len.level, h.len.snap, by simpa using h.len.own, h.len.reads, h.len.begun, h.len.over, h.len.sn, h.len.om, h.len.rd⟩, ρ, T⟩,
    ⟨hg.os, hg.tape, hg.output, hg.size, fun c hc hn => ho c hc (fun e => hn (.inr (.inr (.inr (.inl ⟨x, by rw [e]; exact hb⟩))))), fun _ hc => .inl hc⟩⟩
  · have e : L.rowX { t with own := t.own.set x (updT f key (some val)) } j = L.rowX t j := by unfold TalL.rowX; split <;> rfl
    rw [e]
    exact owns_same (h.rows j hj) (fun c hc => hne c (.inr (.inl ⟨j, hj, hc⟩)) (by rw [T.row j c hj hc]; exact nofun))
  · simp only [List.getElem?_set] at hq
    by_cases e : x = i
    · subst e
      rw [if_pos rfl, if_pos hx] at hq
      cases hq
      rw [hb] at hc
      cases hc
      exact ⟨hI10, hu⟩
    · rw [if_neg e] at hq
      have h1 := h.om i c q hc hq
      exact ⟨h1.1.same (hne c (.inr (.inr (.inr (.inl ⟨i, hc⟩)))) (by rw [T.om i c hc]; intro e2; injection e2 with e2; exact e e2.symm)), h1.2⟩
theorem rowX_reads (L : TalL) (t : Tal) (rd : List Value) (l : List (List (Int × Int))) (j : Nat) (hj : j < 6) : ({ L with rd := rd } : TalL).rowX { t with reads := l } j = if j = 3 then rd else L.rowX t j := by
  obtain rfl | rfl | rfl | rfl | rfl | rfl : j = 0 ∨ j = 1 ∨ j = 2 ∨ j = 3 ∨ j = 4 ∨ j = 5 := by omega
  all_goals rfl
/-- What one read. -/
theorem TalAt.setRead (h : TalAt w s L t N) {x g cap : Nat} {v v' : Value} {l l' : List (Int × Int)} (hv : L.rd[x]? = some v) (hl : t.reads[x]? = some l) (hr : L.row 3 = .slice (some ⟨g, 0, none⟩) N cap) (hc : Chg (fun b => v.ownBlock = some b) w w1) (hown : w1.ownsRow 0 75 2 v' l'.length (vrow l')) (hv' : ∀ b, v'.ownBlock = some b → v.ownBlock = some b ∨ w.heap.size ≤ b) :
    TalAt (w1.setCell ⟨g, x, none⟩ v') s { L with rd := L.rd.set x v' } { t with reads := t.reads.set x l' } N ∧ KeptO L.own ({ L with rd := L.rd.set x v' } : TalL).own w (w1.setCell ⟨g, x, none⟩ v') := by
  obtain ⟨ρ, T⟩ := h.tag
  have hg : (L.row 3).ownBlock = some g := by rw [hr]; rfl
  have hglt := owns_lt (h.rows 3 (by omega)) hg
  have hρg := T.row 3 g (by omega) hg
  have hx := (List.getElem?_eq_some_iff.1 hl).1
  have hxr := (List.getElem?_eq_some_iff.1 hv).1
  have ho1 : ∀ b, b ≠ g → (w1.setCell ⟨g, x, none⟩ v').heap[b]? = w1.heap[b]? := fun b hb => heap_setCell_other _ _ _ _ hb
  have ho : ∀ b, L.own b → ρ b ≠ .row 3 → ρ b ≠ .rd x → (w1.setCell ⟨g, x, none⟩ v').heap[b]? = w.heap[b]? := fun b hb h1 h2 => (ho1 b (fun e => h1 (by rw [e]; exact hρg))).trans (hc.block b (h.own_lt hb) (fun e => h2 (T.rd x v b hv e)))
  have hrow3 : w1.ownsRow 0 (rowT 3) 1 (L.row 3) N (L.rowX t 3) := owns_same (h.rows 3 (by omega)) (fun b hb => hc.block b (owns_lt (h.rows 3 (by omega)) hb) (fun e => by
    have h1 := T.row 3 b (by omega) hb
    rw [T.rd x v b hv e] at h1
    cases h1))
  have hne' : ∀ b, v'.ownBlock = some b → b ≠ g := fun b hb e => by
    rcases hv' b hb with h1 | h1
    · have := T.rd x v b hv h1
      rw [e, hρg] at this
      cases this
    · omega
  refine ⟨⟨(ho _ (.inl rfl) (by rw [T.b]; exact nofun) (by rw [T.b]; exact nofun)).trans h.blk, fun j hj => ?_, fun i u m hu hm => owns_same (h.sn i u m hu hm) (fun c hc => ho c (.inr (.inr (.inl ⟨i, u, hu, hc⟩))) (by rw [T.sn i u c hu hc]; exact nofun) (by rw [T.sn i u c hu hc]; exact nofun)),
    fun i c q hc hq => ⟨(h.om i c q hc hq).1.same (ho c (.inr (.inr (.inr (.inl ⟨i, hc⟩)))) (by rw [T.om i c hc]; exact nofun) (by rw [T.om i c hc]; exact nofun)), (h.om i c q hc hq).2⟩, fun i u m hu hm => ?_,
    ⟨h.len.level, h.len.snap, h.len.own, by simpa using h.len.reads, h.len.begun, h.len.over, h.len.sn, h.len.om, by simpa using h.len.rd⟩, fun b => if b < w.heap.size then ρ b else .rd x, ?_⟩, ?_⟩
  · rw [rowX_reads L t _ _ j hj]
    by_cases e : j = 3
    · subst e
      rw [if_pos rfl]
      show World.ownsRow _ 0 _ 1 (L.row 3) N _
      rw [hr] at hrow3 ⊢
      exact owns_set hrow3
    · rw [if_neg e]
      refine owns_same (h.rows j hj) (fun c hc => ho c (.inr (.inl ⟨j, hj, hc⟩)) (by rw [T.row j c hj hc]; intro e2; injection e2 with e2; exact e e2) (by rw [T.row j c hj hc]; exact nofun))
  · simp only [List.getElem?_set] at hu hm
    by_cases e : x = i
    · subst e
      rw [if_pos rfl, if_pos hxr] at hu
      rw [if_pos rfl, if_pos hx] at hm
      cases hu
      cases hm
      exact owns_same hown (fun b hb => ho1 b (hne' b hb))
    · rw [if_neg e] at hu hm
      exact owns_same (h.rd i u m hu hm) (fun c hc => ho c (.inr (.inr (.inr (.inr ⟨i, u, hu, hc⟩)))) (by rw [T.rd i u c hu hc]; exact nofun) (by rw [T.rd i u c hu hc]; intro e2; injection e2 with e2; exact e e2.symm))
  · have hlt : ∀ b, L.own b → (if b < w.heap.size then ρ b else TTag.rd x) = ρ b := fun b hb => if_pos (h.own_lt hb)
    refine ⟨(hlt _ (.inl rfl)).trans T.b, fun j b hj hb => (hlt b (.inr (.inl ⟨j, hj, hb⟩))).trans (T.row j b hj hb), fun i u b hu hb => (hlt b (.inr (.inr (.inl ⟨i, u, hu, hb⟩)))).trans (T.sn i u b hu hb), fun i b hb => (hlt b (.inr (.inr (.inr (.inl ⟨i, hb⟩))))).trans (T.om i b hb), fun i u b hu hb => ?_⟩
    simp only [List.getElem?_set] at hu
    by_cases e : x = i
    · subst e
      rw [if_pos rfl, if_pos hxr] at hu
      cases hu
      rcases hv' b hb with h1 | h1
      · exact (hlt b (.inr (.inr (.inr (.inr ⟨x, v, hv, h1⟩))))).trans (T.rd x v b hv h1)
      · exact if_neg (by omega)
    · rw [if_neg e] at hu
      exact (hlt b (.inr (.inr (.inr (.inr ⟨i, u, hu, hb⟩))))).trans (T.rd i u b hu hb)
  · refine ⟨hc.os, hc.tape, hc.output, by simpa using hc.size, fun b hb hn => (ho1 b (fun e => hn (.inr (.inl ⟨3, by omega, by rw [e]; exact hg⟩)))).trans (hc.block b hb (fun e => hn (.inr (.inr (.inr (.inr ⟨x, v, hv, e⟩)))))), fun b hb => ?_⟩
    rcases hb with hb | hb | hb | hb | ⟨i, u, hu, hb⟩
    · exact .inl (.inl hb)
    · exact .inl (.inr (.inl hb))
    · exact .inl (.inr (.inr (.inl hb)))
    · exact .inl (.inr (.inr (.inr (.inl hb))))
    · simp only [List.getElem?_set] at hu
      by_cases e : x = i
      · subst e
        rw [if_pos rfl, if_pos hxr] at hu
        cases hu
        rcases hv' b hb with h1 | h1
        · exact .inl (.inr (.inr (.inr (.inr ⟨x, v, hv, h1⟩))))
        · exact .inr h1
      · rw [if_neg e] at hu
        exact .inl (.inr (.inr (.inr (.inr ⟨i, u, hu, hb⟩))))
/-- The counts. -/
theorem TalAt.setHead (h : TalAt w s L t N) {o : Nat} {u : Value} {steps n : Int} {broken : Bool} (hc : (talCells s L.row t.steps t.n t.broken).setIfInBounds o u = talCells s L.row steps n broken) :
    TalAt (w.setCell ⟨L.b, o, none⟩ u) s L { t with steps := steps, n := n, broken := broken } N ∧ KeptO L.own L.own w (w.setCell ⟨L.b, o, none⟩ u) := by
  have ho : ∀ g, g ≠ L.b → (w.setCell ⟨L.b, o, none⟩ u).heap[g]? = w.heap[g]? := fun g hg => heap_setCell_other _ _ _ _ hg
  refine ⟨h.head ?_ (fun g _ hg => ho g hg), rfl, rfl, rfl, by simp, fun g _ hn => ho g (fun e => hn (.inl e)), fun _ hg => .inl hg⟩
  rw [setCell_at h.blk, hc]
end

end Go.Proofs.YtjefgmeejhakbaaGreatDoor
