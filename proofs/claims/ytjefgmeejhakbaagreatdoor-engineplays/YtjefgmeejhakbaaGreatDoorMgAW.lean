/- LawRow FxOverB EpAct EpWalk: put together for a claim. -/
import Derived.Test.YtjefgmeejhakbaaGreatDoorMgAD
import Derived.Test.YtjefgmeejhakbaaGreatDoorMgAX
import Derived.Test.YtjefgmeejhakbaaGreatDoorFxAlike
/- Lists of acts, and of writes, that came in: law's. -/
namespace Go.Proofs.YtjefgmeejhakbaaGreatDoor
open Go.ChangeShapes Go.WideShapes Go.ChangeAt Go.RowKit
theorem list_ofL {α : Type} (P : Nat → α → Prop) : ∀ n : Nat, (∀ i, i < n → ∃ o, P i o) → ∃ l : List α, l.length = n ∧ ∀ (i : Nat) (o : α), l[i]? = some o → P i o
  | 0, _ => ⟨[], rfl, fun i o h => by simp at h⟩
  | n + 1, h => by
    obtain ⟨l, hl, hP⟩ := list_ofL P n (fun i hi => h i (by omega))
    obtain ⟨o, ho⟩ := h n (by omega)
    refine ⟨l ++ [o], by simp [hl], fun i o' hi => ?_⟩
    by_cases e : i < l.length
    · rw [List.getElem?_append_left e] at hi
      exact hP i o' hi
    · rw [List.getElem?_append_right (by omega)] at hi
      have e0 : i - l.length = 0 := by
        rcases Nat.eq_zero_or_pos (i - l.length) with h0 | h0
        · exact h0
        · rw [List.getElem?_eq_none (by simp; omega)] at hi; cases hi
      rw [e0] at hi
      simp at hi
      subst hi
      have : i = n := by omega
      subst this
      exact ho
theorem tryd_cells_writeL : Tryz.prog.cellsOf 78 = 2 := by kernel_rfl
theorem tryd_cells_lact : Tryz.prog.cellsOf 53 = 4 := by kernel_rfl
section
variable {H : Type} {enc : TypeId × Value → H}
set_option maxRecDepth 100000 in
theorem open_lacts {W : World} {base : Nat} {v : Value} {d : DataW H} {p : List MemPlace} (hv : Value.okWide Tryz.prog W .any base 42 v) (h : DataW.Trod enc Tryz.prog W 0 (fun _ => true) true 42 v d p) : ∃ ad n cap, v = .slice ad n cap ∧ LActsAt W ad n := by
  obtain ⟨ad, n, cap, rfl⟩ := okWide_slice Tryz.underlying42 hv
  refine ⟨ad, n, cap, rfl, ?_⟩
  obtain ⟨fuel, hf⟩ := h
  rcases Go.Deep.open_slice Tryz.underlying42 hf with ⟨e, _⟩ | ⟨a, len, cp, m, n', D, Pl, e, _, hl, _, hm, _, hx⟩
  · simp [Value.cells] at e
    obtain ⟨rfl, rfl, rfl⟩ := e
    intro i hi
    omega
  · simp [Value.cells] at e
    obtain ⟨rfl, rfl, rfl⟩ := e
    have hm' : m = cap := by simpa using hm
    have each : ∀ i, i < m → ∃ (v0 v1 v2 v3 : Value), W.cell? (a.add (i * 4)) = some v0 ∧ W.cell? (a.add (i * 4 + 1)) = some v1 ∧ W.cell? (a.add (i * 4 + 2)) = some v2 ∧ W.cell? (a.add (i * 4 + 3)) = some v3 ∧
        (∃ y, DataW.trod enc Tryz.prog W 0 (fun _ => true) true (n' - 1) 3 [v0] = some y) ∧ (∃ y, DataW.trod enc Tryz.prog W 0 (fun _ => true) true (n' - 1) 3 [v1] = some y) ∧ (∃ y, DataW.trod enc Tryz.prog W 0 (fun _ => true) true (n' - 1) 3 [v2] = some y) ∧ (∃ y, DataW.trod enc Tryz.prog W 0 (fun _ => true) true (n' - 1) 3 [v3] = some y) := by
      intro i hi
      obtain ⟨cs', h1, h2⟩ := hx i hi
      rw [tryd_cells_lact] at h1
      obtain ⟨_, hlen, hcell⟩ := World.cells?_some h1
      obtain ⟨xs, k, hk, hxy, _, hxl, hf'⟩ := DataW.trod_struct Tryz.underlying53 h2
      have hk' : k = n' - 1 := by omega
      subst hk'
      match xs, hxl, cs', hlen with
      | [y0, y1, y2, y3], _, [v0, v1, v2, v3], _ =>
        have g0 := hf' 0 _ rfl
        have g1 := hf' 1 _ rfl
        have g2 := hf' 2 _ rfl
        have g3 := hf' 3 _ rfl
        simp [tryd_cells3] at g0 g1 g2 g3
        have e0 := hcell 0 (by omega)
        have e1 := hcell 1 (by omega)
        have e2 := hcell 2 (by omega)
        have e3 := hcell 3 (by omega)
        rw [Go.Deep.add_add] at e0 e1 e2 e3
        exact ⟨v0, v1, v2, v3, by simpa using e0, by simpa using e1, by simpa using e2, by simpa using e3, ⟨y0, g0⟩, ⟨y1, g1⟩, ⟨y2, g2⟩, ⟨y3, g3⟩⟩
    intro i hi
    obtain ⟨_, _, _, _, h00, _⟩ := each 0 (by omega)
    obtain ⟨b, off, rfl⟩ := addr_plain (by simpa using h00)
    obtain ⟨v0, v1, v2, v3, h0, h1, h2, h3, ⟨_, t0⟩, ⟨_, t1⟩, ⟨_, t2⟩, ⟨_, t3⟩⟩ := each i (by omega)
    rw [Addr.add_mid] at h0 h1 h2 h3
    obtain ⟨q0, e0, _⟩ := DataW.trod_int Tryz.underlying3 t0
    obtain ⟨q1, e1, _⟩ := DataW.trod_int Tryz.underlying3 t1
    obtain ⟨q2, e2, _, g2⟩ := DataW.trod_int Tryz.underlying3 t2
    obtain ⟨q3, e3, _⟩ := DataW.trod_int Tryz.underlying3 t3
    rw [(List.cons.inj e0).1] at h0
    rw [(List.cons.inj e1).1] at h1
    rw [(List.cons.inj e2).1] at h2
    rw [(List.cons.inj e3).1] at h3
    exact ⟨b, off, q0, q1, q2, q3, rfl, i64_of_wf g2, h0, h1, h2, h3⟩
set_option maxRecDepth 100000 in
theorem open_writesL {W : World} {base : Nat} {v : Value} {d : DataW H} {p : List MemPlace} (hv : Value.okWide Tryz.prog W .any base 23 v) (h : DataW.Trod enc Tryz.prog W 0 (fun _ => true) true 23 v d p) : ∃ ad ws cap, v = .slice ad ws.length cap ∧ WsAt W ad ws := by
  obtain ⟨ad, n, cap, rfl⟩ := okWide_slice Tryz.underlying23 hv
  obtain ⟨fuel, hf⟩ := h
  rcases Go.Deep.open_slice_pairs Tryz.underlying23 Tryz.underlying78 tryd_cells_writeL rfl rfl tryd_cells3 tryd_cells3 hf with ⟨e, _⟩ | ⟨a, len, cp, m, n', V0, V1, D0, D1, P0, P1, e, _, hl, _, hm, _, hx⟩
  · simp [Value.cells] at e
    obtain ⟨rfl, rfl, rfl⟩ := e
    exact ⟨none, [], 0, rfl, fun h => (h rfl).elim⟩
  · simp [Value.cells] at e
    obtain ⟨rfl, rfl, rfl⟩ := e
    have hm' : m = cap := by simpa using hm
    by_cases hn : n = 0
    · subst hn
      exact ⟨some a, [], cap, rfl, fun h => (h rfl).elim⟩
    · obtain ⟨h00, _⟩ := hx 0 (by omega)
      obtain ⟨b, off, rfl⟩ := addr_plain h00
      obtain ⟨l, hlen, hP⟩ := list_ofL (fun i (o : Int × Int) => W.cell? ⟨b, off + i * 2, none⟩ = some (.int .i64 o.1) ∧ W.cell? ⟨b, off + i * 2 + 1, none⟩ = some (.int .i64 o.2)) n (fun i hi => by
        obtain ⟨h0, h1, t0, t1⟩ := hx i (by omega)
        rw [Addr.add_mid] at h0 h1
        obtain ⟨k, hk, _⟩ := DataW.trod_int Tryz.underlying3 t0
        obtain ⟨y, hy, _⟩ := DataW.trod_int Tryz.underlying3 t1
        rw [(List.cons.inj hk).1] at h0
        rw [(List.cons.inj hy).1] at h1
        exact ⟨(k, y), h0, h1⟩)
      refine ⟨some ⟨b, off, none⟩, l, cap, by rw [hlen], fun _ => ⟨b, off, rfl, ?_, fun i a v hi => hP i (a, v) hi⟩⟩
      obtain ⟨h0, _⟩ := hx 0 (by omega)
      rw [Addr.add_mid] at h0
      exact World.block_lt_of_cell? W _ h0
end
end Go.Proofs.YtjefgmeejhakbaaGreatDoor

/- Over, both of them: what they tell and what they leave. -/
namespace Go.Proofs.YtjefgmeejhakbaaGreatDoor
open Go.RowKit
def rengO (t : Int) (ws : List (Int × Int)) : REng := { reng0 with last := t, kept := addTo t ws 10 }
theorem relO {t : Int} {ws : List (Int × Int)} (ht : 0 < t ∧ t ≤ 1099511627776) (hf : ∀ p ∈ ws, Fine p) : Rel 10000 (engO t ws) (rengO t ws) where
  len := rfl
  le := by show 0 ≤ 200; omega
  tx := fun i t r ht => by simp [engO, eng0] at ht
  last := rfl
  T := rfl
  good := good0
  mem := fun k x hx => by simp [engO, eng0] at hx
  doc := by
    have := rel0.doc.inst (t := t) (ws := ws) (by show (0 : Int) < t; omega) hf
    exact this
  lb := by show 0 ≤ t ∧ t ≤ 1099511627776; omega
  tim := fun x hx => by
    have := mem_addTo t ws 10 x hx
    omega
  wr := fun _ _ => rfl
  wrc := fun c x hx => by simp [engO, eng0] at hx
  nw := Nat.le_refl _
  coms := fun j hj => by simp [engO, eng0] at hj
  comn := List.nodup_nil
  hist := rfl
  bg := fun r hr => by simp [rengO, reng0] at hr
  bae := fun t ht => by simp [engO, eng0] at ht
  ord := fun i j ri rj tj h => by simp [rengO, reng0] at h
  s0 := by show (0 : Int) ≤ 0; omega
  wy := fun t ht => by simp [engO, eng0] at ht
  sz := by
    have := addTo_length t ws 10
    refine ⟨0, fun r hr => by simp [rengO, reng0] at hr, by show (0 : Int) ≤ 0; omega, Nat.le_refl _, ?_⟩
    show 0 + 1000 * 0 + 1000 * (addTo t ws 10).length ≤ 10000
    omega
theorem mid2O (t : Int) (ws : List (Int × Int)) : Mid2 (engO t ws).ce noQ := by
  have h0 := mid0_eng0
  exact ⟨h0.loc, h0.reg⟩
theorem over_both (t : Int) (ws : List (Int × Int)) (hn : ws.length ≤ 20) :
    (∃ c p, c ≠ 0 ∧ ∀ w ad cap, WsAt w ad ws → (Calls Tryz.prog 17 #[.int .i64 t, .slice ad ws.length cap] w fun e w' => e = .returned (.tuple #[.pointer none, .agg #[.int .i64 c, .int .i64 p]]) ∧ Below w.heap.size w w') ∧
      (Calls Tryz.prog 18 #[.int .i64 t, .slice ad ws.length cap] w fun e w' => ∃ T x, e = .returned (.tuple #[.pointer none, .iface T x]) ∧ ErrIs w' (.iface T x) c p ∧ Below w.heap.size w w')) ∨
    (∀ w ad cap, WsAt w ad ws → (Calls Tryz.prog 17 #[.int .i64 t, .slice ad ws.length cap] w fun e w' => ∃ M, e = .returned (.tuple #[.pointer (some ⟨M.R, 0, none⟩), .agg #[.int .i64 0, .int .i64 (-1)]]) ∧ RefAt w' M 10000 (engO t ws) ∧ Below w.heap.size w w' ∧ ∀ g, M.own g → w.heap.size ≤ g) ∧
      (Calls Tryz.prog 18 #[.int .i64 t, .slice ad ws.length cap] w fun e w' => ∃ L, e = .returned (.tuple #[.pointer (some ⟨L.s, 0, none⟩), .nilIface]) ∧ EnAt w' L (engO t ws) ∧ Below w.heap.size w w' ∧ ∀ g, L.own g → w.heap.size ≤ g)) := by
  by_cases hz : t = 0 ∧ ws = []
  · obtain ⟨rfl, rfl⟩ := hz
    refine .inr (fun w ad cap _ => ⟨?_, ?_⟩)
    · refine (rover_fresh ad cap w).mono ?_
      rintro e w' ⟨M, he, h1, h2, h3⟩
      exact ⟨M, he, ⟨reng0, h1, rel0.mono (by omega)⟩, h2, h3⟩
    · exact over_fresh ad cap w
  · have hz' : ¬ (t = 0 ∧ ws.length = 0) := fun e => hz ⟨e.1, List.eq_nil_of_length_eq_zero e.2⟩
    obtain ⟨c, p, ho⟩ := out_some 0 t ws
    rcases ho with ⟨h1, rfl, rfl⟩ | ⟨h1, h2, i, q, h3, h4, h5, rfl⟩ | ⟨h1, h2, h3, rfl, rfl⟩
    · refine .inl ⟨10, -1, by decide, fun w ad cap hA => ⟨?_, ?_⟩⟩
      · exact rover_err t 10 (-1) ad ws.length cap w hz' (by decide) (fun w1 M hE hB => refInst_order (P := M.tail reng0.step) (M.R + 1) M.R reng0.last t M.lv (.slice ad ws.length cap) reng0.kept w1 hE.sto h1)
      · refine over_err t 10 (-1) ad ws.length cap w hz' (fun w1 L hE hB => ?_)
        refine (install_order (L.s + 1) L.s eng0.last t (.slice ad ws.length cap) L.vs eng0.ks w1 hE.sto h1).mono ?_
        rintro e w2 ⟨rfl, rfl⟩
        exact ⟨_, _, rfl, .inr (.inl ⟨rfl, rfl⟩), Below.refl _ _⟩
    · have hne : ws ≠ [] := fun e => by rw [e] at h4; simp at h4
      have hc : c ≠ 0 := by rcases h5.ne with h | h <;> omega
      refine .inl ⟨c, i, hc, fun w ad cap hA => ?_⟩
      obtain ⟨b, off, rfl, hb, hr⟩ := hA hne
      refine ⟨?_, ?_⟩
      · refine rover_err t c i (some ⟨b, off, none⟩) ws.length cap w hz' hc (fun w1 M hE hB => ?_)
        have hs : w1.heap[b]? = w.heap[b]? := (hB.block b (by omega)).trans (Below.heap_alloc _ _ b hb)
        exact refInst_bad (P := M.tail reng0.step) (M.R + 1) M.R b off cap i reng0.last t c M.lv reng0.kept ws q w1 hE.sto (hr.same hs) (by have := hB.size; simp at this; omega) h3 h4 h5 h1 h2 (by omega)
      · refine over_err t c i (some ⟨b, off, none⟩) ws.length cap w hz' (fun w1 L hE hB => ?_)
        refine (install_bad (L.s + 1) L.s b off cap i eng0.last t c L.vs eng0.ks ws q w1 hE.sto (hr.same (hB.block b hb)) (Nat.lt_of_lt_of_le hb hB.size) h3 h4 h5 h1 h2 (by omega)).mono ?_
        rintro e w2 ⟨⟨pb, rfl, c0, c1⟩, hB2⟩
        exact ⟨_, _, rfl, .inr (.inr ⟨pb, rfl, c0, c1⟩), hB2⟩
    · have hrel := relO ⟨h1, h2⟩ h3
      refine .inr (fun w ad cap hA => ⟨?_, ?_⟩)
      · have key : Calls Tryz.prog 17 #[.int .i64 t, .slice ad ws.length cap] w fun e w' => ∃ M, e = .returned (.tuple #[.pointer (some ⟨M.R, 0, none⟩), .agg #[.int .i64 0, .int .i64 (-1)]]) ∧ REnAt w' M (rengO t ws) ∧ Below w.heap.size w w' ∧ ∀ g, M.own g → w.heap.size ≤ g := by
          refine rover_ok t (rengO t ws) ad ws.length cap w hz' (fun w1 M hE hB hO => ?_)
          by_cases hne : ws = []
          · subst hne
            refine (refInst_empty (P := M.tail reng0.step) (M.R + 1) M.R cap ad reng0.last t M.lv reng0.kept w1 hE.sto h1 h2).mono ?_
            rintro e w2 ⟨rfl, hS, hK⟩
            have e0 : addTo t [] 10 = [] := by simp [addTo, lastN]
            have hS' : Ref (M.tail reng0.step) w2 (M.R + 1) M.R t M.lv (addTo t [] 10) := by rw [e0]; exact hS
            obtain ⟨a1, a2⟩ := hE.setSto hS' hK (fun g hg => .inl hg)
            exact ⟨rfl, _, rfl, a1, a2⟩
          · obtain ⟨b, off, rfl, hb, hr⟩ := hA hne
            have hs : w1.heap[b]? = w.heap[b]? := (hB.block b (by omega)).trans (Below.heap_alloc _ _ b hb)
            have hlt := hE.lt
            have hbR : b ≠ M.R := fun e => by have := hO M.R (.inl rfl); omega
            refine (refInst_good (P := M.tail reng0.step) (M.R + 1) M.R b off cap reng0.last t M.lv reng0.kept ws w1 hE.sto hlt (hr.same hs) hbR (by have := hB.size; simp at this; omega) h3 h1 h2 (by omega) (by show 0 ≤ 10000; omega)).mono ?_
            rintro e w2 ⟨rfl, lv', hS, hK, hsub⟩
            obtain ⟨a1, a2⟩ := hE.setSto hS hK hsub
            exact ⟨rfl, { M with lv := lv' }, rfl, a1, a2⟩
        refine key.mono ?_
        rintro e w' ⟨M, he, k1, k2, k3⟩
        exact ⟨M, he, ⟨rengO t ws, k1, hrel⟩, k2, k3⟩
      · refine over_ok t (engO t ws) ad ws.length cap w hz' (fun w1 L hE hB hO => ?_)
        by_cases hne : ws = []
        · subst hne
          refine (install_empty (L.s + 1) L.s cap ad eng0.last t L.vs eng0.ks w1 hE.sto h1 h2).mono ?_
          rintro e w2 ⟨rfl, vs', hS, hK⟩
          obtain ⟨a1, a2⟩ := hE.setSto hS hK
          exact ⟨rfl, { L with vs := vs' }, rfl, a1, a2⟩
        · obtain ⟨b, off, rfl, hb, hr⟩ := hA hne
          refine (install_good (L.s + 1) L.s b off cap 0 t L.vs (List.replicate 10 []) ws w1 hE.sto (by have := hE.sto.lt; omega) (hr.same (hB.block b hb)) (fun hv => by have := hO b (.inr (.inl hv)); omega) (fun e => by have := hO L.s (.inl rfl); omega) (Nat.lt_of_lt_of_le hb hB.size) h3 (by omega) h2 (by omega) (fun l hl => by simp at hl; rw [hl]; simp)).mono ?_
          rintro e w2 ⟨rfl, vs', hS, hK⟩
          obtain ⟨a1, a2⟩ := hE.setSto hS hK
          exact ⟨rfl, { L with vs := vs' }, rfl, a1, a2⟩
end Go.Proofs.YtjefgmeejhakbaaGreatDoor

/- Both engines, one act behind the other. -/
namespace Go.Proofs.YtjefgmeejhakbaaGreatDoor
open Go.RowKit
section
variable {b0 : Nat} {w0 w w' : World} {L : EnL} {M : REnL} {B B' : Nat} {E : Eng}
theorem DuoOk.posts (h : DuoOk b0 w L M B E) : ActPost b0 L M B w w := ⟨L, M, E, h, Below.refl _ _, rfl, rfl, KeptO.refl _ _⟩
theorem ActPost.from {w1 : World} (hB : Below w0.heap.size w0 w1) (hb : b0 ≤ w0.heap.size) (h : ActPost b0 L M B w1 w) : ActPost b0 L M B w0 w := by
  obtain ⟨L', M', E', a, b, c, d, k⟩ := h
  exact ⟨L', M', E', a, (hB.mono hb).trans b, c, d, (KeptO.of_below hB).trans k⟩
theorem ActPost.frame (h : ActPost b0 L M B w0 w) : Below b0 w0 w := by
  obtain ⟨L', M', E', a, b, c⟩ := h
  exact b
theorem ActPost.below (h : ActPost b0 L M B w0 w) (hB : Below w.heap.size w w') : ActPost b0 L M B w0 w' := by
  obtain ⟨L', M', E', a, b, c, d, k⟩ := h
  have hle := a.le
  have hsz := hB.size
  exact ⟨L', M', E', ⟨a.duo.below hB, a.mid, a.low, by omega, a.pos, a.hand.below hB (by have := a.pos; omega)⟩, b.trans (hB.mono hle), c, d, k.trans (KeptO.of_below hB)⟩
theorem ActPost.act (h : ActPost b0 L M B w0 w) (hB : B + 30000 ≤ 10000000) (wh tx key val : Int) (hk : I64 key) :
    Calls Tryz.prog 20 #[.pointer (some ⟨L.s, 0, none⟩), .pointer (some ⟨M.R, 0, none⟩), .agg #[.int .i64 wh, .int .i64 tx, .int .i64 key, .int .i64 val]] w fun e w' => e = .returned (.bool true) ∧ ActPost b0 L M (B + 30000) w0 w' := by
  obtain ⟨L', M', E', hD, hB1, e1, e2, k1⟩ := h
  have := act_any hD hB wh tx key val hk
  rw [e1, e2] at this
  refine this.mono ?_
  rintro e w' ⟨he, L2, M2, E2, hD2, hB2, e3, e4, k2⟩
  exact ⟨he, L2, M2, E2, hD2, hB1.trans hB2, e3.trans e1, e4.trans e2, k1.trans k2⟩
theorem ActPost.begin (h : ActPost b0 L M B w0 w) (hB : B + 1001 ≤ 10000000) (tx key val : Int) :
    Calls Tryz.prog 20 #[.pointer (some ⟨L.s, 0, none⟩), .pointer (some ⟨M.R, 0, none⟩), .agg #[.int .i64 0, .int .i64 tx, .int .i64 key, .int .i64 val]] w fun e w' => e = .returned (.bool true) ∧ ActPost b0 L M (B + 1001) w0 w' := by
  obtain ⟨L', M', E', hD, hB1, e1, e2, k1⟩ := h
  have := act_begin hD (by omega) tx key val
  rw [e1, e2] at this
  refine this.mono ?_
  rintro e w' ⟨he, L2, M2, E2, hD2, hB2, e3, e4, k2⟩
  exact ⟨he, L2, M2, E2, hD2, hB1.trans hB2, e3.trans e1, e4.trans e2, k1.trans k2⟩
theorem ActPost.abort (h : ActPost b0 L M B w0 w) (hB : B ≤ 10000000) (tx key val : Int) :
    Calls Tryz.prog 20 #[.pointer (some ⟨L.s, 0, none⟩), .pointer (some ⟨M.R, 0, none⟩), .agg #[.int .i64 4, .int .i64 tx, .int .i64 key, .int .i64 val]] w fun e w' => e = .returned (.bool true) ∧ ActPost b0 L M B w0 w' := by
  obtain ⟨L', M', E', hD, hB1, e1, e2, k1⟩ := h
  have := act_abort hD hB tx key val
  rw [e1, e2] at this
  refine this.mono ?_
  rintro e w' ⟨he, L2, M2, E2, hD2, hB2, e3, e4, k2⟩
  exact ⟨he, L2, M2, E2, hD2, hB1.trans hB2, e3.trans e1, e4.trans e2, k1.trans k2⟩
theorem ActPost.alike (h : ActPost b0 L M B w0 w) (hB : B ≤ 10000000) :
    Calls Tryz.prog 21 #[.pointer (some ⟨L.s, 0, none⟩), .pointer (some ⟨M.R, 0, none⟩)] w fun e w' => e = .returned (.bool true) ∧ ActPost b0 L M B w0 w' := by
  have h' := h
  obtain ⟨L', M', E', hD, hB1, e1, e2, k1⟩ := h
  have := alike_true hD hB
  rw [e1, e2] at this
  exact this.mono (fun e w' hh => ⟨hh.1, h'.below hh.2⟩)
end
end Go.Proofs.YtjefgmeejhakbaaGreatDoor

/- law.EnginePlays: its walk. -/
namespace Go.Proofs.YtjefgmeejhakbaaGreatDoor
open Go.RowKit
set_option maxHeartbeats 2000000 in
theorem eplays_long (a b : Int) (ad hd : Option Addr) (n cap m hcap : Nat) (w : World) (h : 100 < m ∨ 20 < n) :
    Calls Tryz.prog 4 #[.int .i64 a, .slice ad n cap, .slice hd m hcap, .int .i64 b] w fun e w' => e = .returned (.bool true) ∧ Below w.heap.size w w' := by
  by_cases h1 : 100 < m
  · have g1 : (100 : Int) < (m : Int) := by omega
    clear h h1
    go_enter Tryz.func4, Tryz.ntmps4
    go_wp2
    go_ret
    exact ⟨rfl, Below.refl _ _⟩
  · have g1 : ¬ (100 : Int) < (m : Int) := by omega
    have g2 : (20 : Int) < (n : Int) := by omega
    clear h h1
    go_enter Tryz.func4, Tryz.ntmps4
    go_wp2
    go_ret
    exact ⟨rfl, Below.refl _ _⟩
theorem fault_box {w1 w3 : World} {c p : Int} (hB : Below (w1.heap.size + 1) (w1.alloc (.cells #[.int .i64 c, .int .i64 p] 26)) w3) :
    w3.cell? ⟨w1.heap.size, 0, none⟩ = some (.int .i64 c) ∧ w3.cell? ⟨w1.heap.size, 1, none⟩ = some (.int .i64 p) := by
  have h3 := (hB.block w1.heap.size (Nat.lt_succ_self _)).trans (heap_alloc_new w1 (.cells #[.int .i64 c, .int .i64 p] 26))
  exact ⟨(cell_of_row _ _ 0 _ 26 (0, 0) h3).trans rfl, (cell_of_row _ _ 1 _ 26 (0, 0) h3).trans rfl⟩
set_option maxRecDepth 100000 in
set_option maxHeartbeats 4000000 in
theorem eplays_bad (a b c p : Int) (ad hd : Option Addr) (n cap m hcap : Nat) (w : World) (hn : n ≤ 20) (hm : m ≤ 100) (hH : Handle w) (hc : c ≠ 0)
    (hR : Calls Tryz.prog 17 #[.int .i64 a, .slice ad n cap] w fun e w' => e = .returned (.tuple #[.pointer none, .agg #[.int .i64 c, .int .i64 p]]) ∧ Below w.heap.size w w')
    (hE : ∀ W, Below w.heap.size w W → Calls Tryz.prog 18 #[.int .i64 a, .slice ad n cap] W fun e w' => ∃ T x, e = .returned (.tuple #[.pointer none, .iface T x]) ∧ ErrIs w' (.iface T x) c p ∧ Below W.heap.size W w') :
    Calls Tryz.prog 4 #[.int .i64 a, .slice ad n cap, .slice hd m hcap, .int .i64 b] w fun e w' => e = .returned (.bool true) ∧ Below w.heap.size w w' := by
  have g1 : ¬ (100 : Int) < (m : Int) := by omega
  have g2 : ¬ (20 : Int) < (n : Int) := by omega
  have hcz : (c != 0) = true := by simpa using hc
  have HR := hid hR
  have HE := hid hE
  have HH := hid hH
  have hpos := hH.pos
  clear hR hE hc hm hn hH
  go_enter Tryz.func4, Tryz.ntmps4
  go_wp2_with fail
  refine HR.out.mono ?_
  rintro e w1 ⟨rfl, hB1⟩
  have HB1 := hid hB1
  have hs1 := hB1.size
  clear hB1 HR
  go_wp2_with fail
  refine (HE.out _ (HB1.out.alloc hs1 _)).mono ?_
  rintro e w3 ⟨T, x, rfl, hI3, hB3⟩
  obtain ⟨c0, c1⟩ := fault_box (w1 := w1) (w3 := w3) (c := c) (p := p) (by simpa using hB3)
  have hs3 := hB3.size
  simp at hs3
  have HB3 := hid (show Below w.heap.size w w3 from (HB1.out.alloc hs1 _).trans (hB3.mono (by simp; omega)))
  have HI3 := hid hI3
  clear hI3 hB3 HE HB1
  go_wp2_with fail
  refine (is_true c p (.iface T x) w3 HI3.out (HH.out.below HB3.out hpos)).mono ?_
  rintro e w4 ⟨rfl, hB4⟩
  have HB4 := hid (HB3.out.trans (hB4.mono HB3.out.size))
  clear hB4 HI3 c0 c1
  go_wp2
  go_ret
  exact ⟨rfl, HB4.out⟩
theorem many_nat (m b : Int) (hm : 0 < m ∧ m ≤ 1000) : ∃ k : Nat, wrap64 ((IntKind.u64.wrap b).tmod m) = (k : Int) ∧ (k : Int) < m := by
  have h0 : 0 ≤ IntKind.u64.wrap b := by simp [IntKind.wrap, IntKind.signed, IntKind.bits]; omega
  have h1 := Int.emod_nonneg (IntKind.u64.wrap b) (b := m) (by omega)
  have h2 := Int.emod_lt_of_pos (IntKind.u64.wrap b) (b := m) hm.1
  rw [Int.tmod_eq_emod_of_nonneg h0]
  refine ⟨(IntKind.u64.wrap b % m).toNat, ?_, by omega⟩
  rw [IntWalk.wrap64_in _ (by omega)]
  omega
set_option maxRecDepth 100000 in
set_option maxHeartbeats 8000000 in
theorem eplays_good (a b : Int) (E : Eng) (ad hd : Option Addr) (n cap m hcap : Nat) (w : World) (hn : n ≤ 20) (hm : m ≤ 100) (hH : Handle w) (hA : LActsAt w hd m) (hM : Mid2 E.ce noQ)
    (hR : Calls Tryz.prog 17 #[.int .i64 a, .slice ad n cap] w fun e w' => ∃ M, e = .returned (.tuple #[.pointer (some ⟨M.R, 0, none⟩), .agg #[.int .i64 0, .int .i64 (-1)]]) ∧ RefAt w' M 10000 E ∧ Below w.heap.size w w' ∧ ∀ g, M.own g → w.heap.size ≤ g)
    (hE : ∀ W, Below w.heap.size w W → Calls Tryz.prog 18 #[.int .i64 a, .slice ad n cap] W fun e w' => ∃ L, e = .returned (.tuple #[.pointer (some ⟨L.s, 0, none⟩), .nilIface]) ∧ EnAt w' L E ∧ Below W.heap.size W w' ∧ ∀ g, L.own g → W.heap.size ≤ g) :
    Calls Tryz.prog 4 #[.int .i64 a, .slice ad n cap, .slice hd m hcap, .int .i64 b] w fun e w' => e = .returned (.bool true) ∧ Below w.heap.size w w' := by
  have g1 : ¬ (100 : Int) < (m : Int) := by omega
  have g2 : ¬ (20 : Int) < (n : Int) := by omega
  have HR := hid hR
  have HE := hid hE
  have HH := hid hH
  have HA := hid hA
  have HM := hid hM
  have hpos := hH.pos
  obtain ⟨k, hk, hk200⟩ := many_nat 201 b (by omega)
  clear hR hE hn hH hA hM
  go_enter Tryz.func4, Tryz.ntmps4
  go_wp2_with fail
  refine HR.out.mono ?_
  rintro e w1 ⟨M, rfl, hR1, hB1, hO1⟩
  have H1 := hid (And.intro hR1 (And.intro hB1 hO1))
  have hs1 := hB1.size
  clear hR1 hB1 hO1 HR
  go_wp2_with fail
  refine (HE.out _ (H1.out.2.1.alloc hs1 _)).mono ?_
  rintro e w3 ⟨L, rfl, hE3, hB3, hO3⟩
  obtain ⟨c0, c1⟩ := fault_box (w1 := w1) (w3 := w3) (c := 0) (p := -1) (by simpa using hB3)
  have hs3 := hB3.size
  simp at hs3 hO3
  have hB13 : Below w1.heap.size w1 w3 := ((Below.refl w1.heap.size w1).alloc (Nat.le_refl _) _).trans (hB3.mono (by simp))
  have HB3 := hid (H1.out.2.1.trans (hB13.mono hs1))
  have HD : Hid (DuoOk w.heap.size w3 L M 10000 E) := ⟨⟨hE3, H1.out.1.below hB13, fun g h1 h2 => by have := hO3 g h1; have := H1.out.1.own_lt h2; omega⟩, HM.out, fun g hg => by
    rcases hg with h | h
    · have := hO3 g h; omega
    · exact H1.out.2.2 g h, by omega, hpos, HH.out.below HB3.out hpos⟩
  have HN := hid (new_any w3)
  clear hE3 hB3 hO3 HE H1 hB13 HM HH
  go_wp2_with fail
  refine HN.out.mono ?_
  rintro e w4 ⟨L4, rfl, _, hB4, _⟩
  have HP : Hid (ActPost w.heap.size L M 10000 w w4) := (HD.out.posts.below hB4).from HB3.out (Nat.le_refl _)
  clear hB4 HN HD HB3 c0 c1
  go_wp2
  go_loopw [13] (fun v wr => ∃ j : Nat, j ≤ k ∧ v = .int .i64 j ∧ Hid (ActPost w.heap.size L M (10000 + j * 1001) w wr)) (fun v _ => k - (intOf v).toNat)
  case atStart => exact ⟨0, Nat.zero_le _, rfl, HP⟩
  case round =>
    obtain ⟨j, hj, rfl, HJ⟩ := hrel
    clear HP
    by_cases hlt : j < k
    · have hlt' : (j : Int) < (k : Int) := by omega
      have HB := hid (show 10000 + j * 1001 + 1001 ≤ 10000000 from by omega)
      have gw : IntKind.i64.wrap ((j : Int) + 1) = (j : Int) + 1 := IntWalk.i64_in _ (by omega)
      go_wp2_with fail
      refine (HJ.out.begin HB.out 0 0 0).mono ?_
      rintro e w5 ⟨rfl, h5⟩
      have H5 := hid h5
      clear h5 HJ
      go_wp2_with fail
      refine (H5.out.abort (by have := HB.out; omega) _ 0 0).mono ?_
      rintro e w6 ⟨rfl, h6⟩
      have H6 := hid h6
      clear h6 H5
      go_wp2
      go_roundw
      case rel => exact ⟨j + 1, by omega, by go_num, by show ActPost _ _ _ _ _ _; have := H6.out; rw [show 10000 + (j + 1) * 1001 = 10000 + j * 1001 + 1001 by omega]; exact this⟩
      case measure => simp [intOf]; omega
    · have hge : ¬ (j : Int) < (k : Int) := by omega
      have HQ : Hid (ActPost w.heap.size L M 500000 w wr) := HJ.out.mono (by omega)
      clear HJ hlt
      go_wp2
      go_loopw [14] (fun v wz => ∃ i : Nat, i ≤ m ∧ v = .int .i64 i ∧ Hid (ActPost w.heap.size L M (500000 + i * 30000) w wz)) (fun v _ => m - (intOf v).toNat)
      case atStart => exact ⟨0, Nat.zero_le _, rfl, HQ⟩
      case round =>
        obtain ⟨i, hi, rfl, HI⟩ := hrel
        clear HQ
        by_cases hlt2 : i < m
        · have hlt2' : (i : Int) < (m : Int) := by omega
          have hi0 : (0 : Int) ≤ (i : Int) := by omega
          obtain ⟨bb, off, a0, a1, a2, a3, rfl, hk2, z0, z1, z2, z3⟩ := HA.out i hlt2
          have hbb : bb < w.heap.size := World.block_lt_of_cell? w _ z0
          have y0 := (HI.out.frame.cell (p := ⟨bb, off + i * 4, none⟩) hbb).trans z0
          have y1 := (HI.out.frame.cell (p := ⟨bb, off + i * 4 + 1, none⟩) hbb).trans z1
          have y2 := (HI.out.frame.cell (p := ⟨bb, off + i * 4 + 2, none⟩) hbb).trans z2
          have y3 := (HI.out.frame.cell (p := ⟨bb, off + i * 4 + 3, none⟩) hbb).trans z3
          have HB := hid (show 500000 + i * 30000 + 30000 ≤ 10000000 from by omega)
          have HK2 := hid hk2
          clear z0 z1 z2 z3 hk2
          go_wp2_with fail
          refine (HI.out.act HB.out a0 a1 a2 a3 HK2.out).mono ?_
          rintro e w5 ⟨rfl, h5⟩
          have H5 := hid h5
          clear h5 HI y0 y1 y2 y3
          go_wp2_with fail
          refine (H5.out.alike HB.out).mono ?_
          rintro e w6 ⟨rfl, h6⟩
          have H6 := hid h6
          clear h6 H5
          go_wp2
          go_roundw
          case rel => exact ⟨i + 1, by omega, by go_num, by show ActPost _ _ _ _ _ _; have := H6.out; rw [show 500000 + (i + 1) * 30000 = 500000 + i * 30000 + 30000 by omega]; exact this⟩
          case measure => simp [intOf]; omega
        · have hge2 : ¬ (i : Int) < (m : Int) := by omega
          clear hlt2
          go_wp2_with fail
          refine (HI.out.alike (by omega)).mono ?_
          rintro e w6 ⟨rfl, h6⟩
          have H6 := hid h6.frame
          clear h6 HI
          go_wp2
          go_ret
          exact ⟨rfl, H6.out⟩
theorem eplays_walk (a b : Int) (ad hd : Option Addr) (ws : List (Int × Int)) (cap m hcap : Nat) (w : World) (hn : ws.length ≤ 20) (hm : m ≤ 100) (hO : WsAt w ad ws) (hA : LActsAt w hd m) (hH : Handle w) :
    Calls Tryz.prog 4 #[.int .i64 a, .slice ad ws.length cap, .slice hd m hcap, .int .i64 b] w fun e w' => e = .returned (.bool true) ∧ Below w.heap.size w w' := by
  rcases over_both a ws hn with ⟨c, p, hc, h⟩ | h
  · exact eplays_bad a b c p ad hd ws.length cap m hcap w hn hm hH hc (h w ad cap hO).1 (fun W hB => (h W ad cap (hO.below hB)).2)
  · exact eplays_good a b (engO a ws) ad hd ws.length cap m hcap w hn hm hH hA (mid2O a ws) (h w ad cap hO).1 (fun W hB => (h W ad cap (hO.below hB)).2)
end Go.Proofs.YtjefgmeejhakbaaGreatDoor
