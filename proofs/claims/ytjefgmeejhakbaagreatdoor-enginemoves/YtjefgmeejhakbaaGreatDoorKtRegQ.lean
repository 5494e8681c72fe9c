/- keep's does: a read is noted (the region that appends it, in whatever order). -/
import Derived.Test.YtjefgmeejhakbaaGreatDoorMgARQ
import Derived.Test.YtjefgmeejhakbaaGreatDoorMgAOQ
namespace Go.Proofs.YtjefgmeejhakbaaGreatDoor
open Go.RowKit
def findRegion (n : Nat) : Code → Option (Array Oper)
  | .region id ops _ => if id = n then some ops else none
  | .loop c => findRegion n c
  | .seq a b => match findRegion n a with
    | some c => some c
    | none => findRegion n b
  | .block _ c => findRegion n c
  | .scope c => findRegion n c
  | .cond _ a b => match findRegion n a with
    | some c => some c
    | none => findRegion n b
  | _ => none
noncomputable def ops35 : Array Oper := ((Tryz.f24.body.bind (findRegion 35)).getD #[])
def pB2 (B : Nat) (key vv : Int) (v : Value) (w : World) : Prop := ∃ b, v = .slice (some ⟨b, 0, none⟩) 1 1 ∧ w.heap[b]? = some (.cells #[.int .i64 key, .int .i64 vv] 75 (0, 0)) ∧ B ≤ b
def pR (B : Nat) (v0 : Value) (l : List (Int × Int)) (v : Value) (w : World) : Prop := w.ownsRow 0 75 2 v l.length (vrow l) ∧ ∀ b, v.ownBlock = some b → v0.ownBlock = some b ∨ B ≤ b
def p35 (tb g x N cap B : Nat) (v : Value) (key vv : Int) (l : List (Int × Int)) (i : Nat) (u : Value) (w : World) : Prop := match i with
  | 2 => u = .pointer (some ⟨tb, 4, none⟩)
  | 7 => u = .pointer (some ⟨tb, 4, none⟩)
  | 3 => u = .slice (some ⟨g, 0, none⟩) N cap
  | 8 => u = .slice (some ⟨g, 0, none⟩) N cap
  | 4 => u = .int .i64 (x : Int)
  | 9 => u = .int .i64 (x : Int)
  | 10 => u = .pointer (some ⟨g, x, none⟩)
  | 17 => u = .pointer (some ⟨g, x, none⟩)
  | 11 => u = v
  | 12 => u = .int .i64 key
  | 13 => u = .int .i64 vv
  | 14 => u = .agg #[.int .i64 key, .int .i64 vv]
  | 15 => pB2 B key vv u w
  | 16 => pR B v (l ++ [(key, vv)]) u w
  | 18 => True
  | _ => u = .pointer (some ⟨tb, 0, none⟩)
theorem p35_stay {tb g x N cap B : Nat} {v : Value} {key vv : Int} {l : List (Int × Int)} {hh : Nat → Prop} {W W' : World} {i : Nat} (hc : Chg hh W W') (hB : ∀ b, hh b → b < B ∧ (i ≠ 16 → v.ownBlock ≠ some b)) (j : Nat) (u : Value) (hj : j ≠ i) (h : p35 tb g x N cap B v key vv l j u W) : p35 tb g x N cap B v key vv l j u W' := by
  unfold p35 at h ⊢
  split at h
  case h_13 =>
    obtain ⟨b, e, hb, hBb⟩ := h
    exact ⟨b, e, (hc.block b (blk_lt hb) (fun e => by have := (hB b e).1; omega)).trans hb, hBb⟩
  case h_14 =>
    refine ⟨owns_same h.1 (fun b hb => hc.block b (owns_lt h.1 hb) (fun e => ?_)), h.2⟩
    rcases h.2 b hb with h1 | h1
    · exact (hB b e).2 (fun e => hj e.symm) h1
    · have := (hB b e).1; omega
  all_goals first | exact h | (split <;> first | exact h | contradiction)
structure Stage35 (wB : World) (g x : Nat) (v : Value) (l : List (Int × Int)) (listed : Array Bool) (a : Act) (w : World) : Prop where
  pre : ¬ DoneAt listed 18 → Chg (fun b => DoneAt listed 16 ∧ v.ownBlock = some b) wB w
  fin : DoneAt listed 18 → ∃ w1, w = w1.setCell ⟨g, x, none⟩ (a.tmps.getD 258 undef) ∧ Chg (fun b => v.ownBlock = some b) wB w1 ∧ pR wB.heap.size v l (a.tmps.getD 258 undef) w1
theorem Chg.cellOf {h : Nat → Prop} {w w' : World} (hc : Chg h w w') {b o : Nat} (hb : b < w.heap.size) (hn : ¬ h b) : w'.cell? ⟨b, o, none⟩ = w.cell? ⟨b, o, none⟩ := World.cell?_of_block (a := ⟨b, o, none⟩) (hc.block b hb hn)
theorem Chg.trans {h k j : Nat → Prop} {a b c : World} (h1 : Chg h a b) (h2 : Chg k b c) (hh : ∀ g, h g → j g) (hk : ∀ g, k g → j g) : Chg j a c := ⟨h2.os.trans h1.os, h2.tape.trans h1.tape, h2.output.trans h1.output, Nat.le_trans h1.size h2.size, fun g hg hn => (h2.block g (Nat.lt_of_lt_of_le hg h1.size) (fun e => hn (hk g e))).trans (h1.block g hg (fun e => hn (hh g e)))⟩
section
variable {wB w w' : World} {g x : Nat} {v : Value} {l : List (Int × Int)} {listed : Array Bool} {a : Act}
theorem Stage35.pure (h : Stage35 wB g x v l listed a w) (n18 : ¬ DoneAt listed 18) {i : Nat} {d : Option Nat} {u : Value} (hi : i ≠ 16 ∧ i ≠ 18) (hc : Chg (fun _ => False) w w') : Stage35 wB g x v l (listed.setIfInBounds i true) (a.put d u) w' :=
  ⟨fun _ => (h.pre n18).trans hc (fun _ hb => ⟨done_mono hb.1, hb.2⟩) (fun _ hb => hb.elim), fun hd => (n18 ((done_set_ne hi.2.symm).1 hd)).elim⟩
theorem Stage35.app (h : Stage35 wB g x v l listed a w) (n18 : ¬ DoneAt listed 18) {d : Option Nat} {u : Value} (hc : Chg (fun b => v.ownBlock = some b) w w') (hs : 16 < listed.size) : Stage35 wB g x v l (listed.setIfInBounds 16 true) (a.put d u) w' :=
  ⟨fun _ => (h.pre n18).trans hc (fun _ hb => ⟨done_mono hb.1, hb.2⟩) (fun _ hb => ⟨done_self hs, hb⟩), fun hd => (n18 ((done_set_ne (by omega)).1 hd)).elim⟩
theorem Stage35.store (h : Stage35 wB g x v l listed a w) (n18 : ¬ DoneAt listed 18) (hp : pR wB.heap.size v l (a.tmps.getD 258 undef) w) (hs : 18 < listed.size) : Stage35 wB g x v l (listed.setIfInBounds 18 true) (a.put none undef) (w.setCell ⟨g, x, none⟩ (a.tmps.getD 258 undef)) :=
  ⟨fun hn => (hn (done_self hs)).elim, fun _ => ⟨w, rfl, (h.pre n18).trans (Chg.refl _) (fun _ hb => hb.2) (fun _ hb => hb.elim), hp⟩⟩
end
set_option maxRecDepth 1000000 in
set_option maxHeartbeats 4000000 in
theorem reads_region {wB : World} {s N x g cap : Nat} {TL : TalL} {t : Tal} {v : Value} {l : List (Int × Int)} {key vv : Int} (hT : TalAt wB s TL t N) (hv0 : TL.rd[x]? = some v) (hl : t.reads[x]? = some l) (hr : TL.row 3 = .slice (some ⟨g, 0, none⟩) N cap) (hx : x < N) (hlen : l.length ≤ 100000) (Q : Exit → Act → World → Prop)
    (a : Act) (hsz : a.tmps.size = 394) (hd : a.defers = []) (h0 : a.tmps.getD 0 undef = .pointer (some ⟨TL.b, 0, none⟩)) (h6 : a.tmps.getD 6 undef = .int .i64 key) (h11 : a.tmps.getD 11 undef = .int .i64 (x : Int)) (h13 : a.tmps.getD 13 undef = .int .i64 vv)
    (hfin : ∀ (a' : Act) (w' : World) (v' : Value), a'.tmps.size = 394 → a'.defers = [] → a'.tmps.getD 0 undef = .pointer (some ⟨TL.b, 0, none⟩) → TalAt w' s { TL with rd := TL.rd.set x v' } { t with reads := t.reads.set x (l ++ [(key, vv)]) } N ∧ KeptO TL.own ({ TL with rd := TL.rd.set x v' } : TalL).own wB w' → Q .normal a' w') :
    Code.wp Tryz.prog (Code.region 35 ops35 true) Q a wB := by
  have wrow := hT.rd x v l hv0 hl
  have hg : (TL.row 3).ownBlock = some g := by rw [hr]; rfl
  have hgl := owns_lt (hT.rows 3 (by omega)) hg
  have hbl : TL.b < wB.heap.size := hT.own_lt (.inl rfl)
  obtain ⟨ρ, T⟩ := hT.tag
  have hvg : v.ownBlock ≠ some g := fun e => by
    have h1 := T.rd x v g hv0 e
    rw [T.row 3 g (by omega) hg] at h1
    cases h1
  have hvb : v.ownBlock ≠ some TL.b := fun e => by
    have h1 := T.rd x v _ hv0 e
    rw [T.b] at h1
    cases h1
  have wc4 : wB.cell? ⟨TL.b, 4, none⟩ = some (.slice (some ⟨g, 0, none⟩) N cap) := by
    have := hT.cell 4
    simp only [talCells, List.getElem?_toArray, List.getElem?_cons_zero, List.getElem?_cons_succ] at this
    rw [hr] at this
    exact this
  have wcx : wB.cell? ⟨g, x, none⟩ = some v := by
    have h3 := hT.rows 3 (by omega)
    rw [hr] at h3
    have := h3.cells (g := g) rfl x v hv0
    rwa [addr_add] at this
  have g1 : (x : Int) < (N : Int) := by omega
  have g2 : (0 : Int) ≤ (x : Int) := by omega
  have g3 : ((x : Int)).toNat = x := by omega
  conv => arg 2; arg 2; whnf
  refine region_plan (by rfl) (p35 TL.b g x N cap wB.heap.size v key vv l) (Stage35 wB g x v (l ++ [(key, vv)]))
    [(0, .pointer (some ⟨TL.b, 0, none⟩)), (6, .int .i64 key), (11, .int .i64 (x : Int)), (13, .int .i64 vv)] 394 (by rfl) (by rfl) ⟨fun _ => ⟨rfl, rfl, rfl, Nat.le_refl _, fun _ _ _ => rfl⟩, fun h => (not_done_replicate _ _ h).elim⟩ ?fix hsz [] hd ?step ?fin
  case fix =>
    intro q hq
    simp only [List.mem_cons, List.not_mem_nil, or_false] at hq
    rcases hq with rfl | rfl | rfl | rfl
    · exact h0
    · exact h6
    · exact h11
    · exact h13
  case fin =>
    intro listed a' W hdn hG hL hF hsz' hd'
    obtain ⟨w1, rfl, hC, hp⟩ := hG.fin (hdn 18 (by show 18 < 19; omega))
    exact hfin a' _ _ hsz' hd' (hF (0, .pointer (some ⟨TL.b, 0, none⟩)) (by simp)) (hT.setRead hv0 hl hr hC hp.1 hp.2)
  case step =>
  clear h0 h6 h11 h13 hsz hd
  intro i o listed a W hi ho hls hcl haft hnd hG hL hF hsz4
  have hi' : i < 19 := hi
  have f0 : a.tmps.getD 0 undef = .pointer (some ⟨TL.b, 0, none⟩) := hF (0, .pointer (some ⟨TL.b, 0, none⟩)) (by simp)
  have f6 : a.tmps.getD 6 undef = .int .i64 key := hF (6, .int .i64 key) (by simp)
  have f11 : a.tmps.getD 11 undef = .int .i64 (x : Int) := hF (11, .int .i64 (x : Int)) (by simp)
  have f13 : a.tmps.getD 13 undef = .int .i64 vv := hF (13, .int .i64 vv) (by simp)
  obtain rfl | rfl | rfl | rfl | rfl | rfl | rfl | rfl | rfl | rfl | rfl | rfl | rfl | rfl | rfl | rfl | rfl | rfl | rfl : i = 0 ∨ i = 1 ∨ i = 2 ∨ i = 3 ∨ i = 4 ∨ i = 5 ∨ i = 6 ∨ i = 7 ∨ i = 8 ∨ i = 9 ∨ i = 10 ∨ i = 11 ∨ i = 12 ∨ i = 13 ∨ i = 14 ∨ i = 15 ∨ i = 16 ∨ i = 17 ∨ i = 18 := by omega
  · obtain rfl := Option.some.inj ho
    have n18 : ¬ DoneAt listed 18 := fun h => hnd (hcl 18 _ rfl h ⟨0, .phase⟩ (by simp) rfl)
    have C := hG.pre n18
    exact wpOp_val ho rfl (v := a.tmps.getD 0 undef) (w' := W) rfl ⟨_, rfl, f0, hG.pure n18 (i := 0) (by omega) (Chg.refl _), fun _ _ _ _ h => h⟩
  · obtain rfl := Option.some.inj ho
    have n18 : ¬ DoneAt listed 18 := fun h => hnd (hcl 18 _ rfl h ⟨1, .phase⟩ (by simp) rfl)
    have C := hG.pre n18
    have e : a.tmps.getD 242 undef = .pointer (some ⟨TL.b, 0, none⟩) := hL 0 _ 242 rfl rfl (haft ⟨0, .data⟩ (by simp) rfl)
    refine wpOp_val ho rfl (v := .pointer (some ⟨TL.b, 0, none⟩)) (w' := W) ?_ ⟨_, rfl, rfl, hG.pure n18 (i := 1) (by omega) (Chg.refl _), fun _ _ _ _ h => h⟩
    simp [execOp, Act.eval, e, go_sem]
  · obtain rfl := Option.some.inj ho
    have n18 : ¬ DoneAt listed 18 := fun h => hnd (hcl 18 _ rfl h ⟨2, .phase⟩ (by simp) rfl)
    have C := hG.pre n18
    have e : a.tmps.getD 243 undef = .pointer (some ⟨TL.b, 0, none⟩) := hL 1 _ 243 rfl rfl (haft ⟨1, .data⟩ (by simp) rfl)
    refine wpOp_val ho rfl (v := .pointer (some ⟨TL.b, 4, none⟩)) (w' := W) ?_ ⟨_, rfl, rfl, hG.pure n18 (i := 2) (by omega) (Chg.refl _), fun _ _ _ _ h => h⟩
    simp [execOp, Act.eval, e, go_sem]
  · obtain rfl := Option.some.inj ho
    have n18 : ¬ DoneAt listed 18 := fun h => hnd (hcl 18 _ rfl h ⟨3, .phase⟩ (by simp) rfl)
    have C := hG.pre n18
    have e : a.tmps.getD 244 undef = .pointer (some ⟨TL.b, 4, none⟩) := hL 2 _ 244 rfl rfl (haft ⟨2, .data⟩ (by simp) rfl)
    have hc4 : W.cell? ⟨TL.b, 4, none⟩ = some (.slice (some ⟨g, 0, none⟩) N cap) := (C.cellOf hbl (fun h => hvb h.2)).trans wc4
    refine wpOp_val ho rfl (v := .slice (some ⟨g, 0, none⟩) N cap) (w' := W) ?_ ⟨_, rfl, rfl, hG.pure n18 (i := 3) (by omega) (Chg.refl _), fun _ _ _ _ h => h⟩
    simp [execOp, Act.eval, e, hc4, go_sem]
  · obtain rfl := Option.some.inj ho
    have n18 : ¬ DoneAt listed 18 := fun h => hnd (hcl 18 _ rfl h ⟨4, .phase⟩ (by simp) rfl)
    have C := hG.pre n18
    exact wpOp_val ho rfl (v := a.tmps.getD 11 undef) (w' := W) rfl ⟨_, rfl, f11, hG.pure n18 (i := 4) (by omega) (Chg.refl _), fun _ _ _ _ h => h⟩
  · obtain rfl := Option.some.inj ho
    have n18 : ¬ DoneAt listed 18 := fun h => hnd (hcl 18 _ rfl h ⟨5, .phase⟩ (by simp) rfl)
    have C := hG.pre n18
    exact wpOp_val ho rfl (v := a.tmps.getD 0 undef) (w' := W) rfl ⟨_, rfl, f0, hG.pure n18 (i := 5) (by omega) (Chg.refl _), fun _ _ _ _ h => h⟩
  · obtain rfl := Option.some.inj ho
    have n18 : ¬ DoneAt listed 18 := fun h => hnd (hcl 18 _ rfl h ⟨6, .phase⟩ (by simp) rfl)
    have C := hG.pre n18
    have e : a.tmps.getD 247 undef = .pointer (some ⟨TL.b, 0, none⟩) := hL 5 _ 247 rfl rfl (haft ⟨5, .data⟩ (by simp) rfl)
    refine wpOp_val ho rfl (v := .pointer (some ⟨TL.b, 0, none⟩)) (w' := W) ?_ ⟨_, rfl, rfl, hG.pure n18 (i := 6) (by omega) (Chg.refl _), fun _ _ _ _ h => h⟩
    simp [execOp, Act.eval, e, go_sem]
  · obtain rfl := Option.some.inj ho
    have n18 : ¬ DoneAt listed 18 := fun h => hnd (hcl 18 _ rfl h ⟨7, .phase⟩ (by simp) rfl)
    have C := hG.pre n18
    have e : a.tmps.getD 248 undef = .pointer (some ⟨TL.b, 0, none⟩) := hL 6 _ 248 rfl rfl (haft ⟨6, .data⟩ (by simp) rfl)
    refine wpOp_val ho rfl (v := .pointer (some ⟨TL.b, 4, none⟩)) (w' := W) ?_ ⟨_, rfl, rfl, hG.pure n18 (i := 7) (by omega) (Chg.refl _), fun _ _ _ _ h => h⟩
    simp [execOp, Act.eval, e, go_sem]
  · obtain rfl := Option.some.inj ho
    have n18 : ¬ DoneAt listed 18 := fun h => hnd (hcl 18 _ rfl h ⟨8, .phase⟩ (by simp) rfl)
    have C := hG.pre n18
    have e : a.tmps.getD 249 undef = .pointer (some ⟨TL.b, 4, none⟩) := hL 7 _ 249 rfl rfl (haft ⟨7, .data⟩ (by simp) rfl)
    have hc4 : W.cell? ⟨TL.b, 4, none⟩ = some (.slice (some ⟨g, 0, none⟩) N cap) := (C.cellOf hbl (fun h => hvb h.2)).trans wc4
    refine wpOp_val ho rfl (v := .slice (some ⟨g, 0, none⟩) N cap) (w' := W) ?_ ⟨_, rfl, rfl, hG.pure n18 (i := 8) (by omega) (Chg.refl _), fun _ _ _ _ h => h⟩
    simp [execOp, Act.eval, e, hc4, go_sem]
  · obtain rfl := Option.some.inj ho
    have n18 : ¬ DoneAt listed 18 := fun h => hnd (hcl 18 _ rfl h ⟨9, .phase⟩ (by simp) rfl)
    have C := hG.pre n18
    exact wpOp_val ho rfl (v := a.tmps.getD 11 undef) (w' := W) rfl ⟨_, rfl, f11, hG.pure n18 (i := 9) (by omega) (Chg.refl _), fun _ _ _ _ h => h⟩
  · obtain rfl := Option.some.inj ho
    have n18 : ¬ DoneAt listed 18 := fun h => hnd (hcl 18 _ rfl h ⟨10, .phase⟩ (by simp) rfl)
    have C := hG.pre n18
    have e1 : a.tmps.getD 250 undef = .slice (some ⟨g, 0, none⟩) N cap := hL 8 _ 250 rfl rfl (haft ⟨8, .data⟩ (by simp) rfl)
    have e2 : a.tmps.getD 251 undef = .int .i64 (x : Int) := hL 9 _ 251 rfl rfl (haft ⟨9, .data⟩ (by simp) rfl)
    refine wpOp_val ho rfl (v := .pointer (some ⟨g, x, none⟩)) (w' := W) ?_ ⟨_, rfl, rfl, hG.pure n18 (i := 10) (by omega) (Chg.refl _), fun _ _ _ _ h => h⟩
    simp [execOp, Act.eval, e1, e2, g1, g2, g3, go_sem]
  · obtain rfl := Option.some.inj ho
    have n18 : ¬ DoneAt listed 18 := fun h => hnd (hcl 18 _ rfl h ⟨11, .phase⟩ (by simp) rfl)
    have C := hG.pre n18
    have e : a.tmps.getD 252 undef = .pointer (some ⟨g, x, none⟩) := hL 10 _ 252 rfl rfl (haft ⟨10, .data⟩ (by simp) rfl)
    have hcx : W.cell? ⟨g, x, none⟩ = some v := (C.cellOf hgl (fun h => hvg h.2)).trans wcx
    refine wpOp_val ho rfl (v := v) (w' := W) ?_ ⟨_, rfl, rfl, hG.pure n18 (i := 11) (by omega) (Chg.refl _), fun _ _ _ _ h => h⟩
    simp [execOp, Act.eval, e, hcx, go_sem]
  · obtain rfl := Option.some.inj ho
    have n18 : ¬ DoneAt listed 18 := fun h => hnd (hcl 18 _ rfl h ⟨12, .phase⟩ (by simp) rfl)
    have C := hG.pre n18
    exact wpOp_val ho rfl (v := a.tmps.getD 6 undef) (w' := W) rfl ⟨_, rfl, f6, hG.pure n18 (i := 12) (by omega) (Chg.refl _), fun _ _ _ _ h => h⟩
  · obtain rfl := Option.some.inj ho
    have n18 : ¬ DoneAt listed 18 := fun h => hnd (hcl 18 _ rfl h ⟨13, .phase⟩ (by simp) rfl)
    have C := hG.pre n18
    exact wpOp_val ho rfl (v := a.tmps.getD 13 undef) (w' := W) rfl ⟨_, rfl, f13, hG.pure n18 (i := 13) (by omega) (Chg.refl _), fun _ _ _ _ h => h⟩
  · obtain rfl := Option.some.inj ho
    have n18 : ¬ DoneAt listed 18 := fun h => hnd (hcl 18 _ rfl h ⟨14, .phase⟩ (by simp) rfl)
    have C := hG.pre n18
    have e1 : a.tmps.getD 254 undef = .int .i64 key := hL 12 _ 254 rfl rfl (haft ⟨12, .data⟩ (by simp) rfl)
    have e2 : a.tmps.getD 255 undef = .int .i64 vv := hL 13 _ 255 rfl rfl (haft ⟨13, .data⟩ (by simp) rfl)
    refine wpOp_val ho rfl (v := .agg #[.int .i64 key, .int .i64 vv]) (w' := W) ?_ ⟨_, rfl, rfl, hG.pure n18 (i := 14) (by omega) (Chg.refl _), fun _ _ _ _ h => h⟩
    rw [Array.getD_eq_getD_getElem?] at e1 e2
    simp [execOp, Act.eval, e1, e2, go_sem]
  · obtain rfl := Option.some.inj ho
    have n18 : ¬ DoneAt listed 18 := fun h => hnd (hcl 18 _ rfl h ⟨15, .phase⟩ (by simp) rfl)
    have C := hG.pre n18
    have e : a.tmps.getD 256 undef = .agg #[.int .i64 key, .int .i64 vv] := hL 14 _ 256 rfl rfl (haft ⟨14, .data⟩ (by simp) rfl)
    refine wpOp_val ho rfl (v := .slice (some ⟨W.heap.size, 0, none⟩) 1 1) (w' := W.alloc (.cells #[.int .i64 key, .int .i64 vv] 75)) ?_ ⟨_, rfl, ⟨_, rfl, heap_alloc_new W _, C.size⟩, hG.pure n18 (i := 15) (by omega) (Chg.alloc _ _), fun j u hj _ h => p35_stay (Chg.alloc _ _) (fun _ h => h.elim) j u hj h⟩
    rw [Array.getD_eq_getD_getElem?] at e
    simp [execOp, Act.eval, e, go_sem]
  · obtain rfl := Option.some.inj ho
    have n18 : ¬ DoneAt listed 18 := fun h => hnd (hcl 18 _ rfl h ⟨16, .phase⟩ (by simp) rfl)
    have C := hG.pre n18
    have e1 : a.tmps.getD 253 undef = v := hL 11 _ 253 rfl rfl (haft ⟨11, .data⟩ (by simp) rfl)
    obtain ⟨b, e2, hblk, hBb⟩ : pB2 wB.heap.size key vv (a.tmps.getD 257 undef) W := hL 15 _ 257 rfl rfl (haft ⟨15, .data⟩ (by simp) rfl)
    have hown : W.ownsRow 0 75 2 v l.length (vrow l) := owns_same wrow (fun b hb => C.block b (owns_lt wrow hb) (fun h => hnd h.1))
    obtain ⟨i0, hi0, hz0, hz1, hz2⟩ := info_parts infoSeen
    refine wpOp_law ho rfl (step_append_lies W rfl (.tmp 253) (.tmp 257) 73 rfl 0 75 i0 _ 2 16 Tryz.underlying73 hi0 hz0 hz1 hz2 rfl (by omega) v l.length (vrow l) e1 hown ⟨b, 0, none⟩ 1 1 [.int .i64 key, .int .i64 vv] e2 rfl (World.news_of_block (cs := #[.int .i64 key, .int .i64 vv]) hblk) (fun u hu => by
      rcases List.mem_cons.1 hu with rfl | hu
      · rfl
      · rw [List.mem_singleton.1 hu]; rfl) (by omega) (by unfold maxLen; omega) (by omega) (Nat.zero_le _) W.heap.size rfl ?_)
    intro gg cc W' h1 h2 h3 _
    have hb : ∀ b', (Value.slice (some ⟨gg, 0, none⟩) (l.length + 1) cc).ownBlock = some b' → v.ownBlock = some b' ∨ wB.heap.size ≤ b' := fun b' hb' => by
      have e : b' = gg := by injection hb' with hb'; exact hb'.symm
      rw [e]
      exact h3.imp id (fun e => by have := C.size; omega)
    refine ⟨_, rfl, ⟨?_, hb⟩, hG.app n18 (Chg.grown h2) (by rw [hls]; exact hi), fun j u hj _ h => p35_stay (Chg.grown h2) (fun b' hb' => ⟨owns_lt wrow hb', fun h => (h rfl).elim⟩) j u hj h⟩
    have e3 : vrow (l ++ [(key, vv)]) = vrow l ++ [.int .i64 key, .int .i64 vv] := by rw [vrow_append]; rfl
    rw [List.length_append, e3]
    exact h1
  · obtain rfl := Option.some.inj ho
    have n18 : ¬ DoneAt listed 18 := fun h => hnd (hcl 18 _ rfl h ⟨17, .data⟩ (by simp) rfl)
    have C := hG.pre n18
    have e1 : a.tmps.getD 245 undef = .slice (some ⟨g, 0, none⟩) N cap := hL 3 _ 245 rfl rfl (haft ⟨3, .data⟩ (by simp) rfl)
    have e2 : a.tmps.getD 246 undef = .int .i64 (x : Int) := hL 4 _ 246 rfl rfl (haft ⟨4, .data⟩ (by simp) rfl)
    refine wpOp_val ho rfl (v := .pointer (some ⟨g, x, none⟩)) (w' := W) ?_ ⟨_, rfl, rfl, hG.pure n18 (i := 17) (by omega) (Chg.refl _), fun _ _ _ _ h => h⟩
    simp [execOp, Act.eval, e1, e2, g1, g2, g3, go_sem]
  · obtain rfl := Option.some.inj ho
    have n18 : ¬ DoneAt listed 18 := hnd
    have C := hG.pre n18
    have e1 : a.tmps.getD 259 undef = .pointer (some ⟨g, x, none⟩) := hL 17 _ 259 rfl rfl (haft ⟨17, .data⟩ (by simp) rfl)
    have e2 : pR wB.heap.size v (l ++ [(key, vv)]) (a.tmps.getD 258 undef) W := hL 16 _ 258 rfl rfl (haft ⟨16, .data⟩ (by simp) rfl)
    obtain ⟨vad, vcap, hv⟩ := row_form e2.1
    have hold : W.cell? ⟨g, x, none⟩ = some v := (C.cellOf hgl (fun h => hvg h.2)).trans wcx
    have hfz : W.frozen? ⟨g, x, none⟩ = false := by
      obtain ⟨cur, hcur⟩ := owns_typ (hT.rows 3 (by omega)) (g := g) (by rw [hr]; rfl)
      have := (C.block g hgl (fun h => hvg h.2)).trans hcur
      simp [World.frozen?, this]
    refine wpOp_skip ho rfl (w' := W.setCell ⟨g, x, none⟩ (a.tmps.getD 258 undef)) ?_ ⟨undef, rfl, trivial, hG.store n18 e2 (by rw [hls]; exact hi), fun j u hj _ h => p35_stay (Chg.store W g x _) (fun b' hb' => ⟨by rw [hb']; exact hgl, fun _ => by rw [hb']; exact hvg⟩) j u hj h⟩
    simp [execOp, Act.eval, e1, hv, hold, hfz, go_sem]
end Go.Proofs.YtjefgmeejhakbaaGreatDoor
