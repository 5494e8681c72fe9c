/- EnMem EnPlain EnFind: put together for a claim. -/
import Derived.Test.YtjefgmeejhakbaaGreatDoorMgADQ
import Derived.BigQuiet
/- The engine: plain, and how it lies in memory. -/
namespace Go.Proofs.YtjefgmeejhakbaaGreatDoor
open Go.RowKit
structure Tx where
  level : Int
  start : Int
  state : Int
  why : Int
  bae : Int
  wk : Int
  wv : Int
  vals : Int → Option Int
  reads : List (Int × Int)
  seen : List Bool
  ahead : Int → Bool
  behind : Int → Bool
structure Eng where
  last : Int
  ks : List (List (Int × Int))
  T : Tab
  txs : List Tx
  wr : Int → Option Int
  com : List Nat
  nw : Nat
def Eng.setTx (E : Eng) (i : Nat) (t : Tx) : Eng := { E with txs := E.txs.set i t }
structure TxL where
  b : Nat
  vb : Nat
  rv : Value
  ab : Nat
  hb : Nat
def TxL.own (l : TxL) (g : Nat) : Prop := g = l.b ∨ g = l.vb ∨ g = l.ab ∨ g = l.hb ∨ l.rv.ownBlock = some g
structure EnL where
  s : Nat
  vs : List Value
  M : LkM
  av : Value
  wb : Nat
  cv : Value
  txs : List TxL
def EnL.setTx (L : EnL) (i : Nat) (l : TxL) : EnL := { L with txs := L.txs.set i l }
inductive Tag where
  | eng : Tag
  | srow : Tag
  | lock : Tag
  | all : Tag
  | wr : Tag
  | com : Tag
  | tx : Nat → Tag
def opsV : List (Int × Int × Bool × Int) → List Value
  | [] => []
  | o :: r => .int .i64 o.1 :: .int .i64 o.2.1 :: .bool o.2.2.1 :: .int .i64 o.2.2.2 :: opsV r
theorem opsV_append : ∀ l m, opsV (l ++ m) = opsV l ++ opsV m
  | [], _ => rfl
  | _ :: r, m => by simp [opsV, opsV_append r m]
theorem opsV_one : ∀ (l : List (Int × Int × Bool × Int)), ∀ u ∈ opsV l, u.oneCell' = true
  | [], u, h => by simp [opsV] at h
  | o :: r, u, h => by
    simp only [opsV, List.mem_cons] at h
    rcases h with rfl | rfl | rfl | rfl | h
    · rfl
    · rfl
    · rfl
    · rfl
    · exact opsV_one r u h
def readOps (n : Int) (l : List (Int × Int)) : List (Int × Int × Bool × Int) := l.map fun p => (n, p.1, false, p.2)
def txCells (n : Int) (l : TxL) (t : Tx) : Array Value :=
  (.int .i64 n :: .int .i64 t.level :: .int .i64 t.start :: .int .i64 t.state :: .int .i64 t.why :: .int .i64 t.bae :: .int .i64 t.wk :: .int .i64 t.wv :: .map (some l.vb) :: l.rv :: (t.seen.map Value.bool ++ [.map (some l.ab), .map (some l.hb)])).toArray
structure TxAt (w : World) (n : Int) (l : TxL) (t : Tx) : Prop where
  blk : w.heap[l.b]? = some (.cells (txCells n l t) 183 (0, 0))
  va : IMap w l.vb 10 (fun k => (t.vals k).map (Value.int .i64))
  rd : w.ownsRow 0 90 4 l.rv t.reads.length (opsV (readOps n t.reads))
  ah : ISet w l.ab 201 t.ahead
  be : ISet w l.hb 201 t.behind
  d1 : l.vb ≠ l.ab
  d2 : l.vb ≠ l.hb
  d3 : l.ab ≠ l.hb
  sl : t.seen.length = 10
  vk : ∀ k, t.vals k ≠ none → 0 ≤ k ∧ k < 10
  aN : ∀ x, t.ahead x = true → 1 ≤ x ∧ x ≤ 200
  bN : ∀ x, t.behind x = true → 1 ≤ x ∧ x ≤ 200
  wkr : 0 ≤ t.wk ∧ t.wk < 10
theorem owns_lt {w : World} {base sz : Nat} {T : TypeId} {v : Value} {n : Nat} {vs : List Value} (h : w.ownsRow base T sz v n vs) {g : Nat} (hg : v.ownBlock = some g) : g < w.heap.size := (h.lt g hg).2
theorem owns_typ {w : World} {base sz : Nat} {T : TypeId} {v : Value} {n : Nat} {vs : List Value} (h : w.ownsRow base T sz v n vs) {g : Nat} (hg : v.ownBlock = some g) : ∃ cur, w.heap[g]? = some (.cells cur T (0, 0)) := by
  rcases h.2 with ⟨e, _⟩ | ⟨g', cap, cur, e, _, hc, _⟩
  · rw [e] at hg; cases hg
  · rw [e] at hg; cases hg; exact ⟨cur, hc⟩
section
variable {w w' : World} {n : Int} {l : TxL} {t : Tx}
theorem TxAt.lt (h : TxAt w n l t) : l.b < w.heap.size := (Array.getElem?_eq_some_iff.1 h.blk).1
theorem TxAt.own_lt (h : TxAt w n l t) {g : Nat} (hg : l.own g) : g < w.heap.size := by
  rcases hg with rfl | rfl | rfl | rfl | hg
  · exact h.lt
  · exact h.va.lt
  · exact h.ah.lt
  · exact h.be.lt
  · exact owns_lt h.rd hg
theorem TxAt.same (h : TxAt w n l t) (hs : ∀ g, l.own g → w'.heap[g]? = w.heap[g]?) : TxAt w' n l t :=
  ⟨(hs _ (.inl rfl)).trans h.blk, h.va.same (hs _ (.inr (.inl rfl))), owns_same h.rd (fun g hg => hs g (.inr (.inr (.inr (.inr hg))))), h.ah.same (hs _ (.inr (.inr (.inl rfl)))), h.be.same (hs _ (.inr (.inr (.inr (.inl rfl))))), h.d1, h.d2, h.d3, h.sl, h.vk, h.aN, h.bN, h.wkr⟩
theorem TxAt.ne_va (h : TxAt w n l t) : l.b ≠ l.vb := (h.va.ne h.blk).symm
theorem TxAt.ne_ah (h : TxAt w n l t) : l.b ≠ l.ab := (IMap.ne h.ah h.blk).symm
theorem TxAt.ne_be (h : TxAt w n l t) : l.b ≠ l.hb := (IMap.ne h.be h.blk).symm
theorem TxAt.rd_ne (h : TxAt w n l t) {g : Nat} (hg : l.rv.ownBlock = some g) : g ≠ l.b ∧ g ≠ l.vb ∧ g ≠ l.ab ∧ g ≠ l.hb := by
  obtain ⟨cur, hc⟩ := owns_typ h.rd hg
  refine ⟨?_, (h.va.ne hc).symm, (IMap.ne h.ah hc).symm, (IMap.ne h.be hc).symm⟩
  rintro rfl
  rw [h.blk] at hc
  injection hc with hc
  injection hc with _ hc
  exact absurd hc (by decide)
theorem txCells_get (n : Int) (l : TxL) (t : Tx) : (txCells n l t)[0]? = some (.int .i64 n) ∧ (txCells n l t)[1]? = some (.int .i64 t.level) ∧ (txCells n l t)[2]? = some (.int .i64 t.start) ∧ (txCells n l t)[3]? = some (.int .i64 t.state) ∧ (txCells n l t)[4]? = some (.int .i64 t.why) ∧ (txCells n l t)[5]? = some (.int .i64 t.bae) ∧
    (txCells n l t)[6]? = some (.int .i64 t.wk) ∧ (txCells n l t)[7]? = some (.int .i64 t.wv) ∧ (txCells n l t)[8]? = some (.map (some l.vb)) ∧ (txCells n l t)[9]? = some l.rv := by
  unfold txCells; simp
theorem txCells_seen (n : Int) (l : TxL) (t : Tx) {k : Nat} {b : Bool} (h : t.seen[k]? = some b) : (txCells n l t)[10 + k]? = some (.bool b) := by
  have hk := (List.getElem?_eq_some_iff.1 h).1
  unfold txCells
  rw [List.getElem?_toArray, show 10 + k = k + 1 + 1 + 1 + 1 + 1 + 1 + 1 + 1 + 1 + 1 from by omega]
  simp only [List.getElem?_cons_succ]
  rw [List.getElem?_append_left (by simpa using hk)]
  simp [h]
theorem txCells_last (n : Int) (l : TxL) (t : Tx) (h : t.seen.length = 10) : (txCells n l t)[20]? = some (.map (some l.ab)) ∧ (txCells n l t)[21]? = some (.map (some l.hb)) := by
  unfold txCells
  simp [h]
theorem TxAt.c0 (h : TxAt w n l t) : w.cell? ⟨l.b, 0, none⟩ = some (.int .i64 n) := (cell_of_row w l.b 0 _ _ (0, 0) h.blk).trans (txCells_get n l t).1
theorem TxAt.c1 (h : TxAt w n l t) : w.cell? ⟨l.b, 1, none⟩ = some (.int .i64 t.level) := (cell_of_row w l.b 1 _ _ (0, 0) h.blk).trans (txCells_get n l t).2.1
theorem TxAt.c2 (h : TxAt w n l t) : w.cell? ⟨l.b, 2, none⟩ = some (.int .i64 t.start) := (cell_of_row w l.b 2 _ _ (0, 0) h.blk).trans (txCells_get n l t).2.2.1
theorem TxAt.c3 (h : TxAt w n l t) : w.cell? ⟨l.b, 3, none⟩ = some (.int .i64 t.state) := (cell_of_row w l.b 3 _ _ (0, 0) h.blk).trans (txCells_get n l t).2.2.2.1
theorem TxAt.c4 (h : TxAt w n l t) : w.cell? ⟨l.b, 4, none⟩ = some (.int .i64 t.why) := (cell_of_row w l.b 4 _ _ (0, 0) h.blk).trans (txCells_get n l t).2.2.2.2.1
theorem TxAt.c5 (h : TxAt w n l t) : w.cell? ⟨l.b, 5, none⟩ = some (.int .i64 t.bae) := (cell_of_row w l.b 5 _ _ (0, 0) h.blk).trans (txCells_get n l t).2.2.2.2.2.1
theorem TxAt.c6 (h : TxAt w n l t) : w.cell? ⟨l.b, 6, none⟩ = some (.int .i64 t.wk) := (cell_of_row w l.b 6 _ _ (0, 0) h.blk).trans (txCells_get n l t).2.2.2.2.2.2.1
theorem TxAt.c7 (h : TxAt w n l t) : w.cell? ⟨l.b, 7, none⟩ = some (.int .i64 t.wv) := (cell_of_row w l.b 7 _ _ (0, 0) h.blk).trans (txCells_get n l t).2.2.2.2.2.2.2.1
theorem TxAt.c8 (h : TxAt w n l t) : w.cell? ⟨l.b, 8, none⟩ = some (.map (some l.vb)) := (cell_of_row w l.b 8 _ _ (0, 0) h.blk).trans (txCells_get n l t).2.2.2.2.2.2.2.2.1
theorem TxAt.c9 (h : TxAt w n l t) : w.cell? ⟨l.b, 9, none⟩ = some l.rv := (cell_of_row w l.b 9 _ _ (0, 0) h.blk).trans (txCells_get n l t).2.2.2.2.2.2.2.2.2
theorem TxAt.cs (h : TxAt w n l t) {k : Nat} {b : Bool} (hk : t.seen[k]? = some b) : w.cell? ⟨l.b, 10 + k, none⟩ = some (.bool b) := (cell_of_row w l.b (10 + k) _ _ (0, 0) h.blk).trans (txCells_seen n l t hk)
theorem TxAt.c20 (h : TxAt w n l t) : w.cell? ⟨l.b, 20, none⟩ = some (.map (some l.ab)) := (cell_of_row w l.b 20 _ _ (0, 0) h.blk).trans (txCells_last n l t h.sl).1
theorem TxAt.c21 (h : TxAt w n l t) : w.cell? ⟨l.b, 21, none⟩ = some (.map (some l.hb)) := (cell_of_row w l.b 21 _ _ (0, 0) h.blk).trans (txCells_last n l t h.sl).2
theorem TxAt.txc (h : TxAt w n l t) : TxC w l.b n t.state l.ab l.hb := ⟨_, h.blk, (txCells_get n l t).1, (txCells_get n l t).2.2.2.1, (txCells_last n l t h.sl).1, (txCells_last n l t h.sl).2⟩
theorem TxAt.free (h : TxAt w n l t) (o : Nat) : w.frozen? ⟨l.b, o, none⟩ = false := by simp [World.frozen?, h.blk]
end
def EnL.P (L : EnL) : Tail := ⟨[.map L.M.mh, .map L.M.mw, .map L.M.ml, L.av, .map (some L.wb), L.cv], 162⟩
def EnL.C (L : EnL) (last : Int) : Emb := ⟨.int .i64 last :: L.vs, [L.av, .map (some L.wb), L.cv], 162, by decide⟩
theorem EnL.cells_eq (L : EnL) (last : Int) : L.P.cells last L.vs = (L.C last).cells (.map L.M.mh) (.map L.M.mw) (.map L.M.ml) := by
  simp [EnL.P, EnL.C, Tail.cells, Emb.cells]
def ptrV (b : Nat) : Value := .pointer (some ⟨b, 0, none⟩)
def EnL.bs (L : EnL) : List Nat := L.txs.map TxL.b
def EnL.own (L : EnL) (g : Nat) : Prop := g = L.s ∨ InRows L.vs g ∨ L.M.own L.s g ∨ L.av.ownBlock = some g ∨ g = L.wb ∨ L.cv.ownBlock = some g ∨ ∃ l ∈ L.txs, l.own g
structure Tagged (L : EnL) (ρ : Nat → Tag) : Prop where
  eng : ρ L.s = .eng
  srow : ∀ g, InRows L.vs g → ρ g = .srow
  lock : ∀ g, L.M.own L.s g → g ≠ L.s → ρ g = .lock
  all : ∀ g, L.av.ownBlock = some g → ρ g = .all
  wr : ρ L.wb = .wr
  com : ∀ g, L.cv.ownBlock = some g → ρ g = .com
  tx : ∀ i l g, L.txs[i]? = some l → l.own g → ρ g = .tx i
structure EnAt (w : World) (L : EnL) (E : Eng) : Prop where
  sto : Sto L.P w (L.s + 1) L.s E.last L.vs E.ks
  loc : TabAt (L.C E.last) w L.s 201 L.M E.T
  good : Good E.T
  mem : ∀ k x, x ∈ E.T k → 1 ≤ x ∧ x ≤ E.txs.length
  all : w.ownsRow 0 179 1 L.av L.txs.length (L.bs.map ptrV)
  len : L.txs.length = E.txs.length
  le : E.txs.length ≤ 200
  wr : IMap w L.wb E.nw (fun a => (E.wr a).map (Value.int .i64))
  com : w.ownsRow 0 179 1 L.cv E.com.length (E.com.map fun i => ptrV (L.bs[i]?.getD 0))
  coml : ∀ i ∈ E.com, i < E.txs.length
  txs : ∀ (i : Nat) (l : TxL) (t : Tx), L.txs[i]? = some l → E.txs[i]? = some t → TxAt w ((i : Int) + 1) l t
  tag : ∃ ρ, Tagged L ρ
section
variable {w w' : World} {L L' : EnL} {E E' : Eng}
theorem EnAt.lv (h : EnAt w L E) : L.vs.length = 10 := h.sto.lv
theorem EnAt.o (h : EnAt w L E) : (L.C E.last).o = 11 := by simp [EnL.C, Emb.o, h.lv]
theorem EnAt.get (h : EnAt w L E) {i : Nat} {t : Tx} (ht : E.txs[i]? = some t) : ∃ l, L.txs[i]? = some l ∧ TxAt w ((i : Int) + 1) l t := by
  have hi : i < L.txs.length := by have := (List.getElem?_eq_some_iff.1 ht).1; have := h.len; omega
  exact ⟨L.txs[i], List.getElem?_eq_getElem hi, h.txs i _ t (List.getElem?_eq_getElem hi) ht⟩
theorem EnAt.getL (h : EnAt w L E) {i : Nat} {l : TxL} (hl : L.txs[i]? = some l) : ∃ t, E.txs[i]? = some t ∧ TxAt w ((i : Int) + 1) l t := by
  have hi : i < E.txs.length := by have := (List.getElem?_eq_some_iff.1 hl).1; have := h.len; omega
  exact ⟨E.txs[i], List.getElem?_eq_getElem hi, h.txs i _ _ hl (List.getElem?_eq_getElem hi)⟩
theorem EnAt.own_lt (h : EnAt w L E) {g : Nat} (hg : L.own g) : g < w.heap.size := by
  rcases hg with rfl | hg | hg | hg | rfl | hg | ⟨l, hl, hg⟩
  · exact h.sto.lt
  · exact (h.sto.row hg).2
  · obtain ⟨_, _, _, r, _⟩ := h.loc
    exact r.own_lt hg
  · exact owns_lt h.all hg
  · exact h.wr.lt
  · exact owns_lt h.com hg
  · obtain ⟨i, hi, rfl⟩ := List.mem_iff_getElem.1 hl
    obtain ⟨t, _, hA⟩ := h.getL (List.getElem?_eq_getElem hi)
    exact hA.own_lt hg
theorem TxL.own_in {l : TxL} {i : Nat} (hl : L.txs[i]? = some l) {g : Nat} (hg : l.own g) : L.own g := .inr (.inr (.inr (.inr (.inr (.inr ⟨l, List.mem_of_getElem? hl, hg⟩)))))
theorem EnAt.same (h : EnAt w L E) (hs : ∀ g, L.own g → w'.heap[g]? = w.heap[g]?) : EnAt w' L E :=
  ⟨h.sto.kept (hs _ (.inl rfl)) (fun g hg => hs g (.inr (.inl hg))), h.loc.same (fun g hg => hs g (.inr (.inr (.inl hg)))), h.good, h.mem, owns_same h.all (fun g hg => hs g (.inr (.inr (.inr (.inl hg))))), h.len, h.le,
    h.wr.same (hs _ (.inr (.inr (.inr (.inr (.inl rfl)))))), owns_same h.com (fun g hg => hs g (.inr (.inr (.inr (.inr (.inr (.inl hg))))))), h.coml, fun i l t hl ht => (h.txs i l t hl ht).same (fun g hg => hs g (TxL.own_in hl hg)), h.tag⟩
theorem EnAt.below (h : EnAt w L E) (hB : Below w.heap.size w w') : EnAt w' L E := h.same (fun g hg => hB.block g (h.own_lt hg))
theorem EnAt.c14 (h : EnAt w L E) : w.cell? ⟨L.s, 14, none⟩ = some L.av := by
  refine (cell_of_row w L.s 14 _ _ (0, 0) h.sto.blk).trans ?_
  unfold Tail.cells EnL.P
  simp [h.lv]
theorem EnAt.c15 (h : EnAt w L E) : w.cell? ⟨L.s, 15, none⟩ = some (.map (some L.wb)) := by
  refine (cell_of_row w L.s 15 _ _ (0, 0) h.sto.blk).trans ?_
  unfold Tail.cells EnL.P
  simp [h.lv]
theorem EnAt.c16 (h : EnAt w L E) : w.cell? ⟨L.s, 16, none⟩ = some L.cv := by
  refine (cell_of_row w L.s 16 _ _ (0, 0) h.sto.blk).trans ?_
  unfold Tail.cells EnL.P
  simp [h.lv]
theorem bs_get {i : Nat} {l : TxL} (hl : L.txs[i]? = some l) : L.bs[i]? = some l.b := by simp [EnL.bs, hl]
theorem EnAt.apart (h : EnAt w L E) {i j : Nat} {l m : TxL} (hl : L.txs[i]? = some l) (hm : L.txs[j]? = some m) (hij : i ≠ j) {g : Nat} (hg : l.own g) : ¬ m.own g := fun hg' => by
  obtain ⟨ρ, T⟩ := h.tag
  have := (T.tx i l g hl hg).symm.trans (T.tx j m g hm hg')
  injection this with e
  exact hij e
theorem EnAt.turnTxs (h : EnAt w L E) (txs' : List Tx) (hlen : txs'.length = E.txs.length) (hA : ∀ (i : Nat) (l : TxL) (t : Tx), L.txs[i]? = some l → txs'[i]? = some t → TxAt w' ((i : Int) + 1) l t)
    (hs : ∀ g, L.own g → (∀ l ∈ L.txs, ¬ l.own g) → w'.heap[g]? = w.heap[g]?) : EnAt w' L { E with txs := txs' } := by
  obtain ⟨ρ, T⟩ := h.tag
  have hno : ∀ g, (∀ i, ρ g ≠ .tx i) → ∀ l ∈ L.txs, ¬ l.own g := fun g hg l hl ho => by
    obtain ⟨i, hi, rfl⟩ := List.mem_iff_getElem.1 hl
    exact hg i (T.tx i _ g (List.getElem?_eq_getElem hi) ho)
  have hk : ∀ g, L.own g → (∀ i, ρ g ≠ .tx i) → w'.heap[g]? = w.heap[g]? := fun g hg hn => hs g hg (hno g hn)
  exact ⟨h.sto.kept (hk _ (.inl rfl) (fun i e => by rw [T.eng] at e; cases e)) (fun g hg => hk g (.inr (.inl hg)) (fun i e => by rw [T.srow g hg] at e; cases e)),
    h.loc.same (fun g hg => hk g (.inr (.inr (.inl hg))) (fun i e => by
      by_cases hgs : g = L.s
      · rw [hgs, T.eng] at e; cases e
      · rw [T.lock g hg hgs] at e; cases e)), h.good, (by rw [hlen]; exact h.mem), owns_same h.all (fun g hg => hk g (.inr (.inr (.inr (.inl hg)))) (fun i e => by rw [T.all g hg] at e; cases e)), h.len.trans hlen.symm, (by rw [hlen]; exact h.le),
    h.wr.same (hk _ (.inr (.inr (.inr (.inr (.inl rfl))))) (fun i e => by rw [T.wr] at e; cases e)), owns_same h.com (fun g hg => hk g (.inr (.inr (.inr (.inr (.inr (.inl hg)))))) (fun i e => by rw [T.com g hg] at e; cases e)),
    (by rw [hlen]; exact h.coml), hA, ρ, T⟩
theorem own_setTx {i : Nat} {l' : TxL} {g : Nat} (h : (L.setTx i l').own g) : L.own g ∨ l'.own g := by
  rcases h with h | h | h | h | h | h | ⟨m, hm, h⟩
  · exact .inl (.inl h)
  · exact .inl (.inr (.inl h))
  · exact .inl (.inr (.inr (.inl h)))
  · exact .inl (.inr (.inr (.inr (.inl h))))
  · exact .inl (.inr (.inr (.inr (.inr (.inl h)))))
  · exact .inl (.inr (.inr (.inr (.inr (.inr (.inl h))))))
  · rcases List.mem_or_eq_of_mem_set hm with hm | rfl
    · exact .inl (.inr (.inr (.inr (.inr (.inr (.inr ⟨m, hm, h⟩))))))
    · exact .inr h
theorem bs_setTx {i : Nat} {l l' : TxL} (hl : L.txs[i]? = some l) (hb : l'.b = l.b) : (L.setTx i l').bs = L.bs := by
  unfold EnL.setTx EnL.bs
  rw [List.map_set, hb]
  refine List.ext_getElem? (fun j => ?_)
  rw [List.getElem?_set]
  split
  · rename_i e
    subst e
    have := (List.getElem?_eq_some_iff.1 hl).1
    rw [if_pos (by simpa using this)]
    simp [hl]
  · rfl
theorem EnAt.setTx (h : EnAt w L E) {i : Nat} {l l' : TxL} {t t' : Tx} (hl : L.txs[i]? = some l) (ht : E.txs[i]? = some t) (hb : l'.b = l.b) (hK : KeptO l.own l'.own w w') (hA : TxAt w' ((i : Int) + 1) l' t') :
    EnAt w' (L.setTx i l') (E.setTx i t') ∧ KeptO L.own (L.setTx i l').own w w' := by
  obtain ⟨ρ, T⟩ := h.tag
  have hi := (List.getElem?_eq_some_iff.1 hl).1
  have hi2 := (List.getElem?_eq_some_iff.1 ht).1
  have hA0 := h.txs i l t hl ht
  have hk : ∀ g, L.own g → ρ g ≠ .tx i → w'.heap[g]? = w.heap[g]? := fun g hg hn => hK.block g (h.own_lt hg) (fun ho => hn (T.tx i l g hl ho))
  have hbs := bs_setTx hl hb
  refine ⟨⟨h.sto.kept (hk _ (.inl rfl) (fun e => by rw [T.eng] at e; cases e)) (fun g hg => hk g (.inr (.inl hg)) (fun e => by rw [T.srow g hg] at e; cases e)),
    h.loc.same (fun g hg => hk g (.inr (.inr (.inl hg))) (fun e => by
      by_cases hgs : g = L.s
      · rw [hgs, T.eng] at e; cases e
      · rw [T.lock g hg hgs] at e; cases e)), h.good, (by simpa [Eng.setTx] using h.mem), ?_, (by simpa [Eng.setTx, EnL.setTx] using h.len), (by simpa [Eng.setTx] using h.le),
    h.wr.same (hk _ (.inr (.inr (.inr (.inr (.inl rfl))))) (fun e => by rw [T.wr] at e; cases e)), ?_, (by simpa [Eng.setTx] using h.coml), ?_, fun g => if g < w.heap.size then ρ g else .tx i, ?_⟩, ?_⟩
  · rw [hbs]
    have : (L.setTx i l').txs.length = L.txs.length := by simp [EnL.setTx]
    rw [this]
    exact owns_same h.all (fun g hg => hk g (.inr (.inr (.inr (.inl hg)))) (fun e => by rw [T.all g hg] at e; cases e))
  · rw [hbs]
    exact owns_same h.com (fun g hg => hk g (.inr (.inr (.inr (.inr (.inr (.inl hg)))))) (fun e => by rw [T.com g hg] at e; cases e))
  · intro j m u hm hu
    simp only [EnL.setTx, Eng.setTx, List.getElem?_set] at hm hu
    by_cases hij : i = j
    · subst hij
      rw [if_pos rfl, if_pos hi] at hm
      rw [if_pos rfl, if_pos hi2] at hu
      cases hm
      cases hu
      exact hA
    · rw [if_neg hij] at hm hu
      exact (h.txs j m u hm hu).same (fun g hg => hk g (TxL.own_in hm hg) (fun e => by rw [T.tx j m g hm hg] at e; injection e with e; exact hij e.symm))
  · have hlt : ∀ g, L.own g → (if g < w.heap.size then ρ g else Tag.tx i) = ρ g := fun g hg => if_pos (h.own_lt hg)
    refine ⟨(hlt _ (.inl rfl)).trans T.eng, fun g hg => (hlt g (.inr (.inl hg))).trans (T.srow g hg), fun g hg hn => (hlt g (.inr (.inr (.inl hg)))).trans (T.lock g hg hn), fun g hg => (hlt g (.inr (.inr (.inr (.inl hg))))).trans (T.all g hg), (hlt _ (.inr (.inr (.inr (.inr (.inl rfl)))))).trans T.wr,
      fun g hg => (hlt g (.inr (.inr (.inr (.inr (.inr (.inl hg))))))).trans (T.com g hg), fun j m g hm hg => ?_⟩
    simp only [EnL.setTx, List.getElem?_set] at hm
    by_cases hij : i = j
    · subst hij
      rw [if_pos rfl, if_pos hi] at hm
      cases hm
      rcases hK.sub g hg with ho | hn
      · exact (hlt g (TxL.own_in hl ho)).trans (T.tx i l g hl ho)
      · simp only [if_neg (Nat.not_lt.2 hn)]
    · rw [if_neg hij] at hm
      exact (hlt g (TxL.own_in hm hg)).trans (T.tx j m g hm hg)
  · refine ⟨hK.os, hK.tape, hK.output, hK.size, fun g hg hn => hK.block g hg (fun ho => hn (TxL.own_in hl ho)), fun g hg => ?_⟩
    rcases own_setTx hg with h1 | h1
    · exact .inl h1
    · rcases hK.sub g h1 with h2 | h2
      · exact .inl (TxL.own_in hl h2)
      · exact .inr h2
end
end Go.Proofs.YtjefgmeejhakbaaGreatDoor

/- The engine's steps, plain. -/
namespace Go.Proofs.YtjefgmeejhakbaaGreatDoor
open Go.RowKit
def Eng.upd (E : Eng) (i : Nat) (f : Tx → Tx) : Eng := match E.txs[i]? with
  | some t => E.setTx i (f t)
  | none => E
theorem Eng.upd_some {E : Eng} {i : Nat} {t : Tx} (h : E.txs[i]? = some t) (f : Tx → Tx) : E.upd i f = E.setTx i (f t) := by simp [Eng.upd, h]
theorem setTx_get {E : Eng} {i : Nat} {t u : Tx} (h : E.txs[i]? = some u) : (E.setTx i t).txs[i]? = some t := by
  have := (List.getElem?_eq_some_iff.1 h).1
  simp [Eng.setTx, this]
theorem setTx_get_ne {E : Eng} {i j : Nat} {t : Tx} (h : i ≠ j) : (E.setTx i t).txs[j]? = E.txs[j]? := by
  simp [Eng.setTx, h]
theorem setTx_len (E : Eng) (i : Nat) (t : Tx) : (E.setTx i t).txs.length = E.txs.length := by simp [Eng.setTx]
theorem setTx_twice (E : Eng) (i : Nat) (t u : Tx) : (E.setTx i t).setTx i u = E.setTx i u := by simp [Eng.setTx]
def seesP (E : Eng) (t : Tx) : Int := if t.level = 0 then E.last else t.start
def newerP (E : Eng) (key t : Int) : List Int := let l := E.ks[key.toNat]?.getD []; (l.drop (lat l t + 1).toNat).map (·.1)
def noteReadP (t : Tx) (key frm : Int) : Tx := { t with reads := t.reads ++ [(key, frm)], seen := t.seen.set key.toNat true }
noncomputable def putAheadP (E : Eng) (i j : Nat) : Bool × Eng := match E.txs[i]?, E.txs[j]? with
  | some t, some u =>
    (!stuckB t.state t.ahead (fun a => t.behind a || a == (j : Int) + 1) && !stuckB u.state (fun a => u.ahead a || a == (i : Int) + 1) u.behind,
      (E.setTx i { t with behind := fun a => t.behind a || a == (j : Int) + 1 }).setTx j { u with ahead := fun a => u.ahead a || a == (i : Int) + 1 })
  | _, _ => (true, E)
noncomputable def aheadAll (f : Nat → Nat × Nat) : List Nat → Eng → Bool × Eng
  | [], E => (true, E)
  | j :: r, E => match putAheadP E (f j).1 (f j).2 with
    | (true, E') => aheadAll f r E'
    | (false, E') => (false, E')
noncomputable def aheadEach (i : Nat) : List Nat → Eng → Eng
  | [], E => E
  | j :: r, E => aheadEach i r (putAheadP E i j).2
def thoseP (E : Eng) (p : Nat → Tx → Bool) : List Nat := (List.range E.txs.length).filter (fun i => match E.txs[i]? with | some t => p i t | none => false)
def strictOf (E : Eng) (n : Int) : Option Nat := if 1 ≤ n ∧ n ≤ E.txs.length then (match E.txs[(n - 1).toNat]? with | some t => if t.level = 2 then some (n - 1).toNat else none | none => none) else none
def writesB (key : Int) (u : Tx) : Bool := (u.vals key).isSome && (u.level == 2 && liveB u.state)
def wasOverB (u : Tx) (n : Int) : Bool := !liveB u.state && decide (u.bae < n)
def hasReadB (key : Int) (i : Nat) (j : Nat) (u : Tx) : Bool := u.seen[key.toNat]?.getD false && (decide (j ≠ i) && (u.level == 2 && (decide (u.state ≠ 3) && !wasOverB u ((i : Int) + 1))))
noncomputable def aheadTimes (i : Nat) : List Int → Eng → Bool × Eng
  | [], E => (true, E)
  | a :: r, E => match strictOf E ((E.wr a).getD 0) with
    | some j => (match putAheadP E i j with
      | (true, E') => aheadTimes i r E'
      | (false, E') => (false, E'))
    | none => aheadTimes i r E
noncomputable def aowP (E : Eng) (i : Nat) (key : Int) : Bool × Eng := match E.txs[i]? with
  | some t => (match aheadTimes i (newerP E key t.start) E with
    | (true, E') => (true, aheadEach i (thoseP E' (fun _ u => writesB key u)) E')
    | (false, E') => (false, E'))
  | none => (true, E)
noncomputable def behindP (E : Eng) (i : Nat) (key : Int) : Bool × Eng := aheadAll (fun j => (j, i)) (thoseP E (hasReadB key i)) E
noncomputable def putE (E : Eng) (i : Nat) : Int × Eng := match E.txs[i]? with
  | some t =>
    if t.level ≠ 0 ∧ newerP E t.wk t.start ≠ [] then (10, E) else
    let E1 := E.setTx i { t with vals := updT t.vals t.wk (some t.wv) }
    if t.level = 2 then (match behindP E1 i t.wk with
      | (true, E2) => (0, E2)
      | (false, E2) => (13, E2)) else (0, E1)
  | none => (0, E)
def freeOf (n : Int) (t : Tx) : Tx := { t with ahead := fun a => t.ahead a && a != n, behind := fun a => t.behind a && a != n }
def loseE (E : Eng) (i : Nat) (why : Int) : Eng := match E.txs[i]? with
  | some t => Eng.upd { E with txs := (E.txs.set i { t with why := why }).map (freeOf ((i : Int) + 1)) } i (fun t => { t with reads := [] })
  | none => E
noncomputable def writeR (fin : Eng → Nat → Int → Option Eng) (E : Eng) (j : Nat) : Option (Int × Eng) := match putE E j with
  | (why, E') => if why = 0 then some (0, E') else (fin (loseE E' j why) j 3).map (fun E => (why, E))
noncomputable def goR (fin : Eng → Nat → Int → Option Eng) : List (Int × Int) → Eng → Option Eng
  | [], E => some E
  | (_, x) :: r, E => if 1 ≤ x ∧ x ≤ E.txs.length then (match writeR fin (E.upd (x - 1).toNat (fun t => { t with state := 0 })) (x - 1).toNat with
    | some (_, E') => goR fin r E'
    | none => none) else goR fin r E
def overE (E : Eng) (i : Nat) (st : Int) : Eng := let E1 := E.upd i (fun t => { t with state := st, bae := E.txs.length }); { E1 with T := dropP E1.T ((i : Int) + 1) }
noncomputable def endF : Nat → Eng → Nat → Int → Option Eng
  | 0, _, _, _ => none
  | f + 1, E, i, st => goR (endF f) (outP E.T ((i : Int) + 1)) (overE E i st)
end Go.Proofs.YtjefgmeejhakbaaGreatDoor

/- engine: find, open, sees, isNewer, wasOver. -/
namespace Go.Proofs.YtjefgmeejhakbaaGreatDoor
open Go.RowKit
variable {w : World} {L : EnL} {E : Eng}
set_option maxRecDepth 100000 in
set_option maxHeartbeats 1000000 in
theorem find_ok (h : EnAt w L E) {i : Nat} {l : TxL} (hl : L.txs[i]? = some l) :
    Calls Tryz.prog 95 #[.pointer (some ⟨L.s, 0, none⟩), .int .i64 ((i : Int) + 1)] w fun e w' => e = .returned (.tuple #[.pointer (some ⟨l.b, 0, none⟩), .nilIface]) ∧ w' = w := by
  have c14 := h.c14
  have hi := (List.getElem?_eq_some_iff.1 hl).1
  have hle := h.le
  have hlen := h.len
  rcases row_slice h.all with ⟨_, e⟩ | ⟨g, cap, e, hg, hc⟩
  · omega
  · have hcell : w.cell? ⟨g, i, none⟩ = some (.pointer (some ⟨l.b, 0, none⟩)) := hc i _ (show (L.bs.map ptrV)[i]? = some (ptrV l.b) from by rw [List.getElem?_map, bs_get hl]; rfl)
    rw [e] at c14
    obtain ⟨m, hm⟩ : ∃ m, L.txs.length = m := ⟨_, rfl⟩
    rw [hm] at c14 hi hlen
    clear h hl hc e hm
    have g1 : ¬ (i : Int) + 1 < 1 := by omega
    have g2 : decide ((m : Int) < (i : Int) + 1) = false := by simp; omega
    have g3 : (0 : Int) ≤ (i : Int) := by omega
    have g4 : (i : Int) < (m : Int) := by omega
    have g5 : (i : Int) + 1 - 1 = (i : Int) := by omega
    have g6 : IntKind.i64.wrap (i : Int) = (i : Int) := IntWalk.i64_in _ (by omega)
    go_enter Tryz.func95, Tryz.ntmps95
    go_wp2
    go_ret2
    exact ⟨rfl, rfl⟩
set_option maxRecDepth 100000 in
set_option maxHeartbeats 1000000 in
theorem find_err (h : EnAt w L E) {n : Int} (hn : n < 1 ∨ (E.txs.length : Int) < n) :
    Calls Tryz.prog 95 #[.pointer (some ⟨L.s, 0, none⟩), .int .i64 n] w fun e w' => e = .returned (.tuple #[.pointer none, errV 7]) ∧ w' = w := by
  have c14 := h.c14
  have hle := h.le
  have hlen := h.len
  obtain ⟨ad, cap, e⟩ := row_form h.all
  rw [e] at c14
  obtain ⟨m, hm⟩ : ∃ m, L.txs.length = m := ⟨_, rfl⟩
  rw [hm] at c14 hlen
  rw [← hlen] at hn hle
  clear h e hm hlen
  by_cases g1 : n < 1
  · clear hn
    go_enter Tryz.func95, Tryz.ntmps95
    go_wp2
    go_ret2
    exact ⟨rfl, rfl⟩
  · have g2 : decide ((m : Int) < n) = true := by simp; omega
    clear hn
    go_enter Tryz.func95, Tryz.ntmps95
    go_wp2
    go_ret2
    exact ⟨rfl, rfl⟩
set_option maxRecDepth 100000 in
set_option maxHeartbeats 1000000 in
theorem open_ok (h : EnAt w L E) {i : Nat} {l : TxL} {t : Tx} (hl : L.txs[i]? = some l) (ht : E.txs[i]? = some t) (hs : t.state = 0) :
    Calls Tryz.prog 102 #[.pointer (some ⟨L.s, 0, none⟩), .int .i64 ((i : Int) + 1)] w fun e w' => e = .returned (.tuple #[.pointer (some ⟨l.b, 0, none⟩), .nilIface]) ∧ w' = w := by
  have c3 := (h.txs i l t hl ht).c3
  rw [hs] at c3
  have HC := hid (find_ok h hl)
  clear h hl ht hs
  go_enter Tryz.func102, Tryz.ntmps102
  go_wp2_with fail
  refine HC.out.mono ?_
  rintro e w1 ⟨rfl, rfl⟩
  go_wp2
  go_ret2
  exact ⟨rfl, rfl⟩
set_option maxRecDepth 100000 in
set_option maxHeartbeats 1000000 in
theorem open_state (h : EnAt w L E) {i : Nat} {l : TxL} {t : Tx} (hl : L.txs[i]? = some l) (ht : E.txs[i]? = some t) (hs : t.state ≠ 0) :
    Calls Tryz.prog 102 #[.pointer (some ⟨L.s, 0, none⟩), .int .i64 ((i : Int) + 1)] w fun e w' => e = .returned (.tuple #[.pointer none, errV 6]) ∧ w' = w := by
  have c3 := (h.txs i l t hl ht).c3
  obtain ⟨st, hst⟩ : ∃ st, t.state = st := ⟨_, rfl⟩
  rw [hst] at c3 hs
  have HC := hid (find_ok h hl)
  clear h hl ht hst
  have g1 : (st != 0) = true := by simpa using hs
  clear hs
  go_enter Tryz.func102, Tryz.ntmps102
  go_wp2_with fail
  refine HC.out.mono ?_
  rintro e w1 ⟨rfl, rfl⟩
  go_wp2
  go_ret2
  exact ⟨rfl, rfl⟩
set_option maxRecDepth 100000 in
set_option maxHeartbeats 1000000 in
theorem open_err (h : EnAt w L E) {n : Int} (hn : n < 1 ∨ (E.txs.length : Int) < n) :
    Calls Tryz.prog 102 #[.pointer (some ⟨L.s, 0, none⟩), .int .i64 n] w fun e w' => e = .returned (.tuple #[.pointer none, errV 7]) ∧ w' = w := by
  have HC := hid (find_err h hn)
  clear h hn
  go_enter Tryz.func102, Tryz.ntmps102
  go_wp2_with fail
  refine HC.out.mono ?_
  rintro e w1 ⟨rfl, rfl⟩
  rw [show errV 7 = Value.iface 24 (.int .i64 7) from rfl]
  go_wp2
  go_ret2
  exact ⟨rfl, rfl⟩
set_option maxRecDepth 100000 in
set_option maxHeartbeats 1000000 in
theorem sees_any (h : EnAt w L E) {i : Nat} {l : TxL} {t : Tx} (hl : L.txs[i]? = some l) (ht : E.txs[i]? = some t) :
    Calls Tryz.prog 112 #[.pointer (some ⟨L.s, 0, none⟩), .pointer (some ⟨l.b, 0, none⟩)] w fun e w' => e = .returned (.int .i64 (seesP E t)) ∧ w' = w := by
  have hA := h.txs i l t hl ht
  have c1 := hA.c1
  have c2 := hA.c2
  have HC := hid (last_any _ _ _ _ _ w h.sto)
  unfold seesP
  obtain ⟨lv, hlv⟩ : ∃ lv, t.level = lv := ⟨_, rfl⟩
  rw [hlv] at c1 ⊢
  clear h hl ht hA hlv
  by_cases h0 : lv = 0
  · subst h0
    rw [if_pos rfl]
    go_enter Tryz.func112, Tryz.ntmps112
    go_wp2_with fail
    refine HC.out.mono ?_
    rintro e w1 ⟨rfl, rfl⟩
    go_wp2
    go_ret
    exact ⟨rfl, rfl⟩
  · rw [if_neg h0]
    have g1 : (lv == 0) = false := by simpa using h0
    clear h0 HC
    go_enter Tryz.func112, Tryz.ntmps112
    go_wp2
    go_ret
    exact ⟨rfl, rfl⟩
theorem newer_len (E : Eng) (k : Nat) (t : Int) (l : List (Int × Int)) (hl : E.ks[k]? = some l) : newerP E (k : Int) t = (l.drop (lat l t + 1).toNat).map (·.1) := by simp [newerP, hl]
set_option maxRecDepth 100000 in
set_option maxHeartbeats 1000000 in
theorem isNewer_any (h : EnAt w L E) {key : Int} (hk : 0 ≤ key ∧ key < 10) (t : Int) (hks : ∀ l ∈ E.ks, l.length ≤ 100000) :
    Calls Tryz.prog 212 #[.pointer (some ⟨L.s, 0, none⟩), .int .i64 key, .int .i64 t] w fun e w' => e = .returned (.bool (decide (newerP E key t ≠ []))) ∧ Below w.heap.size w w' := by
  obtain ⟨k, rfl⟩ : ∃ k : Nat, key = k := ⟨key.toNat, by omega⟩
  have hk2 : k < E.ks.length := by have := h.sto.lk; omega
  obtain ⟨l, hl⟩ : ∃ l, E.ks[k]? = some l := ⟨E.ks[k], List.getElem?_eq_getElem hk2⟩
  have hll := hks l (List.mem_of_getElem? hl)
  have HC := hid (newer_any _ _ k _ t _ _ l w h.sto hl (by omega))
  rw [newer_len E k t l hl]
  have hlen : ((l.drop (lat l t + 1).toNat).map (·.1)).length = (l.drop (lat l t + 1).toNat).length := by simp
  have hle : (l.drop (lat l t + 1).toNat).length ≤ l.length := by simp
  have hiff : decide ((l.drop (lat l t + 1).toNat).map (·.1) ≠ []) = decide (0 < (l.drop (lat l t + 1).toNat).length) := by
    rw [decide_eq_decide, List.length_pos_iff]
    simp
  rw [hiff]
  obtain ⟨m, hm⟩ : ∃ m, (l.drop (lat l t + 1).toNat).length = m := ⟨_, rfl⟩
  rw [hm] at HC hle ⊢
  clear hlen hiff h hl hks hk hk2 hm
  go_enter Tryz.func212, Tryz.ntmps212
  go_wp2_with fail
  refine HC.out.mono ?_
  rintro e w1 ⟨tv, rfl, ho, hB⟩
  obtain ⟨ad, cap, rfl⟩ := row_form ho
  have HB := hid hB
  clear ho hB HC
  go_wp2
  go_ret
  exact ⟨by simp, HB.out⟩
set_option maxRecDepth 100000 in
set_option maxHeartbeats 1000000 in
theorem wasOver_any {b1 b2 : Nat} {st bae n : Int} (c3 : w.cell? ⟨b1, 3, none⟩ = some (.int .i64 st)) (c5 : w.cell? ⟨b1, 5, none⟩ = some (.int .i64 bae)) (d0 : w.cell? ⟨b2, 0, none⟩ = some (.int .i64 n)) :
    Calls Tryz.prog 241 #[.pointer (some ⟨b1, 0, none⟩), .pointer (some ⟨b2, 0, none⟩)] w fun e w' => e = .returned (.bool (!liveB st && decide (bae < n))) ∧ ∃ q, w' = w.drewN q := by
  have HC := hid (fun q => lives_any b1 st (w.drewN q) (by rw [World.cell?_drewN]; exact c3))
  cases hb : liveB st with
  | true =>
    rw [hb] at HC
    clear hb
    go_enter Tryz.func241, Tryz.ntmps241
    go_wp2
    go_quiet (first | (go_at_call 100; refine Calls.quiet_of_same (HC.out _)))
    go_wp2
    go_ret
    exact ⟨rfl, _, rfl⟩
  | false =>
    rw [hb] at HC
    clear hb
    go_enter Tryz.func241, Tryz.ntmps241
    go_wp2
    go_quiet (first | (go_at_call 100; refine Calls.quiet_of_same (HC.out _)))
    go_wp2
    go_ret
    exact ⟨rfl, _, rfl⟩
end Go.Proofs.YtjefgmeejhakbaaGreatDoor
