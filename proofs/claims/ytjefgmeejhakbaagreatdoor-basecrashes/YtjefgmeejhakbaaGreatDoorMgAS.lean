/- ActsRow BsAct KtMapL BsCrP: put together for a claim. -/
import Derived.Test.YtjefgmeejhakbaaGreatDoorMgAC
import Derived.Test.YtjefgmeejhakbaaGreatDoorBsKept
import Derived.Test.YtjefgmeejhakbaaGreatDoorMgAL
import Derived.Test.YtjefgmeejhakbaaGreatDoorEnHist
/- Lists of acts and of numbers that came in. -/
namespace Go.Proofs.YtjefgmeejhakbaaGreatDoor
open Go.ChangeShapes Go.WideShapes Go.ChangeAt Go.RowKit

theorem tryd_cells_act : Tryz.prog.cellsOf 62 = 4 := by kernel_rfl
section
variable {H : Type} {enc : TypeId × Value → H}
set_option maxRecDepth 100000 in
theorem open_acts {W : World} {base : Nat} {v : Value} {d : DataW H} {p : List MemPlace} (hv : Value.okWide Tryz.prog W .any base 56 v) (h : DataW.Trod enc Tryz.prog W 0 (fun _ => true) true 56 v d p) : ∃ ad n cap, v = .slice ad n cap ∧ ActsAt W ad n := by
  obtain ⟨ad, n, cap, rfl⟩ := okWide_slice Tryz.underlying56 hv
  refine ⟨ad, n, cap, rfl, ?_⟩
  obtain ⟨fuel, hf⟩ := h
  rcases Go.Deep.open_slice Tryz.underlying56 hf with ⟨e, _⟩ | ⟨a, len, cp, m, n', D, Pl, e, _, hl, _, hm, _, hx⟩
  · simp [Value.cells] at e
    obtain ⟨rfl, rfl, rfl⟩ := e
    intro i hi
    omega
  · simp [Value.cells] at e
    obtain ⟨rfl, rfl, rfl⟩ := e
    have hm' : m = cap := by simpa using hm
    have each : ∀ i, i < m → ∃ (v0 v1 v2 v3 : Value), W.cell? (a.add (i * 4)) = some v0 ∧ W.cell? (a.add (i * 4 + 1)) = some v1 ∧ W.cell? (a.add (i * 4 + 2)) = some v2 ∧ W.cell? (a.add (i * 4 + 3)) = some v3 ∧
        (∃ y, DataW.trod enc Tryz.prog W 0 (fun _ => true) true (n' - 1) 3 [v0] = some y) ∧ (∃ y, DataW.trod enc Tryz.prog W 0 (fun _ => true) true (n' - 1) 3 [v1] = some y) ∧ (∃ y, DataW.trod enc Tryz.prog W 0 (fun _ => true) true (n' - 1) 3 [v2] = some y) ∧ (∃ y, DataW.trod enc Tryz.prog W 0 (fun _ => true) true (n' - 1) 3 [v3] = some y) := by
      intro i hi
      obtain ⟨cs', h1, h2⟩ := hx i hi
      rw [tryd_cells_act] at h1
      obtain ⟨_, hlen, hcell⟩ := World.cells?_some h1
      obtain ⟨xs, k, hk, hxy, _, hxl, hf'⟩ := DataW.trod_struct Tryz.underlying62 h2
      have hk' : k = n' - 1 := by omega
      subst hk'
      match xs, hxl, cs', hlen with
      | [y0, y1, y2, y3], _, [v0, v1, v2, v3], _ =>
        have g0 := hf' 0 _ rfl
        have g1 := hf' 1 _ rfl
        have g2 := hf' 2 _ rfl
        have g3 := hf' 3 _ rfl
        simp [tryd_cells3] at g0 g1 g2 g3
        have e0 := hcell 0 (by omega)
        have e1 := hcell 1 (by omega)
        have e2 := hcell 2 (by omega)
        have e3 := hcell 3 (by omega)
        rw [Go.Deep.add_add] at e0 e1 e2 e3
        exact ⟨v0, v1, v2, v3, by simpa using e0, by simpa using e1, by simpa using e2, by simpa using e3, ⟨y0, g0⟩, ⟨y1, g1⟩, ⟨y2, g2⟩, ⟨y3, g3⟩⟩
    intro i hi
    obtain ⟨_, _, _, _, h00, _⟩ := each 0 (by omega)
    obtain ⟨b, off, rfl⟩ := addr_plain (by simpa using h00)
    obtain ⟨v0, v1, v2, v3, h0, h1, h2, h3, ⟨_, t0⟩, ⟨_, t1⟩, ⟨_, t2⟩, ⟨_, t3⟩⟩ := each i (by omega)
    rw [Addr.add_mid] at h0 h1 h2 h3
    obtain ⟨q0, e0, _⟩ := DataW.trod_int Tryz.underlying3 t0
    obtain ⟨q1, e1, _⟩ := DataW.trod_int Tryz.underlying3 t1
    obtain ⟨q2, e2, _⟩ := DataW.trod_int Tryz.underlying3 t2
    obtain ⟨q3, e3, _⟩ := DataW.trod_int Tryz.underlying3 t3
    rw [(List.cons.inj e0).1] at h0
    rw [(List.cons.inj e1).1] at h1
    rw [(List.cons.inj e2).1] at h2
    rw [(List.cons.inj e3).1] at h3
    exact ⟨b, off, q0, q1, q2, q3, rfl, h0, h1, h2, h3⟩
set_option maxRecDepth 100000 in
theorem open_nums {W : World} {base : Nat} {v : Value} {d : DataW H} {p : List MemPlace} (hv : Value.okWide Tryz.prog W .any base 29 v) (h : DataW.Trod enc Tryz.prog W 0 (fun _ => true) true 29 v d p) : ∃ ad n cap, v = .slice ad n cap ∧ IntsAt W ad n := by
  obtain ⟨ad, n, cap, rfl⟩ := okWide_slice Tryz.underlying29 hv
  refine ⟨ad, n, cap, rfl, ?_⟩
  obtain ⟨fuel, hf⟩ := h
  rcases Go.Deep.open_slice Tryz.underlying29 hf with ⟨e, _⟩ | ⟨a, len, cp, m, n', D, Pl, e, _, hl, _, hm, _, hx⟩
  · simp [Value.cells] at e
    obtain ⟨rfl, rfl, rfl⟩ := e
    intro i hi
    omega
  · simp [Value.cells] at e
    obtain ⟨rfl, rfl, rfl⟩ := e
    have hm' : m = cap := by simpa using hm
    have each : ∀ i, i < m → ∃ (v0 : Value) (k : Nat), W.cell? (a.add i) = some v0 ∧ (∃ y, DataW.trod enc Tryz.prog W 0 (fun _ => true) true k 3 [v0] = some y) := by
      intro i hi
      obtain ⟨cs', h1, h2⟩ := hx i hi
      rw [tryd_cells3] at h1
      obtain ⟨_, hlen, hcell⟩ := World.cells?_some h1
      match cs', hlen with
      | [v0], _ =>
        have e0 := hcell 0 (by omega)
        rw [Go.Deep.add_add] at e0
        exact ⟨v0, _, by simpa using e0, ⟨_, h2⟩⟩
    intro i hi
    obtain ⟨_, _, h00, _⟩ := each 0 (by omega)
    obtain ⟨b, off, rfl⟩ := addr_plain (by simpa using h00)
    obtain ⟨v0, k, h0, ⟨_, t0⟩⟩ := each i (by omega)
    rw [Addr.add_mid] at h0
    obtain ⟨q0, e0, _⟩ := DataW.trod_int Tryz.underlying3 t0
    rw [(List.cons.inj e0).1] at h0
    exact ⟨b, off, q0, rfl, h0⟩
end

end Go.Proofs.YtjefgmeejhakbaaGreatDoor

/- What each act makes of a base, and of the map beside it. -/
namespace Go.Proofs.YtjefgmeejhakbaaGreatDoor
open Go.RowKit

/-- The map beside a base. -/
structure MapBy (w : World) (mb b d : Nat) (L : EnL) (dv : List Value) (f : Int → Option Int) : Prop where
  map : IMap w mb 10 (fun y => (f y).map (Value.int .i64))
  nb : mb ≠ b
  ne : ¬ L.own mb
  nd : ¬ dOwn d dv mb
structure CrOk (w0 w : World) (d mb b i : Nat) (L : EnL) (E : Eng) (dv : List Value) (D : Dsk) (torn : Int) (down : Bool) (recs : List (List (Int × Int))) (f : Int → Option Int) : Prop where
  cr : CrAt w0 w b d L E dv D recs.length torn down
  mid : ∃ a0 K0, Mid a0 K0 E.ce noQ
  rd : ∀ u ∈ E.txs, u.reads.length ≤ i
  dsk : DskOk D recs
  len : recs.length ≤ i
  tn : 0 ≤ torn ∧ torn ≤ 100
  mp : MapBy w mb b d L dv f
  lom : w0.heap.size ≤ mb
section
variable {w0 w w' : World} {d mb b i : Nat} {L L' : EnL} {E E' : Eng} {dv dv' : List Value} {D D' : Dsk} {torn torn' : Int} {down down' : Bool} {recs recs' : List (List (Int × Int))} {f : Int → Option Int}
theorem MapBy.post (h : MapBy w mb b d L dv f) (hP : BPost b d L L' dv dv' w w') : MapBy w' mb b d L' dv' f := by
  have hl := h.map.lt
  refine ⟨h.map.same (hP.block mb hl h.nb (fun e => h.nd (.inl e)) h.ne), h.nb, fun ho => ?_, fun ho => ?_⟩
  · rcases hP.enw mb ho with h1 | h1
    · exact h.ne h1
    · omega
  · rcases hP.dsw mb ho with h1 | h1
    · exact h.nd h1
    · omega
theorem CrOk.below (h : CrOk w0 w d mb b i L E dv D torn down recs f) (hB : Below w.heap.size w w') : CrOk w0 w' d mb b i L E dv D torn down recs f :=
  ⟨h.cr.below hB, h.mid, h.rd, h.dsk, h.len, h.tn, h.mp.post (BPost.of_below hB), h.lom⟩
theorem CrOk.drewN (h : CrOk w0 w d mb b i L E dv D torn down recs f) (q : Nat) : CrOk w0 (w.drewN q) d mb b i L E dv D torn down recs f := h.below (below_drewN (Below.refl _ w) q)
theorem CrOk.next (h : CrOk w0 w d mb b i L E dv D torn down recs f) : CrOk w0 w d mb b (i + 1) L E dv D torn down recs f :=
  ⟨h.cr, h.mid, fun u hu => Nat.le_succ_of_le (h.rd u hu), h.dsk, Nat.le_succ_of_le h.len, h.tn, h.mp, h.lom⟩
/-- The engine alone was turned. -/
theorem CrOk.eng (h : CrOk w0 w d mb b i L E dv D torn down recs f) (hE : EnAt w' L' E') (hK : KeptO L.own L'.own w w') (hs : L'.s = L.s) (hM : ∃ a0 K0, Mid a0 K0 E'.ce noQ) (hr : ∀ u ∈ E'.txs, u.reads.length ≤ i + 1) : CrOk w0 w' d mb b (i + 1) L' E' dv D torn down recs f :=
  ⟨h.cr.turn hE hK hs, hM, hr, h.dsk, Nat.le_succ_of_le h.len, h.tn, h.mp.post (BPost.of_engine hK), h.lom⟩
theorem CrOk.post (h : CrOk w0 w d mb b i L E dv D torn down recs f) (hP : EnPost L E' w w') (hM : ∃ a0 K0, Mid a0 K0 E'.ce noQ) (hr : ∀ u ∈ E'.txs, u.reads.length ≤ i + 1) : ∃ L', CrOk w0 w' d mb b (i + 1) L' E' dv D torn down recs f ∧ L'.s = L.s := by
  obtain ⟨L', hE, hK, hs, _⟩ := hP
  exact ⟨L', h.eng hE hK hs hM hr, hs⟩
theorem CrOk.handle (h : CrOk w0 w d mb b i L E dv D torn down recs f) (hg : Handle w0) : Handle w := hg.below h.cr.fr hg.pos

/-- A number of one of them, or of none. -/
theorem num_cases (E : Eng) {m : Int} (hm : m ≤ E.txs.length) : (m < 1 ∨ (E.txs.length : Int) < m) ∨ ∃ (k : Nat) (t : Tx), m = (k : Int) + 1 ∧ E.txs[k]? = some t := by
  by_cases h : m < 1
  · exact .inl (.inl h)
  · obtain ⟨k, hk⟩ : ∃ k : Nat, m = (k : Int) + 1 := ⟨(m - 1).toNat, by omega⟩
    exact .inr ⟨k, _, hk, List.getElem?_eq_getElem (by omega)⟩
theorem cr_begin (h : CrOk w0 w d mb b i L E dv D torn down recs f) {level : Int} (hlv : level = 0 ∨ level = 1 ∨ level = 2) :
    Calls Tryz.prog 51 #[.pointer (some ⟨L.s, 0, none⟩), .int .i64 level] w fun e w' => ∃ v1 v2, e = .returned (.tuple #[v1, v2]) ∧ ∃ L' E', CrOk w0 w' d mb b (i + 1) L' E' dv D torn down recs f := by
  have hen := h.cr.bas.en
  by_cases hl : E.txs.length < 200
  · by_cases ho : (liveOnes E).length < 6
    · refine (begin_ok hen hlv hl ho).mono ?_
      rintro e w' ⟨rfl, L', b', hE, hK, hs, _⟩
      obtain ⟨a0, K0, hM⟩ := h.mid
      obtain ⟨h1, h2⟩ := b_begin hM h.rd hlv hl ho
      exact ⟨_, _, rfl, L', _, h.eng hE hK hs ⟨a0, K0, h1⟩ (fun u hu => Nat.le_succ_of_le (h2 u hu))⟩
    · refine (begin_limit hen hlv hl (by omega)).mono ?_
      rintro e w' ⟨rfl, hB⟩
      exact ⟨_, _, rfl, L, E, (h.below hB).next⟩
  · refine (begin_full hen hlv (by omega)).mono ?_
    rintro e w' ⟨rfl, rfl⟩
    exact ⟨_, _, rfl, L, E, h.next⟩
theorem cr_read (h : CrOk w0 w d mb b i L E dv D torn down recs f) (hg : Handle w0) {m key : Int} (hm : m ≤ E.txs.length) (hk : 0 ≤ key ∧ key < 10) (hi : i ≤ 1000) :
    Calls Tryz.prog 52 #[.pointer (some ⟨L.s, 0, none⟩), .int .i64 m, .int .i64 key] w fun e w' => ∃ v1 v2, e = .returned (.tuple #[v1, v2]) ∧ ∃ L' E', CrOk w0 w' d mb b (i + 1) L' E' dv D torn down recs f := by
  have hen := h.cr.bas.en
  rcases num_cases E hm with hmis | ⟨k, t, rfl, ht⟩
  · refine (read_shut hen (c := 7) (.inl ⟨rfl, hmis⟩)).mono ?_
    rintro e w' ⟨rfl, rfl⟩
    exact ⟨_, _, rfl, L, E, h.next⟩
  · by_cases hs : t.state = 0
    · obtain ⟨l, hl, _⟩ := hen.get ht
      cases hv : t.vals key with
      | some v =>
        refine (read_own hen hl ht hs (by unfold I64; omega) hv).mono ?_
        rintro e w' ⟨rfl, rfl⟩
        exact ⟨_, _, rfl, L, E, h.next⟩
      | none =>
        obtain ⟨a0, K0, hM⟩ := h.mid
        obtain ⟨R, hR, hM2, hr2⟩ := b_read hM h.rd ht hs hk hv
        obtain ⟨kn, rfl⟩ : ∃ kn : Nat, key = (kn : Int) := ⟨key.toNat, by omega⟩
        refine (read_main hen (h.handle hg) hM.fits hl ht hs (by have := h.rd t (List.mem_of_getElem? ht); omega) (fun a => hM.open_wr ht (live_iff.2 (.inl hs)) a) (k := kn) (by omega) hv hR).mono ?_
        rintro e w' ⟨rfl, hP⟩
        obtain ⟨L', h2, _⟩ := h.post hP ⟨a0, K0, hM2⟩ hr2
        exact ⟨_, _, rfl, L', _, h2⟩
    · refine (read_shut hen (c := 6) (.inr ⟨rfl, k, t, rfl, ht, hs⟩)).mono ?_
      rintro e w' ⟨rfl, rfl⟩
      exact ⟨_, _, rfl, L, E, h.next⟩
theorem cr_write (h : CrOk w0 w d mb b i L E dv D torn down recs f) {m key val : Int} (hm : m ≤ E.txs.length) (hk : 0 ≤ key ∧ key < 10) (hval : 0 ≤ val ∧ val ≤ 1000) :
    Calls Tryz.prog 53 #[.pointer (some ⟨L.s, 0, none⟩), .int .i64 m, .int .i64 key, .int .i64 val] w fun e w' => ∃ v1 v2, e = .returned (.tuple #[v1, v2]) ∧ ∃ L' E', CrOk w0 w' d mb b (i + 1) L' E' dv D torn down recs f := by
  have hen := h.cr.bas.en
  rcases num_cases E hm with hmis | ⟨k, t, rfl, ht⟩
  · refine (write_shut hen (c := 7) (.inl ⟨rfl, hmis⟩)).mono ?_
    rintro e w' ⟨rfl, rfl⟩
    exact ⟨_, _, rfl, L, E, h.next⟩
  · by_cases hs : t.state = 0
    · obtain ⟨a0, K0, hM⟩ := h.mid
      obtain ⟨q, hq⟩ := hen.good.rank
      obtain ⟨R, hR, hM2, hr2⟩ := b_write hM h.rd ht hs hk (val := val) (by omega) hq
      refine (write_main hen hM.fits hq ht hs hk (by omega) hR).mono ?_
      rintro e w' ⟨rfl, hP⟩
      obtain ⟨L', h2, _⟩ := h.post hP ⟨a0, K0, hM2⟩ (fun u hu => Nat.le_succ_of_le (hr2 u hu))
      exact ⟨_, _, rfl, L', _, h2⟩
    · refine (write_shut hen (c := 6) (.inr ⟨rfl, k, t, rfl, ht, hs⟩)).mono ?_
      rintro e w' ⟨rfl, rfl⟩
      exact ⟨_, _, rfl, L, E, h.next⟩
theorem cr_abort (h : CrOk w0 w d mb b i L E dv D torn down recs f) {m : Int} (hm : m ≤ E.txs.length) :
    Calls Tryz.prog 36 #[.pointer (some ⟨L.s, 0, none⟩), .int .i64 m] w fun e w' => ∃ v1, e = .returned v1 ∧ ∃ L' E', CrOk w0 w' d mb b (i + 1) L' E' dv D torn down recs f := by
  have hen := h.cr.bas.en
  rcases num_cases E hm with hmis | ⟨k, t, rfl, ht⟩
  · refine (abort_miss hen hmis).mono ?_
    rintro e w' ⟨rfl, rfl⟩
    exact ⟨_, rfl, L, E, h.next⟩
  · cases hl : liveB t.state with
    | false =>
      refine (abort_over hen ht hl).mono ?_
      rintro e w' ⟨rfl, rfl⟩
      exact ⟨_, rfl, L, E, h.next⟩
    | true =>
      obtain ⟨a0, K0, hM⟩ := h.mid
      obtain ⟨E', hE', hM2, hr2⟩ := b_abort hM h.rd ht hl
      refine (abort_main hen hM.fits ht hl hE').mono ?_
      rintro e w' ⟨rfl, hP⟩
      obtain ⟨L', h2, _⟩ := h.post hP ⟨a0, K0, hM2⟩ (fun u hu => Nat.le_succ_of_le (hr2 u hu))
      exact ⟨_, rfl, L', _, h2⟩
/-- What one wrote, by its number. -/
def wsAt (E : Eng) (m : Int) : List (Int × Int) := if 1 ≤ m then (match E.txs[(m - 1).toNat]? with | some t => writesP t.vals | none => []) else []
theorem cr_writes (h : CrOk w0 w d mb b i L E dv D torn down recs f) {m : Int} (hm : m ≤ E.txs.length) :
    Calls Tryz.prog 28 #[.pointer (some ⟨L.s, 0, none⟩), .int .i64 m] w fun e w' => ∃ v ev, e = .returned (.tuple #[v, ev]) ∧ w'.ownsRow w.heap.size 78 2 v (wsAt E m).length (vrow (wsAt E m)) ∧ Below w.heap.size w w' := by
  have hen := h.cr.bas.en
  rcases num_cases E hm with hmis | ⟨k, t, rfl, ht⟩
  · refine (writesE_err hen hmis).mono ?_
    rintro e w' ⟨rfl, rfl⟩
    have : wsAt E m = [] := by unfold wsAt; rw [if_neg (by omega)]
    rw [this]
    exact ⟨_, _, rfl, World.ownsRow_nil _ _ _ _, Below.refl _ _⟩
  · refine (writesE_ok hen ht).mono ?_
    rintro e w' ⟨v, rfl, hrow, hB⟩
    have : wsAt E ((k : Int) + 1) = writesP t.vals := by unfold wsAt; rw [if_pos (by omega), show ((k : Int) + 1 - 1).toNat = k by omega, ht]
    rw [this]
    exact ⟨_, _, rfl, hrow, hB⟩
theorem cr_commit (h : CrOk w0 w d mb b i L E dv D torn false recs f) (hi : i < 100) {m : Int} (hm : m ≤ E.txs.length) :
    Calls Tryz.prog 43 #[.pointer (some ⟨b, 0, none⟩), .int .i64 m] w fun e w' =>
      (e = .returned .nilIface ∧ ∃ L' E' dv' D' recs', CrOk w0 w' d mb b (i + 1) L' E' dv' D' torn false recs' f ∧ recs'.flatten = recs.flatten ++ wsAt E m ∧ BPost b d L L' dv dv' w w') ∨
      (∃ c, e = .returned (.iface 24 (.int .i64 c)) ∧ ∃ L' E' dv' D' down', CrOk w0 w' d mb b (i + 1) L' E' dv' D' torn down' recs f) := by
  have hbas := h.cr.bas
  rcases num_cases E hm with hmis | ⟨k, t, rfl, ht⟩
  · refine (bcommit_shut hbas (c := 7) (.inl ⟨rfl, hmis⟩)).mono ?_
    rintro e w' ⟨rfl, hB⟩
    exact .inr ⟨_, rfl, L, E, dv, D, false, (h.below hB).next⟩
  · have hws : wsAt E ((k : Int) + 1) = writesP t.vals := by unfold wsAt; rw [if_pos (by omega), show ((k : Int) + 1 - 1).toNat = k by omega, ht]
    rw [hws]
    by_cases hs : t.state = 0
    · obtain ⟨a0, K0, hM⟩ := h.mid
      obtain ⟨R, hR, hM2, hr2, hR0, hR13⟩ := b_commit hM h.rd ht hs
      cases hb : betB t.ahead t.behind with
      | true =>
        refine (bcommit_plain hbas hM ht hs (.inl hb) hR).mono ?_
        rintro e w' ⟨rfl, w1, hB1, hP⟩
        obtain ⟨L', h2, _⟩ := (h.below hB1).post hP ⟨a0, K0, hM2⟩ (fun u hu => Nat.le_succ_of_le (hr2 u hu))
        rw [hR13 hb]
        exact .inr ⟨13, rfl, L', _, dv, D, false, h2⟩
      | false =>
        by_cases hne : writesP t.vals = []
        · refine (bcommit_plain hbas hM ht hs (.inr hne) hR).mono ?_
          rintro e w' ⟨rfl, w1, hB1, hP⟩
          obtain ⟨L', hE, hK, hs3, _⟩ := hP
          have h2 := (h.below hB1).eng hE hK hs3 ⟨a0, K0, hM2⟩ (fun u hu => Nat.le_succ_of_le (hr2 u hu))
          rw [hR0 hb]
          exact .inl ⟨rfl, L', _, dv, D, recs, h2, by rw [hne, List.append_nil], (BPost.of_below hB1).trans (BPost.of_engine hK)⟩
        · have hlft := h.dsk.2.2.2
          have hfine := writesP_fine (t := t) (hM.reg.fair k _ (cs_get ht)).vk (hM.fine ht)
          cases hpw : powerB D with
          | true =>
            refine (bcommit_ok hbas h.dsk.1 hM ht hs hb hne (by unfold I64; omega) hpw hR).mono ?_
            rintro e w' ⟨rfl, L', dv', hB', hP'⟩
            rw [hR0 hb]
            refine .inl ⟨rfl, L', _, dv', _, recs ++ [writesP t.vals], ⟨?_, ⟨a0, K0, hM2⟩, fun u hu => Nat.le_succ_of_le (hr2 u hu), h.dsk.write (writesP_len _) hfine hne (by have := h.len; omega) torn hpw, by have := h.len; simp; omega, h.tn, h.mp.post hP', h.lom⟩, by simp, hP'⟩
            have := h.cr.bpost hB' hP'
            rw [List.length_append, List.length_singleton]
            exact this
          | false =>
            refine (bcommit_down hbas h.dsk.1 hM ht hs hb hne h.tn.1 hpw).mono ?_
            rintro e w' ⟨rfl, dv', hB', hP'⟩
            exact .inr ⟨14, rfl, L, E, dv', _, true, h.cr.bpost hB' hP', h.mid, fun u hu => Nat.le_succ_of_le (h.rd u hu), h.dsk.off _ torn hpw, Nat.le_succ_of_le h.len, h.tn, h.mp.post hP', h.lom⟩
    · refine (bcommit_shut hbas (c := 6) (.inr ⟨rfl, k, t, rfl, ht, hs⟩)).mono ?_
      rintro e w' ⟨rfl, hB⟩
      exact .inr ⟨_, rfl, L, E, dv, D, false, (h.below hB).next⟩
end

end Go.Proofs.YtjefgmeejhakbaaGreatDoor

/- len(m), and the keys of a history. -/
namespace Go.Proofs.YtjefgmeejhakbaaGreatDoor
open Go.RowKit Go.Maps Go.Sort Go.Shelf

theorem IMap.lenEq {w : World} {b n : Nat} {f : Int → Option Value} (h : IMap w b n f) (hs : ∀ a, f a ≠ none → 0 ≤ a ∧ a < 10) {t e : TypeId} (ht : Tryz.prog.underlying t = some (.map 3 e)) (ty : TypeId) :
    (Builtin.len_ #[t] ty #[.map (some b)]).run Tryz.prog w = .ok (.int .i64 ((keysOf f).length : Nat)) w := by
  have h10 := h.upTo 10 hs
  obtain ⟨D0, hown, h2⟩ := h10
  have hc : CollectedI D0 (fun _ => false) (keysOf f) := ⟨keysOf_nodup f, fun x => by rw [mem_keysOf hs, (h2 x).1]; simp⟩
  have hperm0 := hc.perm hown lawI Tryz.underlying3 (fun _ => rfl)
  rw [hown.len ht ty, hperm0.length_eq]
  obtain ⟨es, clock, hb, F, hs, rfl⟩ := hown
  simp [intKeys, Maps.size_eq]

theorem opsV_get : ∀ (l : List (Int × Int × Bool × Int)) (j : Nat) (o : Int × Int × Bool × Int), l[j]? = some o → (opsV l)[j * 4]? = some (.int .i64 o.1) ∧ (opsV l)[j * 4 + 1]? = some (.int .i64 o.2.1) ∧ (opsV l)[j * 4 + 2]? = some (.bool o.2.2.1) ∧ (opsV l)[j * 4 + 3]? = some (.int .i64 o.2.2.2)
  | [], j, o, h => by simp at h
  | p :: r, 0, o, h => by simp at h; subst h; simp [opsV]
  | p :: r, j + 1, o, h => by
    have := opsV_get r j o (by simpa using h)
    simp only [opsV, show (j + 1) * 4 = j * 4 + 4 by omega, show j * 4 + 4 + 1 = j * 4 + 1 + 4 by omega, show j * 4 + 4 + 2 = j * 4 + 2 + 4 by omega, show j * 4 + 4 + 3 = j * 4 + 3 + 4 by omega, List.getElem?_cons_succ]
    exact this

theorem hist_keys {E : Eng} {o : Int × Int × Bool × Int} (h : o ∈ histP E) (hw : o.2.2.1 = true) : 0 ≤ o.2.1 ∧ o.2.1 < 10 := by
  unfold histP histTo at h
  obtain ⟨i, _, h⟩ := List.mem_flatMap.1 h
  cases ht : E.txs[i]? with
  | none => rw [ht] at h; cases h
  | some t =>
    rw [ht] at h
    rcases List.mem_append.1 h with h | h
    · unfold readOps at h
      obtain ⟨p, _, rfl⟩ := List.mem_map.1 h
      cases hw
    · obtain ⟨p, hp, rfl⟩ := List.mem_map.1 h
      unfold writesP at hp
      obtain ⟨k, hk, rfl⟩ := List.mem_map.1 hp
      exact mem_keysP.1 (List.mem_filter.1 hk).1

theorem lastH_take {l : List (Int × Int × Bool × Int)} {i : Nat} {o : Int × Int × Bool × Int} (h : l[i]? = some o) : lastH (l.take (i + 1)) = if o.2.2.1 = true then updT (lastH (l.take i)) o.2.1 (some o.1) else lastH (l.take i) := by
  rw [List.take_add_one, h]
  exact lastH_snoc _ _

theorem keysOf_mapI (f : Int → Option Int) : keysOf (fun k => (f k).map (Value.int .i64)) = keysOf f := keysOf_map f

end Go.Proofs.YtjefgmeejhakbaaGreatDoor

/- What a walk over a base that crashes needs beside the acts. -/
namespace Go.Proofs.YtjefgmeejhakbaaGreatDoor
open Go.RowKit

theorem count_engO {t : Int} {ws : List (Int × Int)} (hw : ∀ p ∈ ws, 0 ≤ p.1 ∧ p.1 < 10) : (allE (engO t ws)).length = (keysOf (lastOf ws)).length := by
  unfold allE
  rw [allK_fst, keysOf_range]
  congr 1
  refine List.filter_congr (fun k hk => ?_)
  rw [← all_engO (t := t) hw k (List.mem_range.1 hk), Option.isSome_map]
theorem each_engO {t : Int} {ws : List (Int × Int)} (hw : ∀ p ∈ ws, 0 ≤ p.1 ∧ p.1 < 10) {k x : Int} (hx : (k, x) ∈ allE (engO t ws)) : lastOf ws k = some x ∧ 0 ≤ k ∧ k < 10 := by
  obtain ⟨j, hj, rfl, hv⟩ := allK_mem _ _ _ _ hx
  rw [all_engO hw j hj] at hv
  exact ⟨hv, by omega⟩
theorem lastOf_keys {ws : List (Int × Int)} (hw : ∀ p ∈ ws, 0 ≤ p.1 ∧ p.1 < 10) : ∀ a, lastOf ws a ≠ none → 0 ≤ a ∧ a < 10 := fun a ha => by
  unfold lastOf at ha
  cases hg : (ws.filter (fun p => p.1 == a)).getLast? with
  | none => rw [hg] at ha; exact absurd rfl ha
  | some p =>
    have hm := List.mem_filter.1 (List.mem_of_getLast? hg)
    have he : p.1 = a := by simpa using hm.2
    rw [← he]
    exact hw p hm.1
theorem ws_len (E : Eng) (m : Int) : (wsAt E m).length ≤ 10 := by
  unfold wsAt
  split
  · split
    · exact writesP_len _
    · exact Nat.zero_le _
  · exact Nat.zero_le _
theorem ws_key (E : Eng) (m : Int) : ∀ p ∈ wsAt E m, 0 ≤ p.1 ∧ p.1 < 10 := fun p hp => by
  unfold wsAt at hp
  split at hp
  · split at hp
    · unfold writesP at hp
      obtain ⟨k, hk, rfl⟩ := List.mem_map.1 hp
      exact keysOf_pos _ hk
    · cases hp
  · cases hp
section
variable {w0 w w' : World} {d mb b i : Nat} {L L' : EnL} {E E' : Eng} {dv dv' : List Value} {D D' : Dsk} {torn torn' : Int} {down down' : Bool} {recs recs' : List (List (Int × Int))} {f f' : Int → Option Int}
theorem CrOk.keys (h : CrOk w0 w d mb b i L E dv D torn down recs f) : ∀ p ∈ recs.flatten, 0 ≤ p.1 ∧ p.1 < 10 := fun p hp => fine_key (flat_fine h.dsk.1 p hp)
theorem CrOk.fits (h : CrOk w0 w d mb b i L E dv D torn down recs f) : Fits (engO recs.length recs.flatten) := (mid_engO ⟨by omega, by have := h.dsk.1.lt; omega⟩ h.keys).fits
theorem CrOk.reopen (h : CrOk w0 w d mb b i L E dv D torn down recs f) {b' : Nat}
    (hO : w'.heap[b']? = some (.cells (basCells d L'.s recs.length 0 false) 193 (0, 0)) ∧ EnAt w' L' (engO recs.length recs.flatten) ∧ Below w.heap.size w w' ∧ (∀ g, L'.own g → w.heap.size ≤ g) ∧ w.heap.size ≤ b' ∧ ¬ L'.own b') : CrOk w0 w' d mb b' i L' (engO recs.length recs.flatten) dv D 0 false recs f := by
  have hl := h.mp.map.lt
  refine ⟨cr_open h.cr.bas.dsk h.cr.fr h.cr.lod hO, ⟨_, _, mid_engO ⟨by omega, by have := h.dsk.1.lt; omega⟩ h.keys⟩, fun u hu => (by cases hu), h.dsk, h.len, ⟨by omega, by omega⟩, ⟨h.mp.map.same (hO.2.2.1.block mb hl), ?_, fun ho => ?_, h.mp.nd⟩, h.lom⟩
  · have := hO.2.2.2.2.1; omega
  · have := hO.2.2.2.1 mb ho; omega
theorem CrOk.stored (h : CrOk w0 w d mb b i L E dv D torn down recs f) (hI : IMap w' mb 10 (fun y => (f' y).map (Value.int .i64))) (hB : Below mb w w') (hk : ∀ g, g < w.heap.size → g ≠ mb → w'.heap[g]? = w.heap[g]?) : CrOk w0 w' d mb b i L E dv D torn down recs f' := by
  have hbas := h.cr.bas
  have hs := h.cr.fr.size
  have hlm := h.lom
  refine ⟨⟨⟨(hk b hbas.lt (fun e => h.mp.nb e.symm)).trans hbas.bas, hbas.dsk.same hB.size (fun g hg => hk g (hbas.dsk.own_lt hg) (fun e => h.mp.nd (e ▸ hg))), hbas.en.same (fun g hg => hk g (hbas.en.own_lt hg) (fun e => h.mp.ne (e ▸ hg))), hbas.sepb, hbas.sepd⟩, ?_, h.cr.lob, h.cr.lod, h.cr.loe⟩, h.mid, h.rd, h.dsk, h.len, h.tn, ⟨hI, h.mp.nb, h.mp.ne, h.mp.nd⟩, h.lom⟩
  exact ⟨hB.os.trans h.cr.fr.os, hB.tape.trans h.cr.fr.tape, hB.output.trans h.cr.fr.output, Nat.le_trans hs hB.size, fun g hg => (hk g (by omega) (by omega)).trans (h.cr.fr.block g hg)⟩
theorem cr_cut (h : CrOk w0 w d mb b i L E dv D torn down recs f) {n : Int} (hn : -1 ≤ n ∧ n ≤ 100) :
    Calls Tryz.prog 45 #[.pointer (some ⟨d, 0, none⟩), .int .i64 n] w fun e w' => e = .returned (.tuple #[]) ∧ ∃ D', CrOk w0 w' d mb b i L E dv D' torn down recs f := by
  refine (dcut_any h.cr.bas.dsk n).mono ?_
  rintro e w' ⟨rfl, hD, ⟨hz, hos, htp, hou⟩, hk⟩
  have hP : BPost b d L L dv dv w w' := ⟨hos, htp, hou, Nat.le_of_eq hz.symm, fun k _ _ h2 _ => hk k h2, fun _ hg => .inl hg, fun _ hg => .inl hg⟩
  exact ⟨rfl, _, h.cr.bpost (h.cr.bas.setDisk hD (fun _ hg => .inl hg) (fun k _ hkd => hk k hkd)) hP, h.mid, h.rd, h.dsk.cut _ hn, h.len, h.tn, h.mp.post hP, h.lom⟩
theorem cr_torn (h : CrOk w0 w d mb b i L E dv D torn down recs f) {n : Int} (hn : n ≤ 100) :
    Calls Tryz.prog 47 #[.pointer (some ⟨b, 0, none⟩), .int .i64 n] w fun e w' => e = .returned (.tuple #[]) ∧ ∃ torn', CrOk w0 w' d mb b i L E dv D torn' down recs f := by
  refine (btorn_any h.cr.bas n).mono ?_
  rintro e w' ⟨rfl, hB, ⟨hz, hos, htp, hou⟩, hk⟩
  have hP : BPost b d L L dv dv w w' := ⟨hos, htp, hou, Nat.le_of_eq hz.symm, fun k _ h1 _ _ => hk k h1, fun _ hg => .inl hg, fun _ hg => .inl hg⟩
  exact ⟨rfl, _, h.cr.bpost hB hP, h.mid, h.rd, h.dsk, h.len, ⟨by omega, by omega⟩, h.mp.post hP, h.lom⟩
theorem cr_start (h : CrAt w0 w b d L (engO (([] : List (List (Int × Int))).length : Int) ([] : List (List (Int × Int))).flatten) dv0 dsk0 ([] : List (List (Int × Int))).length 0 false) : CrOk w0 (w.alloc (.map #[] 0)) d w.heap.size b 0 L (engO (([] : List (List (Int × Int))).length : Int) ([] : List (List (Int × Int))).flatten) dv0 dsk0 0 false [] (lastOf ([] : List (List (Int × Int))).flatten) := by
  have hl := h.bas.lt
  refine ⟨h.below ((Below.refl _ w).alloc (Nat.le_refl _) _), ⟨_, _, mid_engO ⟨by decide, by decide⟩ (fun p hp => by cases hp)⟩, fun u hu => (by cases hu), dskOk0, Nat.le_refl _, ⟨by omega, by omega⟩, ⟨((IMap.made w).mono (Nat.zero_le _)).congr (fun a => rfl), by omega, fun ho => ?_, fun ho => ?_⟩, h.fr.size⟩
  · have := h.bas.en.own_lt ho; omega
  · have := h.bas.dsk.own_lt ho; omega
end

end Go.Proofs.YtjefgmeejhakbaaGreatDoor
