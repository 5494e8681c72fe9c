/- ActsRow KtAll KtRowAt KtTellsD KtSteady: put together for a claim. -/
import Derived.Test.YtjefgmeejhakbaaGreatDoorMgAC
import Derived.Test.YtjefgmeejhakbaaGreatDoorMgAR
import Derived.Test.YtjefgmeejhakbaaGreatDoorKtDoesS
import Derived.Test.YtjefgmeejhakbaaGreatDoorKtDoesB
import Derived.Test.YtjefgmeejhakbaaGreatDoorMgAV
import Derived.Test.YtjefgmeejhakbaaGreatDoorMgAQ
import Derived.Test.YtjefgmeejhakbaaGreatDoorMgAU
import Derived.Deep.RegionHeld3
import Derived.Deep.QuietTactic
import Derived.BigQuiet
/- Lists of acts and of numbers that came in. -/
namespace Go.Proofs.YtjefgmeejhakbaaGreatDoor
open Go.ChangeShapes Go.WideShapes Go.ChangeAt Go.RowKit

theorem tryd_cells_act : Tryz.prog.cellsOf 62 = 4 := by kernel_rfl
section
variable {H : Type} {enc : TypeId × Value → H}
set_option maxRecDepth 100000 in
theorem open_acts {W : World} {base : Nat} {v : Value} {d : DataW H} {p : List MemPlace} (hv : Value.okWide Tryz.prog W .any base 56 v) (h : DataW.Trod enc Tryz.prog W 0 (fun _ => true) true 56 v d p) : ∃ ad n cap, v = .slice ad n cap ∧ ActsAt W ad n := by
  obtain ⟨ad, n, cap, rfl⟩ := okWide_slice Tryz.underlying56 hv
  refine ⟨ad, n, cap, rfl, ?_⟩
  obtain ⟨fuel, hf⟩ := h
  rcases Go.Deep.open_slice Tryz.underlying56 hf with ⟨e, _⟩ | ⟨a, len, cp, m, n', D, Pl, e, _, hl, _, hm, _, hx⟩
  · simp [Value.cells] at e
    obtain ⟨rfl, rfl, rfl⟩ := e
    intro i hi
    omega
  · simp [Value.cells] at e
    obtain ⟨rfl, rfl, rfl⟩ := e
    have hm' : m = cap := by simpa using hm
    have each : ∀ i, i < m → ∃ (v0 v1 v2 v3 : Value), W.cell? (a.add (i * 4)) = some v0 ∧ W.cell? (a.add (i * 4 + 1)) = some v1 ∧ W.cell? (a.add (i * 4 + 2)) = some v2 ∧ W.cell? (a.add (i * 4 + 3)) = some v3 ∧
        (∃ y, DataW.trod enc Tryz.prog W 0 (fun _ => true) true (n' - 1) 3 [v0] = some y) ∧ (∃ y, DataW.trod enc Tryz.prog W 0 (fun _ => true) true (n' - 1) 3 [v1] = some y) ∧ (∃ y, DataW.trod enc Tryz.prog W 0 (fun _ => true) true (n' - 1) 3 [v2] = some y) ∧ (∃ y, DataW.trod enc Tryz.prog W 0 (fun _ => true) true (n' - 1) 3 [v3] = some y) := by
      intro i hi
      obtain ⟨cs', h1, h2⟩ := hx i hi
      rw [tryd_cells_act] at h1
      obtain ⟨_, hlen, hcell⟩ := World.cells?_some h1
      obtain ⟨xs, k, hk, hxy, _, hxl, hf'⟩ := DataW.trod_struct Tryz.underlying62 h2
      have hk' : k = n' - 1 := by omega
      subst hk'
      match xs, hxl, cs', hlen with
      | [y0, y1, y2, y3], _, [v0, v1, v2, v3], _ =>
        have g0 := hf' 0 _ rfl
        have g1 := hf' 1 _ rfl
        have g2 := hf' 2 _ rfl
        have g3 := hf' 3 _ rfl
        simp [tryd_cells3] at g0 g1 g2 g3
        have e0 := hcell 0 (by omega)
        have e1 := hcell 1 (by omega)
        have e2 := hcell 2 (by omega)
        have e3 := hcell 3 (by omega)
        rw [Go.Deep.add_add] at e0 e1 e2 e3
        exact ⟨v0, v1, v2, v3, by simpa using e0, by simpa using e1, by simpa using e2, by simpa using e3, ⟨y0, g0⟩, ⟨y1, g1⟩, ⟨y2, g2⟩, ⟨y3, g3⟩⟩
    intro i hi
    obtain ⟨_, _, _, _, h00, _⟩ := each 0 (by omega)
    obtain ⟨b, off, rfl⟩ := addr_plain (by simpa using h00)
    obtain ⟨v0, v1, v2, v3, h0, h1, h2, h3, ⟨_, t0⟩, ⟨_, t1⟩, ⟨_, t2⟩, ⟨_, t3⟩⟩ := each i (by omega)
    rw [Addr.add_mid] at h0 h1 h2 h3
    obtain ⟨q0, e0, _⟩ := DataW.trod_int Tryz.underlying3 t0
    obtain ⟨q1, e1, _⟩ := DataW.trod_int Tryz.underlying3 t1
    obtain ⟨q2, e2, _⟩ := DataW.trod_int Tryz.underlying3 t2
    obtain ⟨q3, e3, _⟩ := DataW.trod_int Tryz.underlying3 t3
    rw [(List.cons.inj e0).1] at h0
    rw [(List.cons.inj e1).1] at h1
    rw [(List.cons.inj e2).1] at h2
    rw [(List.cons.inj e3).1] at h3
    exact ⟨b, off, q0, q1, q2, q3, rfl, h0, h1, h2, h3⟩
set_option maxRecDepth 100000 in
theorem open_nums {W : World} {base : Nat} {v : Value} {d : DataW H} {p : List MemPlace} (hv : Value.okWide Tryz.prog W .any base 29 v) (h : DataW.Trod enc Tryz.prog W 0 (fun _ => true) true 29 v d p) : ∃ ad n cap, v = .slice ad n cap ∧ IntsAt W ad n := by
  obtain ⟨ad, n, cap, rfl⟩ := okWide_slice Tryz.underlying29 hv
  refine ⟨ad, n, cap, rfl, ?_⟩
  obtain ⟨fuel, hf⟩ := h
  rcases Go.Deep.open_slice Tryz.underlying29 hf with ⟨e, _⟩ | ⟨a, len, cp, m, n', D, Pl, e, _, hl, _, hm, _, hx⟩
  · simp [Value.cells] at e
    obtain ⟨rfl, rfl, rfl⟩ := e
    intro i hi
    omega
  · simp [Value.cells] at e
    obtain ⟨rfl, rfl, rfl⟩ := e
    have hm' : m = cap := by simpa using hm
    have each : ∀ i, i < m → ∃ (v0 : Value) (k : Nat), W.cell? (a.add i) = some v0 ∧ (∃ y, DataW.trod enc Tryz.prog W 0 (fun _ => true) true k 3 [v0] = some y) := by
      intro i hi
      obtain ⟨cs', h1, h2⟩ := hx i hi
      rw [tryd_cells3] at h1
      obtain ⟨_, hlen, hcell⟩ := World.cells?_some h1
      match cs', hlen with
      | [v0], _ =>
        have e0 := hcell 0 (by omega)
        rw [Go.Deep.add_add] at e0
        exact ⟨v0, _, by simpa using e0, ⟨_, h2⟩⟩
    intro i hi
    obtain ⟨_, _, h00, _⟩ := each 0 (by omega)
    obtain ⟨b, off, rfl⟩ := addr_plain (by simpa using h00)
    obtain ⟨v0, k, h0, ⟨_, t0⟩⟩ := each i (by omega)
    rw [Addr.add_mid] at h0
    obtain ⟨q0, e0, _⟩ := DataW.trod_int Tryz.underlying3 t0
    rw [(List.cons.inj e0).1] at h0
    exact ⟨b, off, q0, rfl, h0⟩
end

end Go.Proofs.YtjefgmeejhakbaaGreatDoor

/- keep's does, whatever the act, of any level. -/
namespace Go.Proofs.YtjefgmeejhakbaaGreatDoor
open Go.RowKit

theorem does_any {w0 : Gr} {w : World} {L : EnL} {E : Eng} {TL : TalL} {t : Tal} {n : Nat} (h : TaleAt w0 w L E TL t) (ho : POk E t n) (hg : Handle w0.w ∧ w0.P 0) (hn : n ≤ 1000) (what lev tx key : Int) :
    Calls Tryz.prog 24 #[.pointer (some ⟨TL.b, 0, none⟩), .agg #[.int .i64 what, .int .i64 lev, .int .i64 tx, .int .i64 key], .int .i64 (-1)] w fun e w' => e = .returned (.tuple #[]) ∧
      ∃ L' E' TL' t', TaleAt w0 w' L' E' TL' t' ∧ Does (-1) E t E' t' ∧ TL'.b = TL.b := by
  have hs : 0 ≤ t.steps ∧ t.steps ≤ 1000 := by have := ho.steps; omega
  by_cases hw : what = 0
  · subst hw
    by_cases hb : 200 ≤ E.txs.length ∨ 6 ≤ (liveOnes E).length
    · refine (does_full h ho.mid.fits hs (-1) lev tx key (by omega) hb).mono ?_
      rintro e w' ⟨rfl, L', E', TL', t', h1, h2, _, h4⟩
      exact ⟨rfl, L', E', TL', t', h2, h1, h4⟩
    · refine (does_begin h ho.mid.fits hs (-1) lev tx key (by omega) (by omega) (by omega)).mono ?_
      rintro e w' ⟨rfl, L', E', TL', t', h1, h2, _, h4⟩
      exact ⟨rfl, L', E', TL', t', h2, h1, h4⟩
  · refine (does_rest h (ho.talOk hg) hn (-1) what lev tx key hw).mono ?_
    rintro e w' ⟨rfl, L', E', TL', t', h1, h2, _, h4⟩
    exact ⟨rfl, L', E', TL', t', h2, h1, h4⟩

end Go.Proofs.YtjefgmeejhakbaaGreatDoor

/- A cell of one of the tale's lists. -/
namespace Go.Proofs.YtjefgmeejhakbaaGreatDoor
open Go.RowKit

theorem TaleAt.rowAt {G : Gr} {w : World} {L : EnL} {E : Eng} {TL : TalL} {t : Tal} (h : TaleAt G w L E TL t) {j : Nat} (hj : j < 6) {g c n : Nat} (e : TL.row j = .slice (some ⟨g, 0, none⟩) n c) {i : Nat} {v : Value} (hx : (TL.rowX t j)[i]? = some v) : w.cell? ⟨g, i, none⟩ = some v := by
  rcases row_slice (h.tal.rows j hj) with ⟨e1, _⟩ | ⟨g', c', e1, _, hc⟩
  · rw [e] at e1; cases e1
  · rw [e] at e1
    injection e1 with e1
    injection e1 with e1
    injection e1 with e1
    rw [e1]
    exact hc i v hx
theorem TaleAt.rowIs {G : Gr} {w : World} {L : EnL} {E : Eng} {TL : TalL} {t : Tal} (h : TaleAt G w L E TL t) {j : Nat} (hj : j < 6) (hN : 0 < E.txs.length) : ∃ g c, TL.row j = .slice (some ⟨g, 0, none⟩) E.txs.length c := by
  rcases row_slice (h.tal.rows j hj) with ⟨e1, e2⟩ | ⟨g', c', e1, _, hc⟩
  · omega
  · exact ⟨g', c', e1⟩

end Go.Proofs.YtjefgmeejhakbaaGreatDoor

/- Plain: of two committed ones at the same time, none of them loose, no two wrote the same key. -/
namespace Go.Proofs.YtjefgmeejhakbaaGreatDoor

theorem Com.wr_of {a0 : Int} {K0 : Int → Option Int} {C : CE} (h : Com a0 K0 C) {j : Nat} (hj : j ∈ C.cw) : ∃ c, C.wr c = some ((j : Int) + 1) := by
  obtain ⟨m, hm, e⟩ := List.getElem_of_mem hj
  refine ⟨a0 + 1 + m, ?_⟩
  rw [h.wrc, if_pos (by omega), show (a0 + 1 + (m : Int) - a0 - 1).toNat = m by omega, List.getElem?_eq_getElem hm, e]
  rfl
theorem Com.wr_inj {a0 : Int} {K0 : Int → Option Int} {C : CE} (h : Com a0 K0 C) {j : Nat} {c d : Int} (hc : C.wr c = some ((j : Int) + 1)) (hd : C.wr d = some ((j : Int) + 1)) : c = d := by
  have hn : C.cw.Nodup := List.Pairwise.filter _ h.comn
  rw [h.wrc] at hc hd
  split at hc
  · split at hd
    · obtain ⟨m, hm, e⟩ := Option.map_eq_some_iff.1 hc
      obtain ⟨m', hm', e'⟩ := Option.map_eq_some_iff.1 hd
      have hmm : m' = m := by omega
      subst hmm
      have hl := (List.getElem?_eq_some_iff.1 hm).1
      have := (List.getElem?_inj hl hn).1 (hm.trans hm'.symm)
      omega
    · cases hd
  · cases hc
theorem Tells.apart {E : Eng} {t : Tal} (h : Tells E t) {i k : Nat} {u v : Tx} (hki : k < i) (hu : E.txs[i]? = some u) (hv : E.txs[k]? = some v) (hlu : u.level ≠ 0) (hlv : v.level ≠ 0) (hsu : u.state = 2) (hsv : v.state = 2) (hb : ¬ t.over[k]?.getD 0 < t.begun[i]?.getD 0) {a : Int} (ha : u.vals a ≠ none) : v.vals a = none := by
  refine Classical.byContradiction fun hva => ?_
  have hC := h.mid.com
  have cwOf : ∀ {j : Nat} {x : Tx}, E.txs[j]? = some x → x.state = 2 → x.vals a ≠ none → j ∈ E.ce.cw := fun {j x} hx hs hxa => by
    refine List.mem_filter.2 ⟨(hC.coms j).2 ⟨_, cs_get hx, hs⟩, ?_⟩
    have hvk := (h.mid.reg.fair _ _ (cs_get hx)).vk
    rw [CE.v_some (cs_get hx)]
    have hm : a ∈ keysOf x.vals := (mem_keysOf (f := x.vals) hvk a).2 (by cases hx2 : x.vals a with | none => exact absurd hx2 hxa | some y => rfl)
    refine decide_eq_true ?_
    intro e
    have : (keysOf x.vals).map (fun k => (k, (x.vals k).getD 0)) = [] := e
    rw [List.map_eq_nil_iff] at this
    rw [this] at hm
    cases hm
  obtain ⟨c, hc⟩ := hC.wr_of (cwOf hv hsv hva)
  have h1 : u.start < c := Classical.byContradiction fun hn => hb (h.ord i k u c hu hc (by omega))
  obtain ⟨c', hc', hlt⟩ := hC.fuw i k _ a c (cs_get hu) hlu (show u.state ≠ 3 by omega) ha hc (by omega) (by rw [CE.v_some (cs_get hv)]; exact hva) h1
  have h2 := h.late c' i u hc' hu
  have h3 := h.mono i k u v (by omega) hv hu
  obtain ⟨c'', hc'', hlt2⟩ := hC.fuw k i _ a c' (cs_get hv) hlv (show v.state ≠ 3 by omega) hva hc' (by omega) (by rw [CE.v_some (cs_get hu)]; exact ha) (show v.start < c' by omega)
  have := hC.wr_inj hc hc''
  omega

end Go.Proofs.YtjefgmeejhakbaaGreatDoor

/- keep's EngineSteady: what each one reads is what it should; of two at the same time no two wrote the same key. -/
namespace Go.Proofs.YtjefgmeejhakbaaGreatDoor
open Go.RowKit

theorem writesP_mem {V : Int → Option Int} {p : Int × Int} (h : p ∈ writesP V) : V p.1 ≠ none := by
  unfold writesP at h
  obtain ⟨k, hk, rfl⟩ := List.mem_map.1 h
  have := (List.mem_filter.1 hk).2
  intro e
  simp only at e
  rw [e] at this
  cases this
theorem ofP_no {V : Int → Option Int} (hV : ∀ k, V k ≠ none → 0 ≤ k ∧ k < 10) {k : Int} (h : V k = none) : ofP (writesP V) k = -1 := by
  unfold ofP
  rw [of_writes hV k, h]
  rfl

/-- Whether one is committed. -/
def comB (E : Eng) (x : Nat) : Bool := match E.txs[x]? with
  | some u => decide (u.state = 2)
  | none => false
theorem comB_of {E : Eng} {x : Nat} {u : Tx} (hu : E.txs[x]? = some u) : comB E x = decide (u.state = 2) := by unfold comB; rw [hu]
theorem committed_at {w0 : Gr} {w : World} {L : EnL} {E : Eng} {TL : TalL} {t : Tal} (h : TaleAt w0 w L E TL t) {x : Nat} (hx : x < E.txs.length) :
    Calls Tryz.prog 27 #[.pointer (some ⟨TL.b, 0, none⟩), .int .i64 (x : Int)] w fun e w' => e = .returned (.bool (comB E x)) ∧ ∃ q, w' = w.drewN q := by
  rw [comB_of (List.getElem?_eq_getElem hx)]
  exact committed_any h (List.getElem?_eq_getElem hx)

set_option maxRecDepth 100000 in
set_option maxHeartbeats 4000000 in
theorem steady_long (ad : Option Addr) (n cap : Nat) (w : World) (h : 90 < n) :
    Calls Tryz.prog 6 #[.slice ad n cap] w fun e w' => e = .returned (.bool true) ∧ w' = w := by
  have g1 : (90 : Int) < (n : Int) := by omega
  go_enter Tryz.func6, Tryz.ntmps6
  go_wp2
  go_ret
  exact ⟨rfl, rfl⟩

set_option maxRecDepth 100000 in
set_option maxHeartbeats 8000000 in
theorem steady_walk (ad : Option Addr) (n cap : Nat) (w : World) (hn : n ≤ 90) (hA : ActsAt w ad n) (hg : Handle w) :
    Calls Tryz.prog 6 #[.slice ad n cap] w fun e w' => e = .returned (.bool true) ∧ Below w.heap.size w w' := by
  have HR := hid (ran_any w hg)
  have HA := hid hA
  have HG := hid hg
  have g1 : ¬ (90 : Int) < (n : Int) := by omega
  clear hA hg
  go_enter Tryz.func6, Tryz.ntmps6
  go_wp2_with fail
  refine HR.out.mono ?_
  rintro e w1 ⟨rfl, hB1⟩
  have HT := hid (tells_any w1)
  have HB1 := hid hB1
  clear hB1 HR
  go_wp2_with fail
  refine HT.out.mono ?_
  rintro e w2 ⟨L, TL, rfl, hT⟩
  have hG3 : Handle w1 ∧ 0 < w1.heap.size := ⟨HG.out.below HB1.out HG.out.pos, Nat.lt_of_lt_of_le HG.out.pos HB1.out.size⟩
  have hPo : ∀ g, g < w.heap.size → g < w1.heap.size := fun g hg => Nat.lt_of_lt_of_le hg HB1.out.size
  obtain ⟨G, hG⟩ : ∃ G : Gr, (⟨w1, fun g => g < w1.heap.size⟩ : Gr) = G := ⟨_, rfl⟩
  have HGW := hid (show G.w = w1 by rw [← hG])
  have HPO := hid (show ∀ g, g < w.heap.size → G.P g by rw [← hG]; exact hPo)
  have HG3 := hid (show Handle G.w ∧ G.P 0 by rw [← hG]; exact hG3)
  rw [hG] at hT
  have HT3 := hid hT
  obtain ⟨tb, htb⟩ : ∃ tb, TL.b = tb := ⟨_, rfl⟩
  have HTB := hid htb
  rw [htb]
  clear hG3 hPo hG hT htb HT HG
  go_wp2
  go_loopw [4] (fun iv wr => ∃ (i : Nat) (L' : EnL) (E' : Eng) (TL' : TalL) (t' : Tal), iv = .int .i64 i ∧ i ≤ n ∧ Hid (TaleAt G wr L' E' TL' t' ∧ POk E' t' i ∧ Tells E' t' ∧ TL'.b = tb)) (fun iv _ => n - (intOf iv).toNat)
  case atStart => exact ⟨0, L, eng0, TL, tal0, rfl, Nat.zero_le _, HT3.out, pok0, tells0, HTB.out⟩
  case round =>
    clear HT3 HTB
    obtain ⟨i, L', E', TL', t', rfl, hi, HX⟩ := hrel
    by_cases hlt : i < n
    · obtain ⟨b, off, a0, a1, a2, a3, rfl, x0, x1, x2, x3⟩ := HA.out i hlt
      have hbw : b < w.heap.size := World.block_lt_of_cell? w _ x0
      have hold : ∀ (o : Nat) (v : Value), w.cell? ⟨b, o, none⟩ = some v → wr.cell? ⟨b, o, none⟩ = some v := fun o v hv => HX.out.1.cell (HPO.out b hbw) (by rw [HGW.out]; exact (HB1.out.cell (p := ⟨b, o, none⟩) hbw).trans hv)
      have s1 := hold _ _ x0
      have s2 := hold _ _ x1
      have s3 := hold _ _ x2
      have s4 := hold _ _ x3
      have HD := hid (does_any HX.out.1 HX.out.2.1 HG3.out (by omega) a0 a1 a2 a3)
      rw [HX.out.2.2.2] at HD
      have gi1 : (i : Int) < (n : Int) := by omega
      have gi0 : (0 : Int) ≤ (i : Int) := by omega
      clear hold x0 x1 x2 x3 hbw
      go_wp2_with fail
      refine HD.out.mono ?_
      rintro e w4 ⟨rfl, L4, E4, TL4, t4, hT4, hD4, hb4⟩
      have HX4 := hid (And.intro hT4 (And.intro (hD4.pok HX.out.2.1 (by omega)) (And.intro (hD4.tells HX.out.2.2.1 (by have := HX.out.2.1.num; omega) ⟨_, HX.out.2.1.rd⟩) hb4)))
      have z9 := hT4.tal.cell 9
      simp only [talCells, List.getElem?_toArray, List.getElem?_cons_zero, List.getElem?_cons_succ] at z9
      rw [HX4.out.2.2.1.ok, HX4.out.2.2.2] at z9
      clear hT4 hD4 hb4 HD s1 s2 s3 s4
      go_wp2
      go_roundw
      case rel => exact ⟨i + 1, L4, E4, TL4, t4, by go_num, by omega, HX4.out⟩
      case measure => simp [intOf]; omega
    · have gi1 : ¬ (i : Int) < (n : Int) := by omega
      obtain ⟨N, hN⟩ : ∃ N, E'.txs.length = N := ⟨_, rfl⟩
      have hN2 := HX.out.1.en.le
      rw [hN] at hN2
      have HN := hid hN
      clear hN
      go_wp2
      go_loopw [5] (fun iv wr => ∃ i : Nat, iv = .int .i64 i ∧ i ≤ N ∧ Hid (TaleAt G wr L' E' TL' t')) (fun iv _ => N - (intOf iv).toNat)
      case atStart => exact ⟨0, rfl, Nat.zero_le _, HX.out.1⟩
      case round =>
        obtain ⟨i, rfl, hi, HY⟩ := hrel
        obtain ⟨ad0, cap0, hr0⟩ := row_form (HY.out.tal.rows 0 (by omega))
        have z1 := HY.out.tal.cell 1
        simp only [talCells, List.getElem?_toArray, List.getElem?_cons_zero, List.getElem?_cons_succ] at z1
        rw [HX.out.2.2.2, hr0, HN.out] at z1
        have HR0 := hid hr0
        clear hr0
        by_cases hlt : i < N
        · have gi2 : (i : Int) < (N : Int) := by omega
          obtain ⟨u, hu⟩ : ∃ u, E'.txs[i]? = some u := ⟨E'.txs[i]'(by have := HN.out; omega), List.getElem?_eq_getElem _⟩
          have HU := hid hu
          clear hu
          go_wp2
          go_loopw [6] (fun kv wr => ∃ k : Nat, kv = .int .i64 k ∧ k ≤ i ∧ Hid (TaleAt G wr L' E' TL' t')) (fun kv _ => i - (intOf kv).toNat)
          case atStart => exact ⟨0, rfl, Nat.zero_le _, HY.out⟩
          case round =>
            clear z1 HY
            obtain ⟨k, rfl, hk, HZ⟩ := hrel
            by_cases hlt2 : k < i
            · have gk2 : (k : Int) < (i : Int) := by omega
              obtain ⟨v, hv⟩ : ∃ v, E'.txs[k]? = some v := ⟨E'.txs[k]'(by have := HN.out; omega), List.getElem?_eq_getElem _⟩
              have hNp : 0 < E'.txs.length := by have := HN.out; omega
              obtain ⟨g0, c0, e0⟩ := HZ.out.rowIs (j := 0) (by omega) hNp
              obtain ⟨g4, c4, e4⟩ := HZ.out.rowIs (j := 4) (by omega) hNp
              obtain ⟨g5, c5, e5⟩ := HZ.out.rowIs (j := 5) (by omega) hNp
              have hlu := HX.out.2.2.1.lev i u HU.out
              have hlv := HX.out.2.2.1.lev k v hv
              obtain ⟨o, ho⟩ : ∃ o, t'.over[k]? = some o := ⟨t'.over[k]'(by rw [HX.out.2.2.1.lover, HN.out]; omega), List.getElem?_eq_getElem _⟩
              obtain ⟨bg, hbg⟩ : ∃ bg, t'.begun[i]? = some bg := ⟨t'.begun[i]'(by rw [HX.out.2.2.1.lbegun, HN.out]; omega), List.getElem?_eq_getElem _⟩
              have z0 := HZ.out.tal.cell 0
              have z1 := HZ.out.tal.cell 1
              have z5 := HZ.out.tal.cell 5
              have z6 := HZ.out.tal.cell 6
              simp only [talCells, List.getElem?_toArray, List.getElem?_cons_zero, List.getElem?_cons_succ] at z0 z1 z5 z6
              rw [HX.out.2.2.2] at z0
              rw [HX.out.2.2.2, e0, HN.out] at z1
              rw [HX.out.2.2.2, e4, HN.out] at z5
              rw [HX.out.2.2.2, e5, HN.out] at z6
              have y1 : wr.cell? ⟨g0, i, none⟩ = some (.int .i64 u.level) := HZ.out.rowAt (j := 0) (by omega) e0 (intsV_get hlu)
              have y2 : wr.cell? ⟨g0, k, none⟩ = some (.int .i64 v.level) := HZ.out.rowAt (j := 0) (by omega) e0 (intsV_get hlv)
              have y3 : wr.cell? ⟨g5, k, none⟩ = some (.int .i64 o) := HZ.out.rowAt (j := 5) (by omega) e5 (intsV_get ho)
              have y4 : wr.cell? ⟨g4, i, none⟩ = some (.int .i64 bg) := HZ.out.rowAt (j := 4) (by omega) e4 (intsV_get hbg)
              have HAP := hid (fun (h1 : u.level ≠ 0) (h2 : v.level ≠ 0) (h3 : u.state = 2) (h4 : v.state = 2) (h5 : ¬ o < bg) (a : Int) (ha : u.vals a ≠ none) => HX.out.2.2.1.apart hlt2 HU.out hv h1 h2 h3 h4 (by rw [ho, hbg]; exact h5) ha)
              have HCC := hid (fun (x : Nat) (hx : x < N) (q : Nat) => committed_at (HZ.out.drewN q) (x := x) (by rw [HN.out]; exact hx))
              rw [HX.out.2.2.2] at HCC
              have hci := comB_of HU.out
              have hck := comB_of hv
              obtain ⟨sf, hsf⟩ : ∃ sf, comB E' = sf := ⟨_, rfl⟩
              rw [hsf] at HCC hci hck
              have hkN : k < N := by omega
              have HV := hid hv
              have HVK := hid (show ∀ a, v.vals a ≠ none → 0 ≤ a ∧ a < 10 from (HX.out.2.2.1.mid.reg.fair _ _ (cs_get hv)).vk)
              obtain ⟨lu, elu⟩ : ∃ x, u.level = x := ⟨_, rfl⟩
              obtain ⟨lv, elv⟩ : ∃ x, v.level = x := ⟨_, rfl⟩
              rw [elu] at y1 HAP
              rw [elv] at y2 HAP
              have gi0 : (0 : Int) ≤ (i : Int) := by omega
              have gk0 : (0 : Int) ≤ (k : Int) := by omega
              have gkN : (k : Int) < (N : Int) := by omega
              clear hv e0 e4 e5 hlu hlv ho hbg hNp elu elv hsf
              by_cases hA0 : lu = 0
              · have gA : (lu == 0) = true := by simpa using hA0
                clear hA0 hci hck
                go_wp2
                go_quiet (first | (go_at_call 27; refine Calls.quiet_of (HCC.out _ (by assumption) _)))
                go_wp2
                go_roundw
                case rel => exact ⟨k + 1, by go_num, by omega, HZ.out.drewN _⟩
                case measure => simp [intOf]; omega
              · have gA : (lu == 0) = false := by simpa using hA0
                by_cases hB0 : lv = 0
                · have gB : (lv == 0) = true := by simpa using hB0
                  clear hB0 hci hck
                  go_wp2
                  go_quiet (first | (go_at_call 27; refine Calls.quiet_of (HCC.out _ (by assumption) _)))
                  go_wp2
                  go_roundw
                  case rel => exact ⟨k + 1, by go_num, by omega, HZ.out.drewN _⟩
                  case measure => simp [intOf]; omega
                · have gB : (lv == 0) = false := by simpa using hB0
                  by_cases hC0 : u.state = 2
                  · have gC : sf i = true := by rw [hci]; simpa using hC0
                    by_cases hD0 : v.state = 2
                    · have gD : sf k = true := by rw [hck]; simpa using hD0
                      clear hci hck
                      by_cases hE0 : o < bg
                      · have gE : decide (o < bg) = true := by simpa using hE0
                        go_wp2
                        go_quiet (first | (go_at_call 27; refine Calls.quiet_of (HCC.out _ (by assumption) _)))
                        go_wp2
                        go_roundw
                        case rel => exact ⟨k + 1, by go_num, by omega, HZ.out.drewN _⟩
                        case measure => simp [intOf]; omega
                      · have HAP2 := hid (fun (a : Int) (ha : u.vals a ≠ none) => HAP.out hA0 hB0 hC0 hD0 hE0 a ha)
                        have HW1 := hid (fun q => writesE_ok ((HZ.out.drewN q).en) HU.out)
                        have gi1 : IntKind.i64.wrap ((i : Int) + 1) = (i : Int) + 1 := IntWalk.i64_in _ (by omega)
                        have gk1 : IntKind.i64.wrap ((k : Int) + 1) = (k : Int) + 1 := IntWalk.i64_in _ (by omega)
                        have gE : decide (o < bg) = false := by simpa using hE0
                        clear hA0 hB0 hC0 hD0 hE0 HAP
                        go_wp2
                        go_quiet (first | (go_at_call 27; refine Calls.quiet_of (HCC.out _ (by assumption) _)))
                        go_wp2_with fail
                        refine (HW1.out _).mono ?_
                        rintro e w5 ⟨xv, rfl, hxrow, hB5⟩
                        have HZ5 := hid ((HZ.out.drewN _).below hB5)
                        have HW2 := hid (writesE_ok HZ5.out.en HV.out)
                        have x0 := HZ5.out.tal.cell 0
                        simp only [talCells, List.getElem?_toArray, List.getElem?_cons_zero] at x0
                        rw [HX.out.2.2.2] at x0
                        have HXR := hid hxrow
                        clear hxrow hB5 HW1 HCC z0 z1 z5 z6 y1 y2 y3 y4
                        go_wp2_with fail
                        refine HW2.out.mono ?_
                        rintro e w6 ⟨yv, rfl, hyrow, hB6⟩
                        have HZ6 := hid (HZ5.out.below hB6)
                        have HYR := hid hyrow
                        have hxrow := owns_same HXR.out (w' := w6) (fun g hg => hB6.block g (owns_lt HXR.out hg))
                        obtain ⟨xad, xcap, hxv⟩ := row_form hxrow
                        subst hxv
                        have HXR6 := hid hxrow
                        have hxl := writesP_len u.vals
                        obtain ⟨xl, exl⟩ : ∃ xl, writesP u.vals = xl := ⟨_, rfl⟩
                        rw [exl] at hxl HXR6
                        rw [exl]
                        have HXL := hid exl
                        clear hyrow hB6 hxrow exl HW2 HXR x0
                        go_wp2
                        go_loopw [11] (fun av wr3 => ∃ a : Nat, av = .int .i64 a ∧ a ≤ xl.length ∧ wr3 = w6) (fun av _ => xl.length - (intOf av).toNat)
                        case atStart => exact ⟨0, rfl, Nat.zero_le _, rfl⟩
                        case round =>
                          obtain ⟨a, rfl, ha, rfl⟩ := hrel
                          by_cases hlt3 : a < xl.length
                          · obtain ⟨⟨kx, vx⟩, hkx⟩ : ∃ p, xl[a]? = some p := ⟨xl[a], List.getElem?_eq_getElem hlt3⟩
                            rcases row_slice HXR6.out with ⟨_, e0⟩ | ⟨g, c, e, hg, hc⟩
                            · omega
                            · injection e with e1 e2 e3
                              subst e1 e3
                              have cx := hc _ _ (vrow_get xl a _ _ hkx).1
                              have hno : v.vals kx = none := HAP2.out kx (writesP_mem (p := (kx, vx)) (by rw [HXL.out]; exact List.mem_of_getElem? hkx))
                              have HOF := hid (of_any HYR.out (by have := writesP_len v.vals; omega) kx)
                              rw [ofP_no HVK.out hno] at HOF
                              have ga0 : (0 : Int) ≤ (a : Int) := by omega
                              have ga1 : (a : Int) < (xl.length : Int) := by omega
                              clear hc hkx hno
                              go_wp2_with fail
                              refine HOF.out.mono ?_
                              rintro e w7 ⟨rfl, hw7⟩
                              rw [hw7]
                              clear hw7 w7 HOF
                              go_wp2
                              go_roundw
                              case rel => exact ⟨a + 1, by go_num, by omega, by first | rfl | trivial⟩
                              case measure => simp [intOf]; omega
                          · have ga1 : ¬ (a : Int) < (xl.length : Int) := by omega
                            go_wp2
                            go_roundw
                            case rel => exact ⟨k + 1, by go_num, by omega, HZ6.out⟩
                            case measure => simp [intOf]; omega
                    · have gD : sf k = false := by rw [hck]; simpa using hD0
                      clear hci hck
                      go_wp2
                      go_quiet (first | (go_at_call 27; refine Calls.quiet_of (HCC.out _ (by assumption) _)))
                      go_wp2
                      go_roundw
                      case rel => exact ⟨k + 1, by go_num, by omega, HZ.out.drewN _⟩
                      case measure => simp [intOf]; omega
                  · have gC : sf i = false := by rw [hci]; simpa using hC0
                    clear hci hck
                    go_wp2
                    go_quiet (first | (go_at_call 27; refine Calls.quiet_of (HCC.out _ (by assumption) _)))
                    go_wp2
                    go_roundw
                    case rel => exact ⟨k + 1, by go_num, by omega, HZ.out.drewN _⟩
                    case measure => simp [intOf]; omega
            · have gk2 : ¬ (k : Int) < (i : Int) := by omega
              go_wp2
              go_roundw
              case rel => exact ⟨i + 1, by go_num, by omega, HZ⟩
              case measure => simp [intOf]; omega
        · have gi2 : ¬ (i : Int) < (N : Int) := by omega
          go_wp2
          go_ret
          refine ⟨rfl, ?_⟩
          have hk := HY.out.kept
          have hb := HB1.out
          have hs := hk.size
          rw [← HGW.out] at hb
          exact ⟨hk.os.trans hb.os, hk.tape.trans hb.tape, hk.output.trans hb.output, Nat.le_trans hb.size hs, fun g hg => (hk.block g (HPO.out g hg)).trans (hb.block g hg)⟩

end Go.Proofs.YtjefgmeejhakbaaGreatDoor
