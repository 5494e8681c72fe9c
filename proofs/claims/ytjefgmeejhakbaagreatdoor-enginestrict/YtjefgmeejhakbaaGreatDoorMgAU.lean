/- ActsRow SrPlay StAt: put together for a claim. -/
import Derived.Test.YtjefgmeejhakbaaGreatDoorMgAD
import Derived.Test.YtjefgmeejhakbaaGreatDoorMgAT
import Derived.Test.YtjefgmeejhakbaaGreatDoorMgAZ
import Derived.Test.YtjefgmeejhakbaaGreatDoorOrLineX
import Derived.Deep.RegionHeld3
import Derived.Deep.QuietTactic
import Derived.BigQuiet
/- Lists of acts and of numbers that came in. -/
namespace Go.Proofs.YtjefgmeejhakbaaGreatDoor
open Go.ChangeShapes Go.WideShapes Go.ChangeAt Go.RowKit

theorem tryd_cells_act : Tryz.prog.cellsOf 62 = 4 := by kernel_rfl
section
variable {H : Type} {enc : TypeId × Value → H}
set_option maxRecDepth 100000 in
theorem open_acts {W : World} {base : Nat} {v : Value} {d : DataW H} {p : List MemPlace} (hv : Value.okWide Tryz.prog W .any base 56 v) (h : DataW.Trod enc Tryz.prog W 0 (fun _ => true) true 56 v d p) : ∃ ad n cap, v = .slice ad n cap ∧ ActsAt W ad n := by
  obtain ⟨ad, n, cap, rfl⟩ := okWide_slice Tryz.underlying56 hv
  refine ⟨ad, n, cap, rfl, ?_⟩
  obtain ⟨fuel, hf⟩ := h
  rcases Go.Deep.open_slice Tryz.underlying56 hf with ⟨e, _⟩ | ⟨a, len, cp, m, n', D, Pl, e, _, hl, _, hm, _, hx⟩
  · simp [Value.cells] at e
    obtain ⟨rfl, rfl, rfl⟩ := e
    intro i hi
    omega
  · simp [Value.cells] at e
    obtain ⟨rfl, rfl, rfl⟩ := e
    have hm' : m = cap := by simpa using hm
    have each : ∀ i, i < m → ∃ (v0 v1 v2 v3 : Value), W.cell? (a.add (i * 4)) = some v0 ∧ W.cell? (a.add (i * 4 + 1)) = some v1 ∧ W.cell? (a.add (i * 4 + 2)) = some v2 ∧ W.cell? (a.add (i * 4 + 3)) = some v3 ∧
        (∃ y, DataW.trod enc Tryz.prog W 0 (fun _ => true) true (n' - 1) 3 [v0] = some y) ∧ (∃ y, DataW.trod enc Tryz.prog W 0 (fun _ => true) true (n' - 1) 3 [v1] = some y) ∧ (∃ y, DataW.trod enc Tryz.prog W 0 (fun _ => true) true (n' - 1) 3 [v2] = some y) ∧ (∃ y, DataW.trod enc Tryz.prog W 0 (fun _ => true) true (n' - 1) 3 [v3] = some y) := by
      intro i hi
      obtain ⟨cs', h1, h2⟩ := hx i hi
      rw [tryd_cells_act] at h1
      obtain ⟨_, hlen, hcell⟩ := World.cells?_some h1
      obtain ⟨xs, k, hk, hxy, _, hxl, hf'⟩ := DataW.trod_struct Tryz.underlying62 h2
      have hk' : k = n' - 1 := by omega
      subst hk'
      match xs, hxl, cs', hlen with
      | [y0, y1, y2, y3], _, [v0, v1, v2, v3], _ =>
        have g0 := hf' 0 _ rfl
        have g1 := hf' 1 _ rfl
        have g2 := hf' 2 _ rfl
        have g3 := hf' 3 _ rfl
        simp [tryd_cells3] at g0 g1 g2 g3
        have e0 := hcell 0 (by omega)
        have e1 := hcell 1 (by omega)
        have e2 := hcell 2 (by omega)
        have e3 := hcell 3 (by omega)
        rw [Go.Deep.add_add] at e0 e1 e2 e3
        exact ⟨v0, v1, v2, v3, by simpa using e0, by simpa using e1, by simpa using e2, by simpa using e3, ⟨y0, g0⟩, ⟨y1, g1⟩, ⟨y2, g2⟩, ⟨y3, g3⟩⟩
    intro i hi
    obtain ⟨_, _, _, _, h00, _⟩ := each 0 (by omega)
    obtain ⟨b, off, rfl⟩ := addr_plain (by simpa using h00)
    obtain ⟨v0, v1, v2, v3, h0, h1, h2, h3, ⟨_, t0⟩, ⟨_, t1⟩, ⟨_, t2⟩, ⟨_, t3⟩⟩ := each i (by omega)
    rw [Addr.add_mid] at h0 h1 h2 h3
    obtain ⟨q0, e0, _⟩ := DataW.trod_int Tryz.underlying3 t0
    obtain ⟨q1, e1, _⟩ := DataW.trod_int Tryz.underlying3 t1
    obtain ⟨q2, e2, _⟩ := DataW.trod_int Tryz.underlying3 t2
    obtain ⟨q3, e3, _⟩ := DataW.trod_int Tryz.underlying3 t3
    rw [(List.cons.inj e0).1] at h0
    rw [(List.cons.inj e1).1] at h1
    rw [(List.cons.inj e2).1] at h2
    rw [(List.cons.inj e3).1] at h3
    exact ⟨b, off, q0, q1, q2, q3, rfl, h0, h1, h2, h3⟩
set_option maxRecDepth 100000 in
theorem open_nums {W : World} {base : Nat} {v : Value} {d : DataW H} {p : List MemPlace} (hv : Value.okWide Tryz.prog W .any base 29 v) (h : DataW.Trod enc Tryz.prog W 0 (fun _ => true) true 29 v d p) : ∃ ad n cap, v = .slice ad n cap ∧ IntsAt W ad n := by
  obtain ⟨ad, n, cap, rfl⟩ := okWide_slice Tryz.underlying29 hv
  refine ⟨ad, n, cap, rfl, ?_⟩
  obtain ⟨fuel, hf⟩ := h
  rcases Go.Deep.open_slice Tryz.underlying29 hf with ⟨e, _⟩ | ⟨a, len, cp, m, n', D, Pl, e, _, hl, _, hm, _, hx⟩
  · simp [Value.cells] at e
    obtain ⟨rfl, rfl, rfl⟩ := e
    intro i hi
    omega
  · simp [Value.cells] at e
    obtain ⟨rfl, rfl, rfl⟩ := e
    have hm' : m = cap := by simpa using hm
    have each : ∀ i, i < m → ∃ (v0 : Value) (k : Nat), W.cell? (a.add i) = some v0 ∧ (∃ y, DataW.trod enc Tryz.prog W 0 (fun _ => true) true k 3 [v0] = some y) := by
      intro i hi
      obtain ⟨cs', h1, h2⟩ := hx i hi
      rw [tryd_cells3] at h1
      obtain ⟨_, hlen, hcell⟩ := World.cells?_some h1
      match cs', hlen with
      | [v0], _ =>
        have e0 := hcell 0 (by omega)
        rw [Go.Deep.add_add] at e0
        exact ⟨v0, _, by simpa using e0, ⟨_, h2⟩⟩
    intro i hi
    obtain ⟨_, _, h00, _⟩ := each 0 (by omega)
    obtain ⟨b, off, rfl⟩ := addr_plain (by simpa using h00)
    obtain ⟨v0, k, h0, ⟨_, t0⟩⟩ := each i (by omega)
    rw [Addr.add_mid] at h0
    obtain ⟨q0, e0, _⟩ := DataW.trod_int Tryz.underlying3 t0
    rw [(List.cons.inj e0).1] at h0
    exact ⟨b, off, q0, rfl, h0⟩
end

end Go.Proofs.YtjefgmeejhakbaaGreatDoor

/- Plain: put one behind the other, as they stand in the line, each one reads just what it read; and in the end all is as it is. -/
namespace Go.Proofs.YtjefgmeejhakbaaGreatDoor

def posP (out : List Int) (x : Int) : Nat := (firstAt x out).getD 0
theorem pos_get {out : List Int} (hn : out.Nodup) {k : Nat} {y : Int} (h : out[k]? = some y) : posP out y = k := by
  unfold posP
  rw [firstAt_of h (fun j hj hx => by
    have := (List.getElem?_inj (List.getElem?_eq_some_iff.1 hx).1 hn).1 (hx.trans h.symm)
    omega)]
  rfl
def wroteB (E : Eng) (k x : Int) : Bool := (E.ce.v (x - 1).toNat k).isSome
def lastN (E : Eng) (p : List Int) (k : Int) : Option Int := (p.filter (wroteB E k)).getLast?
def nowP (E : Eng) (p : List Int) (k : Int) : Option Int := (lastN E p k).bind (fun x => E.ce.v (x - 1).toNat k)
theorem nowP_nil (E : Eng) (k : Int) : nowP E [] k = none := rfl
theorem nowP_snoc (E : Eng) (p : List Int) (x k : Int) : nowP E (p ++ [x]) k = match E.ce.v (x - 1).toNat k with
    | some y => some y
    | none => nowP E p k := by
  unfold nowP lastN
  rw [List.filter_append, List.filter_cons]
  unfold wroteB
  cases hv : E.ce.v (x - 1).toNat k with
  | none => simp
  | some y =>
    simp only [Option.isSome_some, if_true, List.filter_nil]
    rw [List.getLast?_concat]
    exact hv

structure Lined (E : Eng) (out : List Int) : Prop where
  nd : out.Nodup
  mem : ∀ x, x ∈ out ↔ ∃ o ∈ histP E, o.1 = x
  fit : ∀ a b, a ≠ b → Two (histP E) a b → posP out a < posP out b
theorem lined_of {E : Eng} {d : List (Int × Int)} (hd : IsEdges (histP E) d) {out : List Int} (hl : lineP d (txsP (histP E)).length (txsP (histP E)) = some out) : Lined E out := by
  obtain ⟨h1, h2, h3⟩ := line_ok d _ _ out (Nat.le_refl _) (nodup_txs _) hl
  refine ⟨h2, fun x => (h1 x).trans mem_txs, fun a b hne htwo => ?_⟩
  have hab := (hd.2 a b).2 ⟨hne, htwo⟩
  obtain ⟨ha, hb⟩ := edges_tx hd hab
  obtain ⟨p, q, e, hap⟩ := h3 a b hab hne ha hb
  obtain ⟨i, hi, ei⟩ := List.getElem_of_mem hap
  rw [pos_get h2 (k := i) (y := a) (by rw [e, List.getElem?_append_left hi, List.getElem?_eq_getElem hi, ei]), pos_get h2 (k := p.length) (y := b) (by rw [e]; simp)]
  exact hi
theorem pw_con (f : Int → Nat) : ∀ w : List Int, (∀ a b, (a, b) ∈ conP w → f a < f b) → w.Pairwise (fun a b => f a < f b)
  | [], _ => List.Pairwise.nil
  | [a], _ => List.pairwise_singleton _ _
  | a :: b :: r, h => by
    have ih := pw_con f (b :: r) (fun x y hxy => h x y (by simp only [conP]; exact List.mem_cons_of_mem _ hxy))
    refine List.pairwise_cons.2 ⟨fun y hy => ?_, ih⟩
    have hab := h a b (by simp only [conP]; exact List.mem_cons_self ..)
    rcases List.mem_cons.1 hy with rfl | hy
    · exact hab
    · have := (List.pairwise_cons.1 ih).1 y hy
      omega

section
variable {E : Eng} {T : Tal} {R : Nat → List Int} {N i m : Nat} {t : Tx} {out p q : List Int} {key k : Int}
theorem Lined.sorted (h : Lined E out) : out.Pairwise (fun a b => posP out a < posP out b) := by
  refine List.pairwise_iff_getElem.2 (fun a b ha hb hab => ?_)
  rw [pos_get h.nd (List.getElem?_eq_getElem ha), pos_get h.nd (List.getElem?_eq_getElem hb)]
  exact hab
theorem Lined.wsort (h : Lined E out) (hT : Tells E T) (key : Int) : (wrs E key).Pairwise (fun a b => posP out a < posP out b) := by
  refine pw_con _ _ (fun a b hab => ?_)
  obtain ⟨x, hx, hy⟩ := con_get _ _ _ hab
  obtain ⟨i, rfl, hi, hi2⟩ := wrs_get hT hx
  obtain ⟨j, rfl, hj, hj2⟩ := wrs_get hT hy
  have hlt := wl_lt hT (Nat.lt_succ_self _) hi hj
  obtain ⟨t, ht, hs, hv⟩ := (wl_iff hT.mid).1 hi2
  refine h.fit _ _ (fun e => ?_) (.inl ⟨_, hist_write hT.mid ht hs hv, by rw [writers_hist hT.mid]; exact hab⟩)
  have : i = j := by omega
  subst this
  omega
theorem Lined.has (h : Lined E out) (hT : Tells E T) (hi : i ∈ wl E key) : ((i : Int) + 1) ∈ out := by
  obtain ⟨t, ht, hs, hv⟩ := (wl_iff hT.mid).1 hi
  exact (h.mem _).2 ⟨_, hist_write hT.mid ht hs hv, rfl⟩
theorem Lined.tx (h : Lined E out) (hT : Tells E T) {x : Int} (hx : x ∈ out) : ∃ (i : Nat) (t : Tx), x = (i : Int) + 1 ∧ E.txs[i]? = some t ∧ t.state = 2 := by
  obtain ⟨o, ho, e⟩ := (h.mem x).1 hx
  obtain ⟨i, t, ht, hs, _, ⟨p, _, rfl⟩ | ⟨k, _, rfl⟩⟩ := mem_hist hT.mid ho
  · exact ⟨i, t, e.symm, ht, hs⟩
  · exact ⟨i, t, e.symm, ht, hs⟩
theorem Lined.wrote (h : Lined E out) (hT : Tells E T) {y : Int} (hy : y ∈ out) (hw : wroteB E key y = true) : ∃ j : Nat, y = (j : Int) + 1 ∧ j ∈ wl E key := by
  obtain ⟨j, u, rfl, hu, hs⟩ := h.tx hT hy
  refine ⟨j, rfl, (wl_iff hT.mid).2 ⟨u, hu, hs, fun e => ?_⟩⟩
  unfold wroteB at hw
  rw [show ((j : Int) + 1 - 1).toNat = j by omega, CE.v_some (cs_get hu)] at hw
  rw [show (cor u).vals key = none from e] at hw
  cases hw
theorem wrote_wl (_hT : Tells E T) (hm : m ∈ wl E key) : wroteB E key ((m : Int) + 1) = true := by
  unfold wroteB
  rw [show ((m : Int) + 1 - 1).toNat = m by omega]
  exact (List.mem_filter.1 hm).2
theorem Lined.last_is (h : Lined E out) (hT : Tells E T) (he : out = p ++ q) (hm : m ∈ wl E key) (hmp : ((m : Int) + 1) ∈ p) (hmax : ∀ j ∈ wl E key, ((j : Int) + 1) ∈ p → posP out ((j : Int) + 1) ≤ posP out ((m : Int) + 1)) : lastN E p key = some ((m : Int) + 1) := by
  have hmf : ((m : Int) + 1) ∈ p.filter (wroteB E key) := List.mem_filter.2 ⟨hmp, wrote_wl hT hm⟩
  have hps : p.Pairwise (fun a b => posP out a < posP out b) := by
    have := h.sorted
    rw [he] at this
    have := (List.pairwise_append.1 this).1
    rwa [← he] at this
  unfold lastN
  cases hx : (p.filter (wroteB E key)).getLast? with
  | none =>
    rw [List.getLast?_eq_none_iff] at hx
    rw [hx] at hmf
    cases hmf
  | some y =>
    have hyf := List.mem_filter.1 (List.mem_of_getLast? hx)
    obtain ⟨j, rfl, hj⟩ := h.wrote hT (by rw [he]; exact List.mem_append_left _ hyf.1) hyf.2
    have hle := hmax j hj hyf.1
    obtain ⟨l, e⟩ := List.getLast?_eq_some_iff.1 hx
    have hpf := hps.filter (wroteB E key)
    rw [e] at hpf hmf
    rcases List.mem_append.1 hmf with h5 | h5
    · have := (List.pairwise_append.1 hpf).2.2 _ h5 _ (List.mem_singleton.2 rfl)
      omega
    · rw [List.mem_singleton.1 h5]
theorem Lined.last_none (h : Lined E out) (hT : Tells E T) (he : out = p ++ q) (hno : ∀ j ∈ wl E key, ((j : Int) + 1) ∉ p) : lastN E p key = none := by
  unfold lastN
  rw [List.getLast?_eq_none_iff, List.filter_eq_nil_iff]
  intro y hy hw
  obtain ⟨j, rfl, hj⟩ := h.wrote hT (by rw [he]; exact List.mem_append_left _ hy) hw
  exact hno j hj hy
theorem pw_le {f : Int → Nat} {w : List Int} (h : w.Pairwise (fun a b => f a < f b)) {a b : Nat} {x y : Int} (hab : a ≤ b) (hx : w[a]? = some x) (hy : w[b]? = some y) : f x ≤ f y := by
  obtain ⟨h1, e1⟩ := List.getElem?_eq_some_iff.1 hx
  obtain ⟨h2, e2⟩ := List.getElem?_eq_some_iff.1 hy
  by_cases e : a = b
  · subst e
    rw [e1] at e2
    rw [e2]
    exact Nat.le_refl _
  · have := List.pairwise_iff_getElem.1 h a b h1 h2 (by omega)
    rw [e1, e2] at this
    omega
theorem wrs_at (hj : m ∈ wl E key) : ∃ d : Nat, (wrs E key)[d]? = some ((m : Int) + 1) := by
  obtain ⟨d, hd, ed⟩ := List.getElem_of_mem hj
  refine ⟨d, ?_⟩
  unfold wrs
  rw [List.getElem?_map, List.getElem?_eq_getElem hd, ed]
  rfl
theorem Lined.read (h : Lined E out) (hT : Tells E T) (hS : StrB noQ (keysR T) N E) (he : out = p ++ ((i : Int) + 1) :: q) (ht : E.txs[i]? = some t) (hs : t.state = 2) {l : List (Int × Int)} (hl : T.reads[i]? = some l) {r : Int × Int} (hr : r ∈ l) : (nowP E p r.1).getD (-1) = r.2 := by
  obtain ⟨f, hf⟩ := hS.tal i t ht (by omega) r.1 (by
    unfold keysR
    rw [hl]
    exact List.mem_map.2 ⟨r, hr, rfl⟩)
  have hv := (hT.rds i t l ht (by rw [hS.lev i t ht]; decide) hl r hr).2
  have hpn : posP out ((i : Int) + 1) = p.length := pos_get h.nd (by rw [he]; simp)
  have hin : ∀ y, y ∈ p → posP out y < p.length := fun y hy => by
    obtain ⟨d, hd, ed⟩ := List.getElem_of_mem hy
    rw [pos_get h.nd (k := d) (by rw [he, List.getElem?_append_left hd, List.getElem?_eq_getElem hd, ed])]
    exact hd
  have hin2 : ∀ y, y ∈ out → posP out y < p.length → y ∈ p := fun y hy hlt => by
    obtain ⟨d, hd, ed⟩ := List.getElem_of_mem hy
    have hg : out[d]? = some y := by rw [List.getElem?_eq_getElem hd, ed]
    rw [pos_get h.nd hg] at hlt
    rw [he, List.getElem?_append_left hlt] at hg
    exact List.mem_of_getElem? hg
  have hw := h.wsort hT r.1
  obtain ⟨l2, h1, _, h3⟩ := read_two hT hS ht hs hf
  have two : ∀ a b, (a, b) ∈ l2 → Two (histP E) a b := fun a b hab => .inr ⟨_, hist_read hT.mid ht hs hf, rfl, l2, by rw [writers_hist hT.mid]; exact h1, hab⟩
  have step : ∀ (d : Nat) (y z : Int), (wrs E r.1)[d]? = some z → ((i : Int) + 1, z) ∈ l2 → posP out z ≤ posP out y → y ∈ p → False := fun d y z hz hzl hle hy => by
    have := hin y hy
    by_cases e : (i : Int) + 1 = z
    · rw [← e, hpn] at hle
      omega
    · have := h.fit _ _ e (two _ _ hzl)
      omega
  rw [hv]
  rcases h3 with ⟨hr0, hall⟩ | ⟨m, x, d, hr0, hvm, hmi, hml, hd, hall⟩
  · have hno : lastN E p r.1 = none := h.last_none hT he (fun j hj hjp => by
      obtain ⟨dj, hdj⟩ := wrs_at hj
      have hdj : (wrs E r.1)[dj]? = some ((j : Int) + 1) := hdj
      obtain ⟨z, hz⟩ : ∃ z, (wrs E r.1)[0]? = some z := by
        have := (List.getElem?_eq_some_iff.1 hdj).1
        exact ⟨_, List.getElem?_eq_getElem (by omega)⟩
      exact step 0 _ z hz (hall z hz) (pw_le hw (Nat.zero_le _) hz hdj) hjp)
    unfold nowP
    rw [hno, hr0]
    rfl
  · obtain ⟨m2, em, _, hmw⟩ := wrs_get hT hd
    have em : m2 = m := by omega
    subst em
    have hmp : ((m2 : Int) + 1) ∈ p := hin2 _ (h.has hT hmw) (by
      have := h.fit _ _ (fun e => hmi (by omega)) (two _ _ hml)
      omega)
    have hls := h.last_is hT he hmw hmp (fun j hj hjp => by
      obtain ⟨dj, hdj⟩ := wrs_at hj
      have hdj : (wrs E r.1)[dj]? = some ((j : Int) + 1) := hdj
      by_cases hle : dj ≤ d
      · exact pw_le hw hle hdj hd
      · exfalso
        obtain ⟨z, hz⟩ : ∃ z, (wrs E r.1)[d + 1]? = some z := by
          have := (List.getElem?_eq_some_iff.1 hdj).1
          exact ⟨_, List.getElem?_eq_getElem (by omega)⟩
        exact step (d + 1) _ z hz (hall z hz) (pw_le hw (by omega) hz hdj) hjp)
    unfold nowP
    rw [hls, hr0]
    simp only [Option.bind_some]
    rw [show ((m2 : Int) + 1 - 1).toNat = m2 by omega, hvm]
    rfl
theorem Lined.last (h : Lined E out) (hT : Tells E T) (k : Int) : nowP E out k = (lastW E.ce.v E.com k).bind (fun i => E.ce.v i k) := by
  have hw := h.wsort hT k
  unfold nowP
  cases hl : lastW E.ce.v E.com k with
  | none =>
    have : wl E k = [] := List.getLast?_eq_none_iff.1 hl
    rw [h.last_none (q := []) hT (by simp) (fun j hj => by rw [this] at hj; cases hj)]
    rfl
  | some m =>
    have hm : m ∈ wl E k := List.mem_of_getLast? hl
    obtain ⟨l, e⟩ := List.getLast?_eq_some_iff.1 hl
    have e : wl E k = l ++ [m] := e
    rw [h.last_is (q := []) hT (by simp) hm (h.has hT hm) (fun j hj _ => by
      have hw' := hw
      unfold wrs at hw'
      rw [e] at hj hw'
      rw [List.map_append] at hw'
      rcases List.mem_append.1 hj with h5 | h5
      · have := (List.pairwise_append.1 hw').2.2 ((j : Int) + 1) (List.mem_map.2 ⟨j, h5, rfl⟩) ((m : Int) + 1) (by simp)
        omega
      · rw [List.mem_singleton.1 h5]
        exact Nat.le_refl _)]
    simp only [Option.bind_some]
    rw [show ((m : Int) + 1 - 1).toNat = m by omega]
end

end Go.Proofs.YtjefgmeejhakbaaGreatDoor

/- keep's EngineStrict: its closure at; the history's length; where the history lies. -/
namespace Go.Proofs.YtjefgmeejhakbaaGreatDoor
open Go.RowKit

set_option maxRecDepth 100000 in
set_option maxHeartbeats 400000 in
theorem at_any {bx mb nn : Nat} {f : Int → Option Int} {w : World} (hb : w.cell? ⟨bx, 0, none⟩ = some (.map (some mb))) (hI : IMap w mb nn (fun y => (f y).map (Value.int .i64))) {k : Int} (hk : I64 k) :
    Calls Tryz.prog 26 #[.int .i64 k, .pointer (some ⟨bx, 0, none⟩)] w fun e w' => e = .returned (.int .i64 ((f k).getD (-1))) ∧ w' = w := by
  have hl := hI.look Tryz.underlying69 (zeroI _) hk
  cases hf : f k with
  | none =>
    rw [hf] at hl
    simp only [Option.map_none, Option.getD_none, Option.isSome_none] at hl
    clear hI hf
    go_enter Tryz.func26, Tryz.ntmps26
    go_wp2
    go_ret
    exact ⟨rfl, rfl⟩
  | some v =>
    rw [hf] at hl
    simp only [Option.map_some, Option.getD_some, Option.isSome_some] at hl
    clear hI hf
    go_enter Tryz.func26, Tryz.ntmps26
    go_wp2
    go_ret
    exact ⟨rfl, rfl⟩

theorem sum_nodup (f : Nat → Nat) : ∀ (n : Nat) (l : List Nat), l.Nodup → (∀ x ∈ l, x < n) → (l.map f).sum ≤ ((List.range n).map f).sum
  | 0, [], _, _ => Nat.le_refl _
  | 0, x :: r, _, h => absurd (h x (List.mem_cons_self ..)) (by omega)
  | n + 1, l, hn, h => by
    have h1 := sum_nodup f n (l.filter (fun x => x != n)) (hn.filter _) (fun x hx => by
      have h2 := List.mem_filter.1 hx
      have h3 := h x h2.1
      have h4 : x ≠ n := by simpa using h2.2
      omega)
    have h2 : (l.map f).sum ≤ ((l.filter (fun x => x != n)).map f).sum + f n := by
      clear h1 h
      induction l with
      | nil => simp
      | cons x r ih =>
        have hn' := List.nodup_cons.1 hn
        have := ih hn'.2
        rw [List.filter_cons]
        by_cases e : x = n
        · subst e
          have : r.filter (fun y => y != x) = r := List.filter_eq_self.2 (fun y hy => by simp; rintro rfl; exact hn'.1 hy)
          simp [this]
          omega
        · rw [if_pos (by simpa using e)]
          simp only [List.map_cons, List.sum_cons]
          omega
    rw [List.range_succ, List.map_append, List.sum_append]
    simp
    omega
theorem hist_len {E : Eng} {Q : Nat → Prop} (h : Mid 0 (fun _ => none) E.ce Q) : (histP E).length ≤ cntR E + 10 * E.txs.length := by
  have hlt : ∀ x ∈ E.com, x < E.txs.length := fun x hx => by
    obtain ⟨u, hu, _⟩ := (h.com.coms x).1 hx
    obtain ⟨t, ht, _⟩ := cs_of hu
    exact (List.getElem?_eq_some_iff.1 ht).1
  have hn : E.com.Nodup := h.com.comn
  have h1 : ∀ l : List Nat, (l.flatMap (fun (i : Nat) => match E.txs[i]? with | some t => histOf ((i : Int) + 1) t | none => [])).length ≤ (l.map (fun i => match E.txs[i]? with | some t => t.reads.length | none => 0)).sum + 10 * l.length := by
    intro l
    induction l with
    | nil => simp
    | cons x r ih =>
      rw [List.flatMap_cons, List.length_append, List.map_cons, List.sum_cons, List.length_cons]
      cases hx : E.txs[x]? with
      | none =>
        simp only [List.length_nil, Nat.zero_add]
        omega
      | some t =>
        have h2 : (histOf ((x : Int) + 1) t).length ≤ t.reads.length + 10 := by
          unfold histOf readOps
          have := writesP_len t.vals
          simp
          omega
        simp only
        omega
  have h2 := sum_nodup (fun i => match E.txs[i]? with | some t => t.reads.length | none => 0) E.txs.length E.com hn hlt
  have h3 := nodup_lt E.txs.length E.com hn hlt
  have h4 : ((List.range E.txs.length).map (fun i => match E.txs[i]? with | some t => t.reads.length | none => 0)).sum = cntR E := by
    unfold cntR
    congr 1
    refine List.ext_getElem? (fun k => ?_)
    rw [List.getElem?_map, List.getElem?_map]
    by_cases hk : k < E.txs.length
    · rw [List.getElem?_range hk, List.getElem?_eq_getElem hk]
      simp only [Option.map_some, List.getElem?_eq_getElem hk]
    · rw [List.getElem?_eq_none (by simpa using hk), List.getElem?_eq_none (by omega)]
      rfl
  have h5 : (histP E).length ≤ (E.com.map (fun i => match E.txs[i]? with | some t => t.reads.length | none => 0)).sum + 10 * E.com.length := by
    unfold histP histTo
    rw [List.take_length]
    exact h1 E.com
  rw [h4] at h2
  omega
theorem hist_at {E : Eng} {T : Tal} {R : Nat → List Int} {N : Nat} (hT : Tells E T) (hS : StrB noQ R N E) {w : World} {base c : Nat} {ad : Option Addr} (hrow : w.ownsRow base 90 4 (.slice ad (histP E).length c) (histP E).length (opsV (histP E))) : OpsAt w ad (histP E) := fun i o ho => by
  have hi := (List.getElem?_eq_some_iff.1 ho).1
  rcases row_slice hrow with ⟨_, e0⟩ | ⟨g, c', e, hg, hc⟩
  · omega
  · injection e with e1 e2 e3
    obtain ⟨c0, c1, c2, c3⟩ := opsV_get _ i o ho
    refine ⟨g, 0, e1, hg, ?_, ?_⟩
    · rw [Nat.zero_add]
      exact ⟨hc _ _ c0, hc _ _ c1, hc _ _ c2, hc _ _ c3⟩
    · obtain ⟨j, t, ht, hs, _, ⟨q, hq, rfl⟩ | ⟨k, hk, rfl⟩⟩ := mem_hist hT.mid (List.mem_of_getElem? ho)
      · have hj := tx_lt hT ht
        obtain ⟨hk, hf, _⟩ := hS.rds j t ht q hq
        have h0 : 0 ≤ q.2 ∧ q.2 ≤ 200 := by
          rcases from_cases hT.mid q.1 t.start with ⟨_, h0, _⟩ | ⟨m, _, _, _, h0, hm, _⟩
          · rw [hf, h0]; omega
          · obtain ⟨u, hu, _⟩ := (wl_iff hT.mid).1 hm
            have := tx_lt hT hu
            rw [hf, h0]
            omega
        unfold I64
        simp only
        omega
      · have hj := tx_lt hT ht
        have hvk := (hT.mid.reg.fair j _ (cs_get ht)).vk k hk
        unfold I64
        simp only
        omega
theorem fineTo_all {p : Opp → Bool} {l : List Opp} (h : ∀ o ∈ l, p o = false) : FineTo p l l.length := ⟨Nat.le_refl _, fun _ o _ ho => h o (List.mem_of_getElem? ho), fun h => absurd h (Nat.lt_irrefl _)⟩

def putW (f : Int → Option Int) (l : List (Int × Int)) : Int → Option Int := l.foldl (fun f p => updT f p.1 (some p.2)) f
theorem putW_take {f : Int → Option Int} {l : List (Int × Int)} {a : Nat} {p : Int × Int} (h : l[a]? = some p) : putW f (l.take (a + 1)) = updT (putW f (l.take a)) p.1 (some p.2) := by
  rw [List.take_add_one, h]
  unfold putW
  rw [List.foldl_append]
  rfl
theorem putW_all (f V : Int → Option Int) (hV : ∀ k, V k ≠ none → 0 ≤ k ∧ k < 10) (k : Int) : putW f (writesP V) k = match V k with
    | some x => some x
    | none => f k := by
  have key : ∀ (ks : List Int) (f : Int → Option Int), putW f (ks.map (fun k => (k, (V k).getD 0))) k = if k ∈ ks then some ((V k).getD 0) else f k := by
    intro ks
    induction ks with
    | nil => intro f; simp [putW]
    | cons a r ih =>
      intro f
      have := ih (updT f a (some ((V a).getD 0)))
      unfold putW at this ⊢
      simp only [List.map_cons, List.foldl_cons]
      rw [this]
      by_cases e : k = a
      · subst e
        by_cases h : k ∈ r <;> simp [h, updT]
      · by_cases h : k ∈ r <;> simp [h, e, updT]
  unfold writesP
  rw [key]
  have hm := mem_keysOf hV k
  cases hv : V k with
  | none => rw [if_neg (fun hc => by rw [hm, hv] at hc; cases hc)]
  | some x => rw [if_pos (hm.2 (by rw [hv]; rfl))]; rfl
theorem putW_keys {f : Int → Option Int} {l : List (Int × Int)} (hf : ∀ k, f k ≠ none → 0 ≤ k ∧ k < 10) (hl : ∀ p ∈ l, 0 ≤ p.1 ∧ p.1 < 10) : ∀ k, putW f l k ≠ none → 0 ≤ k ∧ k < 10 := by
  induction l generalizing f with
  | nil => exact hf
  | cons p r ih =>
    refine ih (f := updT f p.1 (some p.2)) (fun k hk => ?_) (fun q hq => hl q (List.mem_cons_of_mem _ hq))
    by_cases e : k = p.1
    · rw [e]; exact hl p (List.mem_cons_self ..)
    · rw [updT_other _ _ e] at hk
      exact hf k hk
theorem nowP_keys {E : Eng} {Q : Nat → Prop} (h : Mid 0 (fun _ => none) E.ce Q) (p : List Int) (k : Int) (hk : nowP E p k ≠ none) : 0 ≤ k ∧ k < 10 := by
  unfold nowP at hk
  cases hl : lastN E p k with
  | none => rw [hl] at hk; exact absurd rfl hk
  | some x =>
    rw [hl] at hk
    simp only [Option.bind_some] at hk
    unfold CE.v at hk
    cases hc : E.ce.cs[(x - 1).toNat]? with
    | none => rw [hc] at hk; exact absurd rfl hk
    | some c => rw [hc] at hk; exact (h.reg.fair _ c hc).vk k hk
theorem writesP_key {V : Int → Option Int} {p : Int × Int} (h : p ∈ writesP V) : 0 ≤ p.1 ∧ p.1 < 10 := by
  unfold writesP at h
  obtain ⟨k, hk, rfl⟩ := List.mem_map.1 h
  exact keysOf_pos V hk
theorem now_count {E : Eng} {T : Tal} {out : List Int} (h : Lined E out) (hT : Tells E T) : (allE E).length = (keysOf (nowP E out)).length := by
  rw [all_count hT.mid, keysOf_range, keysOf_range]
  congr 1
  refine List.filter_congr (fun k _ => ?_)
  unfold histP
  rw [lastH_hist hT.mid _ _ (Nat.le_refl _), List.take_length, h.last hT]
  cases hl : lastW E.ce.v E.com k with
  | none => rfl
  | some i =>
    simp only [Option.map_some, Option.isSome_some, Option.bind_some]
    exact ((lastW_some hl).2).symm
theorem now_each {E : Eng} {T : Tal} {out : List Int} (h : Lined E out) (hT : Tells E T) {k x : Int} (hx : (k, x) ∈ allE E) : nowP E out k = some x ∧ 0 ≤ k ∧ k < 10 := by
  obtain ⟨i, t, h1, h2, h3, h4, h5⟩ := all_each hT.mid hx
  unfold histP at h1
  rw [lastH_hist hT.mid _ _ (Nat.le_refl _), List.take_length] at h1
  refine ⟨?_, h5⟩
  rw [h.last hT]
  obtain ⟨j, hj, e⟩ := Option.map_eq_some_iff.1 h1
  have : j = i := by omega
  subst this
  rw [hj, Option.bind_some, CE.v_some (cs_get h2)]
  exact h4

def StW (w6 wr : World) (mb : Nat) (f : Int → Option Int) : Prop := IMap wr mb 10 (fun y => (f y).map (Value.int .i64)) ∧ wr.cell? ⟨mb + 1, 0, none⟩ = some (.map (some mb)) ∧ Below mb w6 wr
theorem StW.more {w6 wr wr' : World} {mb : Nat} {f : Int → Option Int} (h : StW w6 wr mb f) (hB : Below wr.heap.size wr wr') (h6 : mb = w6.heap.size) : StW w6 wr' mb f := by
  obtain ⟨h1, h2, h3⟩ := h
  have hs := h3.size
  exact ⟨h1.same (hB.block _ h1.lt), (hB.cell (p := ⟨mb + 1, 0, none⟩) (World.block_lt_of_cell? wr _ h2)).trans h2, h3.trans (hB.mono (by omega))⟩
theorem StW.at {w6 wr : World} {mb : Nat} {f : Int → Option Int} (h : StW w6 wr mb f) {k : Int} (hk : I64 k) :
    Calls Tryz.prog 26 #[.int .i64 k, .pointer (some ⟨mb + 1, 0, none⟩)] wr fun e w' => e = .returned (.int .i64 ((f k).getD (-1))) ∧ w' = wr := at_any h.2.1 h.1 hk
theorem StW.congr {w6 wr : World} {mb : Nat} {f g : Int → Option Int} (h : StW w6 wr mb f) (e : ∀ k, f k = g k) : StW w6 wr mb g := (funext e : f = g) ▸ h
theorem line_len {E : Eng} {d : List (Int × Int)} {out : List Int} (hl : lineP d (txsP (histP E)).length (txsP (histP E)) = some out) : out.length ≤ (histP E).length := by
  obtain ⟨h1, h2, _⟩ := line_ok d _ _ out (Nat.le_refl _) (nodup_txs _) hl
  have := ((List.perm_ext_iff_of_nodup h2 (nodup_txs _)).2 h1).length_eq
  have := txs_length (histP E)
  omega

end Go.Proofs.YtjefgmeejhakbaaGreatDoor
