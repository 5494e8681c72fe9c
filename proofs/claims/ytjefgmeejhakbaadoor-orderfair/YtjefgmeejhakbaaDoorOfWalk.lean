/- keep.OrderFair: the walk. -/
import Derived.Test.YtjefgmeejhakbaaDoorOfTry
import Derived.Test.YtjefgmeejhakbaaDoorOfLined
import Derived.Test.YtjefgmeejhakbaaDoorRoLineP
import Derived.Laws.EntriesVeiled
namespace Go.Proofs.YtjefgmeejhakbaaDoor
open Go.RowKit

set_option maxRecDepth 100000 in
set_option maxHeartbeats 1000000 in
theorem fair_long (ad : Option Addr) (n cap : Nat) (w : World) (hn : 40 < n) :
    Calls Tryd.prog 7 #[.slice ad n cap] w fun e w' => e = .returned (.bool true) ∧ Below w.heap.size w w' := by
  have h1 : (40 : Int) < (n : Int) := by omega
  go_enter Tryd.func7, Tryd.ntmps7
  go_wp2
  go_ret
  exact ⟨rfl, Below.refl _ _⟩

theorem few_fine {m : List Opp} (h : allFew m) : FineTo opBad m m.length := fine_all (fun o ho => by
  obtain ⟨h1, h2, h3, h4, h5, h6⟩ := h o ho
  unfold opBad
  simp
  omega)
theorem few_i64 {m : List Opp} (h : allFew m) {x : Int} (hx : x ∈ txsP m) : I64 x := by
  obtain ⟨o, ho, rfl⟩ := mem_txs.1 hx
  obtain ⟨h1, h2, _⟩ := h o ho
  unfold I64
  omega
theorem edges_i64 {m : List Opp} (h : allFew m) {E : List (Int × Int)} (hE : IsEdges m E) : ∀ e ∈ E, I64 e.1 ∧ I64 e.2 := fun e he => by
  have := edges_tx hE (a := e.1) (b := e.2) he
  exact ⟨few_i64 h this.1, few_i64 h this.2⟩
theorem all_i64 {m : List Opp} (h : allFew m) {n : Nat} {x : Int} (hx : x ∈ allTo m n) : I64 x := few_i64 h (mem_txs.2 ((mem_allTo n).1 hx).1)

theorem notin_take {l : List Int} (h : l.Nodup) {i : Nat} {x : Int} (hx : l[i]? = some x) : x ∉ l.take i := fun hm => by
  obtain ⟨j, hj, e⟩ := List.getElem_of_mem hm
  rw [List.length_take] at hj
  rw [List.getElem_take] at e
  obtain ⟨h1, h2⟩ := List.getElem?_eq_some_iff.1 hx
  exact List.pairwise_iff_getElem.1 h j i (by omega) h1 (by omega) (e.trans h2.symm)
theorem zeroB2 (w : World) : (zeroValue 4).run Tryd.prog w = .ok (.bool false) w := by kernel_rfl
theorem below_eq {B C : Nat} {a w : World} (h : Below B a w) (e : C = B) : Below C a w := e ▸ h

/-- Nobody so far is the next one. -/
def InnerSt (m : List Opp) (k : Nat) (s5 : Value) (w5 : World) (sv iv : Value) (wr : World) : Prop :=
  sv = s5 ∧ wr = w5 ∧ ∃ i : Nat, iv = .int .i64 i ∧ i ≤ m.length ∧ ∀ (j : Nat) (o : Opp), j < i → m[j]? = some o → o.1 ≠ (k : Int) + 1

set_option maxRecDepth 100000 in
set_option maxHeartbeats 8000000 in
theorem fair_walk (ad : Option Addr) (cap : Nat) (l : List Opp) (w : World) (hn : l.length ≤ 40) (hO : OpsAt w ad l) (hH : Handle w) :
    Calls Tryd.prog 7 #[.slice ad l.length cap] w fun e w' => e = .returned (.bool true) ∧ Below w.heap.size w w' := by
  obtain ⟨i0, hi0, hz0, hz1, hz2⟩ := info_parts info3
  have hn1 : ¬ (40 : Int) < (l.length : Int) := by omega
  have HC1 := hid (lined_any w hH)
  have HO := hid hO
  have HH := hid hH
  have hHp := hH.pos
  have hnn : ∀ w, (binOp .neq 36 .nilIface .nilIface).run Tryd.prog w = .ok (.bool false) w := fun _ => by kernel_rfl
  have hen : ∀ w, (binOp .eql 36 .nilIface .nilIface).run Tryd.prog w = .ok (.bool true) w := fun _ => by kernel_rfl
  have hee : ∀ w, (binOp .eql 36 (.iface 38 (.int .i64 11)) .nilIface).run Tryd.prog w = .ok (.bool false) w := fun _ => by kernel_rfl
  have hmm := @run_makeMap Tryd.prog
  clear hO hH
  go_enter Tryd.func7, Tryd.ntmps7
  go_wp2_with fail
  refine HC1.out.mono ?_
  rintro e w1 ⟨rfl, hB1⟩
  have H1 := hid hB1
  have hs1 := hB1.size
  clear hB1 HC1
  go_wp2_with fail
  refine (ops_any ad cap l w1 (by omega) (HO.out.below H1.out)).mono ?_
  rintro e w2 ⟨xv, m, rfl, hml, hfew, hX, hB2⟩
  obtain ⟨xad, xcap, rfl, hXO⟩ := ops_of_row hX hfew
  obtain ⟨mr, hr⟩ := fineTo_ex (badRead m) m
  have hml2 : m.length ≤ 40 := by omega
  have hs2 := hB2.size
  have H2 := hid (And.intro hXO (And.intro hfew (And.intro hr (H1.out.trans (hB2.mono hs1)))))
  have HX := hid hX
  clear hml hX hB2 hXO hfew hr
  by_cases hmr : mr < m.length
  · -- an error
    have HC3 := hid (edges_ground xad xcap m mr w2 (by omega) H2.out.1 (few_fine H2.out.2.1) H2.out.2.2.1 hmr)
    go_wp2_with fail
    refine HC3.out.mono ?_
    rintro e w3 ⟨pb, rfl, hp, hB3⟩
    have hA3 := (Below.refl w3.heap.size w3).alloc (Nat.le_refl _) (.cells #[.slice none 0 0] 31)
    have hB23 := hB3.trans (hA3.mono hB3.size)
    have HC4 := hid (lineL_err xad xcap m.length 1 mr _ (edges_ground xad xcap m mr _ (by omega) (H2.out.1.below hB23) (few_fine H2.out.2.1) H2.out.2.2.1 hmr))
    have hpl := (Array.getElem?_eq_some_iff.1 hp).1
    have H3 := hid (And.intro hp (And.intro hA3 (H2.out.2.2.2.trans (hB23.mono H2.out.2.2.2.size))))
    have hne : ∀ w, (binOp .neq 36 (.iface 101 (.pointer (some ⟨pb, 0, none⟩))) .nilIface).run Tryd.prog w = .ok (.bool true) w := fun _ => by kernel_rfl
    clear hp hB3 hA3 hB23 HC3
    go_wp2_with fail
    refine HC4.out.mono ?_
    rintro e w4 ⟨pb2, rfl, hp2, hB4⟩
    have hb4 := H3.out.2.2.trans (hB4.mono H3.out.2.2.size)
    have c4 : w4.cell? ⟨pb, 0, none⟩ = some (.int .i64 1) := (hB4.cell (p := ⟨pb, 0, none⟩) (by simp; omega)).trans ((H3.out.2.1.cell (p := ⟨pb, 0, none⟩) hpl).trans ((cell_of_row _ _ 0 _ _ (0, 0) H3.out.1).trans rfl))
    have HC5 := hid (tell_at 1 pb w4 (HH.out.below hb4 hHp) c4)
    have H4 := hid (And.intro hp2 hb4)
    clear hp2 hB4 hb4 c4 HC4
    go_wp2_with fail
    refine HC5.out.mono ?_
    rintro e w5 ⟨rfl, hB5⟩
    have hb5 := H4.out.2.trans (hB5.mono H4.out.2.size)
    have c5 : w5.cell? ⟨pb2, 0, none⟩ = some (.int .i64 1) := (hB5.cell (p := ⟨pb2, 0, none⟩) (Array.getElem?_eq_some_iff.1 H4.out.1).1).trans ((cell_of_row _ _ 0 _ _ (0, 0) H4.out.1).trans rfl)
    have HC6 := hid (tell_at 1 pb2 w5 (HH.out.below hb5 hHp) c5)
    have H5 := hid hb5
    clear hB5 hb5 c5 HC5
    go_wp2_with fail
    refine HC6.out.mono ?_
    rintro e w6 ⟨rfl, hB6⟩
    have HF := hid (H5.out.trans (hB6.mono H5.out.size))
    clear hB6
    go_wp2
    go_ret
    exact ⟨rfl, HF.out⟩
  · obtain rfl : mr = m.length := by have := H2.out.2.2.1.le; omega
    have HC3 := hid (edges_ok xad xcap m w2 (by omega) H2.out.1 (few_fine H2.out.2.1) H2.out.2.2.1)
    go_wp2_with fail
    refine HC3.out.mono ?_
    rintro e w3 ⟨tv, E, rfl, hE, hEl, hT, hB3⟩
    obtain ⟨tad, tcap, htv⟩ := row_form hT
    subst htv
    have hA3 := (Below.refl w3.heap.size w3).alloc (Nat.le_refl _) (.cells #[.slice tad E.length tcap] 31)
    have hB23 := hB3.trans (hA3.mono hB3.size)
    have HC4 := hid (lineL_ok xad xcap m _ (by omega) (H2.out.1.below hB23) (few_fine H2.out.2.1) H2.out.2.2.1)
    have hbox := heap_alloc_new w3 (.cells #[.slice tad E.length tcap] 31)
    have H3 := hid (And.intro hT (And.intro hA3 (And.intro (H2.out.2.2.2.trans (hB23.mono H2.out.2.2.2.size)) (And.intro hbox (And.intro hE hB23)))))
    have hs3 := hB3.size
    have hEn : E.length ≤ 10000 := by omega
    clear hB3 hA3 hB23 HC3 hT hbox hE
    go_wp2_with fail
    refine HC4.out.mono ?_
    rintro e w4 ⟨E', hE', hB4, hres⟩
    obtain rfl := edges_one hE' H3.out.2.2.2.2.1
    have hb34 := H3.out.2.1.trans (hB4.mono (by simp))
    have hb4 := H3.out.2.2.1.trans (hB4.mono H3.out.2.2.1.size)
    have hb24 := H3.out.2.2.2.2.2.trans (hB4.mono H3.out.2.2.2.2.2.size)
    have hT4 := owns_same H3.out.1 (fun g e => hb34.block g (H3.out.1.lt g e).2)
    have hX4 := (hB4.block w3.heap.size (by simp)).trans H3.out.2.2.2.1
    have hOps := H2.out.1.below hb24
    have hs4 : w3.heap.size + 1 ≤ w4.heap.size := by have := hB4.size; simp at this; omega
    obtain ⟨lv, ov, rfl, hcase⟩ : ∃ lv ov, e = .returned (.tuple #[lv, ov]) ∧ ((ov = .nilIface ∧ ∃ out, lineP E' (txsP m).length (txsP m) = some out ∧ w4.ownsRow 0 3 1 lv out.length (intsV out)) ∨ (ov = .iface 38 (.int .i64 11) ∧ lv = .slice none 0 0 ∧ lineP E' (txsP m).length (txsP m) = none)) := by
      rcases hres with ⟨v, out, rfl, hl, ho⟩ | ⟨rfl, hl⟩
      · exact ⟨v, _, rfl, .inl ⟨rfl, out, hl, owns_base ho (Nat.zero_le _)⟩⟩
      · exact ⟨_, _, rfl, .inr ⟨rfl, rfl, hl⟩⟩
    have HCASE := hid hcase
    have H4 := hid (And.intro hb4 (And.intro hT4 (And.intro hX4 (And.intro hOps hE'))))
    clear hB4 hres hb34 hb4 hb24 hT4 hX4 hOps hE' hcase HC4
    go_wp2
    go_loopw [8, 9] (fun sv nv wr => ∃ k : Nat, nv = .int .i64 ((k : Int) + 1) ∧ k ≤ 5 ∧ wr.ownsRow w4.heap.size 3 1 sv (allTo m k).length (intsV (allTo m k)) ∧ Below w4.heap.size w4 wr) (fun _ nv _ => 7 - (intOf nv).toNat)
    case atStart => exact ⟨0, rfl, by omega, World.ownsRow_nil _ _ _ _, Below.refl _ _⟩
    case round =>
      obtain ⟨k, rfl, hk, ho, hB⟩ := hrel
      obtain ⟨w5, hw5⟩ : ∃ w5, w5 = wr := ⟨_, rfl⟩
      subst hw5
      have hs5 := hB.size
      have hal := allTo_len m k
      have HR := hid (And.intro ho hB)
      by_cases hk5 : k < 5
      · have hk1 : (k : Int) + 1 ≤ 5 := by omega
        have HO5 := hid (H4.out.2.2.2.1.below hB)
        obtain ⟨s5, hs5e⟩ : ∃ s5, s5 = u8 := ⟨_, rfl⟩
        subst hs5e
        clear ho hB
        go_wp2
        go_loopw [8, 10] (fun sv iv wr => InnerSt m k s5 w5 sv iv wr) (fun _ iv _ => m.length - (intOf iv).toNat)
        case atStart => exact ⟨rfl, rfl, 0, rfl, Nat.zero_le _, fun j o hj => by omega⟩
        case round =>
          obtain ⟨rfl, rfl, i, rfl, hi, hno⟩ := hrel
          by_cases hlt : i < m.length
          · obtain ⟨o, hoi⟩ : ∃ o, m[i]? = some o := ⟨m[i], List.getElem?_eq_getElem hlt⟩
            obtain ⟨g, off, rfl, hg, ⟨c0, _, _, _⟩, _⟩ := HO5.out i o hoi
            obtain ⟨tx, htx⟩ : ∃ tx, o.1 = tx := ⟨_, rfl⟩
            rw [htx] at c0
            have hi0' : (0 : Int) ≤ (i : Int) := by omega
            have hi1' : (i : Int) < (m.length : Int) := by omega
            by_cases htk : tx = (k : Int) + 1
            · have htb : (tx == (k : Int) + 1) = true := by simpa using htk
              have hst : allTo m (k + 1) = allTo m k ++ [(k : Int) + 1] := by
                have : hasTx m k = true := by
                  unfold hasTx
                  exact List.any_eq_true.2 ⟨o, List.mem_of_getElem? hoi, by simp [htx, htk]⟩
                rw [allTo, if_pos this]
              have HST := hid hst
              clear hno hoi htx htk hst
              go_wp2_with (at_builtin; refine wpList_append_lies _ rfl _ _ _ rfl w4.heap.size 3 i0 _ 1 8 Tryd.underlying49 hi0 hz0 hz1 hz2 rfl (by omega) u8 _ _ rfl (HR.out.1.alloc _) ⟨wr.heap.size, 0, none⟩ 1 1 [.int .i64 ((k : Int) + 1)] rfl rfl (World.news_of_block (cs := #[.int .i64 ((k : Int) + 1)]) (t := 3) (fr := (0, 0)) (heap_alloc_new wr _)) (by simp [Value.oneCell']) (by omega) (by unfold maxLen; omega) (by omega) (by simp; omega) (wr.heap.size + 1) (by simp) ?_; intro g8 cap8 w8 ho8 hgrow8 hat8 hlt8)
              go_roundw
              case rel =>
                refine ⟨k + 1, by go_num, by omega, ?_, (HR.out.2.alloc hs5 _).grown hgrow8 (by simp; omega) (fun q e => (HR.out.1.lt q e).1)⟩
                rw [HST.out, List.length_append, intsV_append]
                exact ho8
              case measure => simp [intOf]; omega
            · have htb : (tx == (k : Int) + 1) = false := by simpa using htk
              have HNO := hid (show ∀ (j : Nat) (o : Opp), j < i + 1 → m[j]? = some o → o.1 ≠ (k : Int) + 1 from fun j o' hj ho' => by
                by_cases e : j = i
                · subst e; rw [hoi] at ho'; cases ho'; rw [htx]; exact htk
                · exact hno j o' (by omega) ho')
              clear hno hoi htx htk
              go_wp2
              go_roundw
              case rel => exact ⟨rfl, rfl, i + 1, by go_num, by omega, HNO.out⟩
              case measure => simp [intOf]; omega
          · obtain rfl : i = m.length := by omega
            have hi1' : ¬ (m.length : Int) < (m.length : Int) := by omega
            have hst : allTo m (k + 1) = allTo m k := by
              have : ¬ hasTx m k = true := fun h => by
                unfold hasTx at h
                obtain ⟨o, ho, e⟩ := List.any_eq_true.1 h
                obtain ⟨j, hj, e2⟩ := List.getElem_of_mem ho
                exact hno j o hj (by rw [List.getElem?_eq_getElem hj, e2]) (by simpa using e)
              rw [allTo, if_neg this]
            have HST := hid hst
            clear hno hst
            go_wp2
            go_roundw
            case rel =>
              refine ⟨k + 1, by go_num, by omega, ?_, HR.out.2⟩
              rw [HST.out]
              exact HR.out.1
            case measure => simp [intOf]; omega
      · obtain rfl : k = 5 := by omega
        have hk1 : ¬ ((5 : Nat) : Int) + 1 ≤ 5 := by omega
        obtain ⟨aad, acap, hav⟩ := row_form ho
        have hA5 := (Below.refl w5.heap.size w5).alloc (Nat.le_refl _) (.cells #[.func (.func 42) #[] #[.pointer (some ⟨w3.heap.size, 0, none⟩)]] 94)
        have hF5 := heap_alloc_new w5 (.cells #[.func (.func 42) #[] #[.pointer (some ⟨w3.heap.size, 0, none⟩)]] 94)
        obtain ⟨wA, hwA⟩ : ∃ wA, w5.alloc (.cells #[.func (.func 42) #[] #[.pointer (some ⟨w3.heap.size, 0, none⟩)]] 94) = wA := ⟨_, rfl⟩
        have hsA : wA.heap.size = w5.heap.size + 1 := by rw [← hwA]; simp
        rw [hwA] at hA5 hF5
        have hBA := hB.trans (hA5.mono hs5)
        have cF : wA.cell? ⟨w5.heap.size, 0, none⟩ = some (.func (.func 42) #[] #[.pointer (some ⟨w3.heap.size, 0, none⟩)]) := (cell_of_row _ _ 0 _ _ (0, 0) hF5).trans rfl
        have cE : wA.cell? ⟨w3.heap.size, 0, none⟩ = some (.slice tad E'.length tcap) := (hBA.cell (p := ⟨w3.heap.size, 0, none⟩) (by show w3.heap.size < w4.heap.size; omega)).trans ((cell_of_row _ _ 0 _ _ (0, 0) H4.out.2.2.1).trans rfl)
        have hTA := owns_base (owns_same H4.out.2.1 (fun g e => hBA.block g (H4.out.2.1.lt g e).2)) (Nat.zero_le _)
        have hoA := owns_base (owns_same ho (fun g e => hA5.block g (ho.lt g e).2)) (Nat.zero_le _)
        have h0A := H4.out.1.trans (hBA.mono H4.out.1.size)
        have HA := hid (And.intro hBA (And.intro cF (And.intro cE (And.intro hTA (And.intro hoA h0A)))))
        have HWA := hid hwA
        have h64E := edges_i64 H2.out.2.1 H4.out.2.2.2.2
        have H64E := hid h64E
        clear ho hB hA5 hF5 hwA hBA cF cE hTA hoA h0A h64E
        subst hav
        rcases HCASE.out with ⟨rfl, out, hl, hlo⟩ | ⟨rfl, rfl, hl⟩
        · -- a line
          obtain ⟨hln, hnd⟩ := line_len hl (fun o ho => ⟨(H2.out.2.1 o ho).1, (H2.out.2.1 o ho).2.1⟩)
          obtain ⟨lad, lcap, hlv⟩ := row_form hlo
          subst hlv
          have hlb : ((out.length : Int) != ((allTo m 5).length : Int)) = false := by simp [hln]
          have h64o : ∀ x ∈ out, I64 x := fun x hx => few_i64 H2.out.2.1 (((line_ok E' _ _ out (Nat.le_refl _) (nodup_txs m) hl).1 x).1 hx)
          have hol : out.length ≤ 5 := by omega
          have hLA := (LineAt.of_row hlo).below HA.out.1
          have HL := hid (And.intro hl (And.intro hnd (And.intro h64o hLA)))
          have hI0 := IMap.made wA
          rw [hsA] at hI0
          have HI0 := hid hI0
          have HSA := hid hsA
          have hsA1 : w5.heap.size + 1 ≤ wA.heap.size := by omega
          have HB0 := hid ((Below.refl wA.heap.size wA).alloc (Nat.le_refl _) (.map #[] 0))
          clear hl hnd h64o hLA hlo hln hI0 hsA
          go_wp2
          rw [HWA.out]
          go_loopw [13] (fun iv wr => ∃ i : Nat, iv = .int .i64 i ∧ i ≤ out.length ∧ IMap wr (w5.heap.size + 1) i (leftF (out.take i)) ∧ Below (w5.heap.size + 1) wA wr) (fun iv _ => out.length - (intOf iv).toNat)
          case atStart => exact ⟨0, rfl, Nat.zero_le _, HI0.out.congr (fun a => by simp [leftF]), HB0.out.mono hsA1⟩
          case round =>
            obtain ⟨i, rfl, hi, hI, hB⟩ := hrel
            have cF := (hB.cell (p := ⟨w5.heap.size, 0, none⟩) (by show w5.heap.size < w5.heap.size + 1; omega)).trans HA.out.2.1
            have hBs := hB.size
            have hIl := hI.lt
            by_cases hlt : i < out.length
            · obtain ⟨x, hx⟩ : ∃ x, out[i]? = some x := ⟨out[i], List.getElem?_eq_getElem hlt⟩
              obtain ⟨lad', lcap', elv, hlc⟩ := HL.out.2.2.2
              injection elv with e1 _ e3
              subst e1
              subst e3
              obtain ⟨g, off, rfl, hg, hc⟩ := hlc (fun e => by rw [e] at hlt; simp at hlt)
              have hg5 : g < w5.heap.size + 1 := by have := HSA.out; omega
              have cx := (hB.cell (p := ⟨g, off + i, none⟩) hg5).trans (hc i x hx)
              have hx64 := HL.out.2.2.1 x (List.mem_of_getElem? hx)
              have hlk := hI.look1 Tryd.underlying95 (zeroB2 _) hx64
              have hno : leftF (out.take i) x = none := by unfold leftF; rw [if_neg (notin_take HL.out.2.1 hx)]
              rw [hno] at hlk
              simp only [Option.getD_none] at hlk
              obtain ⟨w6, hrun6, hI6, hg6⟩ := hI.store Tryd.underlying95 (by unfold maxLen; omega) hx64 (.bool true)
              have hst : ∀ a, updT (leftF (out.take i)) x (some (.bool true)) a = leftF (out.take (i + 1)) a := fun a => by
                rw [List.take_add_one, hx]
                by_cases e : a = x
                · subst e; rw [updT_same]; simp [leftF]
                · rw [updT_other _ _ e]; simp [leftF, e]
              have H6 := hid (And.intro (hI6.congr hst) (hB.grown hg6 (by omega) (fun k e => by injection e with e; omega)))
              have hi0' : (0 : Int) ≤ (i : Int) := by omega
              have hi1' : (i : Int) < (out.length : Int) := by omega
              clear hI hB hx hc hno hI6 hg6 hst hlc cF
              go_wp2
              go_roundw
              case rel => exact ⟨i + 1, by go_num, by omega, H6.out.1, H6.out.2⟩
              case measure => simp [intOf]; omega
            · obtain rfl : i = out.length := by omega
              have hi1' : ¬ (out.length : Int) < (out.length : Int) := by omega
              have hBr : Below wA.heap.size wA wr := below_eq hB HSA.out
              have HC7 := hid (fits_any 0 w3.heap.size (.slice tad E'.length tcap) (.slice lad out.length lcap) E' out wr (by omega) hEn ((hBr.cell (p := ⟨w3.heap.size, 0, none⟩) (World.block_lt_of_cell? wA _ HA.out.2.2.1)).trans HA.out.2.2.1) (owns_same HA.out.2.2.2.1 (fun g e => hBr.block g (HA.out.2.2.2.1.lt g e).2)) (HL.out.2.2.2.below hBr) HL.out.2.2.1 H64E.out)
              have HF := hid (And.intro (fits_line H4.out.2.2.2.2 HL.out.1) (HA.out.2.2.2.2.2.trans (hBr.mono HA.out.2.2.2.2.2.size)))
              clear hI hB hBr
              go_wp2_with fail
              refine HC7.out.mono ?_
              rintro e w7 ⟨rfl, hB7⟩
              rw [HF.out.1]
              have HF2 := hid (HF.out.2.trans (hB7.mono HF.out.2.size))
              clear hB7
              go_wp2
              go_ret
              exact ⟨rfl, HF2.out⟩
        · -- no line
          have HL := hid hl
          clear hl
          go_wp2_with fail
          rw [HWA.out]
          refine (tell_errno 11 wA (HH.out.below HA.out.2.2.2.2.2 hHp)).mono ?_
          rintro e w6 ⟨rfl, hB6⟩
          have hA6 := (Below.refl w6.heap.size w6).alloc (Nat.le_refl _) (.cells #[.func (.func 43) #[] #[.pointer (some ⟨w5.heap.size, 0, none⟩), .pointer (some ⟨w6.heap.size, 0, none⟩)]] 55)
          have hN6 := heap_alloc_new w6 (.cells #[.func (.func 43) #[] #[.pointer (some ⟨w5.heap.size, 0, none⟩), .pointer (some ⟨w6.heap.size, 0, none⟩)]] 55)
          have hBA6 := hB6.trans (hA6.mono hB6.size)
          have hall := allTo_len m 5
          have HC7 := hid (try_any E' (fits_none HL.out) H64E.out hEn w5.heap.size w6.heap.size w3.heap.size (.slice tad E'.length tcap) (allTo m 5).length [] (allTo m 5) (.slice none 0 0) (.slice aad (allTo m 5).length acap) _ rfl (by simp; omega) (fun x hx => by simp at hx) (fun x hx => all_i64 H2.out.2.1 hx) (World.ownsRow_nil _ _ _ _) (owns_same HA.out.2.2.2.2.1 (fun g e => hBA6.block g (HA.out.2.2.2.2.1.lt g e).2))
            ⟨(hBA6.cell (p := ⟨w5.heap.size, 0, none⟩) (World.block_lt_of_cell? wA _ HA.out.2.1)).trans HA.out.2.1, (cell_of_row _ _ 0 _ _ (0, 0) hN6).trans rfl, (hBA6.cell (p := ⟨w3.heap.size, 0, none⟩) (World.block_lt_of_cell? wA _ HA.out.2.2.1)).trans HA.out.2.2.1, owns_same HA.out.2.2.2.1 (fun g e => hBA6.block g (HA.out.2.2.2.1.lt g e).2)⟩)
          have HF := hid (HA.out.2.2.2.2.2.trans (hBA6.mono HA.out.2.2.2.2.2.size))
          clear hB6 hA6 hN6 hBA6
          go_wp2_with fail
          refine HC7.out.mono ?_
          rintro e w7 ⟨rfl, hB7⟩
          have HF2 := hid (HF.out.trans (hB7.mono HF.out.size))
          clear hB7
          go_wp2
          go_ret
          exact ⟨rfl, HF2.out⟩

end Go.Proofs.YtjefgmeejhakbaaDoor
