/- EnKeys EnCommit OrLine Place: put together for a claim. -/
import Derived.Test.YtjefgmeejhakbaaGreatDoorEnShelf
import Derived.Test.YtjefgmeejhakbaaGreatDoorMgAN
import Derived.Test.YtjefgmeejhakbaaGreatDoorMgAC
import Derived.Test.YtjefgmeejhakbaaGreatDoorMgAM
import Derived.BigQuiet
import Derived.Deep.QuietTactic
/- slices.Sorted(maps.Keys(m)), of a map of ints. -/
namespace Go.Proofs.YtjefgmeejhakbaaGreatDoor
open Go.RowKit Go.Maps Go.Sort Go.Shelf

theorem sortsI (m : Nat) : AnyZI.SortsIn Tryz.prog Tryz.lSorted_ren Fence.wide m :=
  ⟨fun blk off cap ss W hH hblk hsz => callsIn_wide.2 (AnyM.slices_Sort_int Tryz.lSortI blk off cap ss W hH hblk hsz),
   fun p cap W => callsIn_wide.2 (AnyM.slices_Sort_int_none Tryz.lSortI p cap W)⟩
theorem keys_any (mb : Option Nat) (W : World) : Calls Tryz.prog 151 #[.map mb] W fun e w' => e = .returned (.func (.func 205) #[] #[.pointer (some ⟨W.heap.size, 0, none⟩)]) ∧ w' = W.alloc (.cells #[.map mb] 69) :=
  (callsIn_wide (n := 5)).1 (AnyZI.keys_in Tryz.lKeys Fence.wide 5 trivial rfl mb W)

def keysOf {α : Type} (f : Int → Option α) : List Int := keysP.filter (fun k => (f k).isSome)
theorem keysOf_nodup {α : Type} (f : Int → Option α) : (keysOf f).Nodup := List.Pairwise.filter _ (by decide)
theorem keysOf_rising {α : Type} (f : Int → Option α) : (keysOf f).Pairwise (fun a b => a ≤ b) := List.Pairwise.filter _ (by decide)
theorem mem_keysOf {α : Type} {f : Int → Option α} (hs : ∀ a, f a ≠ none → 0 ≤ a ∧ a < 10) (a : Int) : a ∈ keysOf f ↔ (f a).isSome = true := by
  unfold keysOf
  rw [List.mem_filter, mem_keysP]
  constructor
  · exact fun h => h.2
  · intro h
    refine ⟨hs a (fun e => ?_), h⟩
    rw [e] at h
    cases h
theorem keysOf_len {α : Type} (f : Int → Option α) : (keysOf f).length ≤ 10 := List.length_filter_le _ _

theorem sorted_any {b nn : Nat} {f : Int → Option Value} {w : World} (h : IMap w b nn f) (hs : ∀ a, f a ≠ none → 0 ≤ a ∧ a < 10) :
    Calls Tryz.prog 150 #[.func (.func 205) #[] #[.pointer (some ⟨w.heap.size, 0, none⟩)]] (w.alloc (.cells #[.map (some b)] 69)) fun e w' =>
      ∃ v, e = .returned v ∧ w'.ownsRow (w.heap.size + 1) 3 1 v (keysOf f).length (intsV (keysOf f)) ∧ Below (w.heap.size + 1) (w.alloc (.cells #[.map (some b)] 69)) w' := by
  have h10 := h.upTo 10 hs
  obtain ⟨D0, hown, h2⟩ := h10
  have hbl := hown.lt
  have hmax : Maps.size D0 ≤ 10 := hown.size_le
  have hc : CollectedI D0 (fun _ => false) (keysOf f) := ⟨keysOf_nodup f, fun x => by rw [mem_keysOf hs, (h2 x).1]; simp⟩
  have hperm0 := hc.perm hown lawI Tryz.underlying3 (fun _ => rfl)
  have hseq : SeqGives Fence.wide 2 Tryz.prog 205 #[.pointer (some ⟨w.heap.size, 0, none⟩)] encZ (fun ss => ss.Perm (intKeys D0)) (Maps.size D0) (w.alloc (.cells #[.map (some b)] 69)) :=
    AnyZI.keys_gives (ρ := Tryz.lKeys_ren) { Tryz.lKeys with } Fence.wide _ trivial rfl (by omega) w.heap.size b 10 D0 _ (by simp) (by simp) (by
      obtain ⟨es, clock, hb, Ft, hs, hD⟩ := hown
      exact ⟨es, clock, (Below.heap_alloc _ _ b hbl).trans hb, Ft, hs, hD⟩)
  have cS := AnyZI.sorted_in Tryz.lSorted Fence.wide 5 trivial trivial trivial trivial rfl (by omega) (sortsI _) (enters_of Tryz.func204 (by kernel_rfl) rfl) 205 #[.pointer (some ⟨w.heap.size, 0, none⟩)] trivial (enters_of Tryz.func205 (by kernel_rfl) rfl) _ _ (by unfold maxLen; omega) (by omega) _ hseq
  change CallsIn _ _ Tryz.prog 150 _ _ _ at cS
  refine ((callsIn_wide (n := 5)).1 cS).mono ?_
  rintro e w' ⟨v, ss, rfl, hS, hrow, hnil, hb⟩
  have hp : ss.Perm (keysOf f) := hS.trans hperm0.symm
  have hm : ss.mergeSort (fun x y => decide (x ≤ y)) = keysOf f := (mergeSort_of_perm_i hp).trans (List.mergeSort_of_pairwise ((keysOf_rising f).imp (fun h => by simpa using h)))
  have hsz : (w.alloc (.cells #[.map (some b)] 69)).heap.size = w.heap.size + 1 := by simp
  rw [hm, hp.length_eq] at hrow
  rw [hsz] at hrow hb
  refine ⟨v, rfl, ?_, hb⟩
  exact hrow

def writesP (V : Int → Option Int) : List (Int × Int) := (keysOf V).map fun k => (k, (V k).getD 0)
theorem writesP_len (V : Int → Option Int) : (writesP V).length ≤ 10 := by unfold writesP; rw [List.length_map]; exact keysOf_len V
theorem keysOf_map (V : Int → Option Int) : keysOf (fun k => (V k).map (Value.int .i64)) = keysOf V := by
  unfold keysOf
  congr 1
  funext k
  show ((V k).map (Value.int .i64)).isSome = (V k).isSome
  cases V k <;> rfl

variable {w w' : World} {L : EnL} {E : Eng}
set_option maxRecDepth 100000 in
set_option maxHeartbeats 2000000 in
theorem writes_any {n : Int} {l : TxL} {t : Tx} (hA : TxAt w n l t) :
    Calls Tryz.prog 94 #[.pointer (some ⟨l.b, 0, none⟩)] w fun e w' => ∃ v, e = .returned v ∧ w'.ownsRow w.heap.size 78 2 v (writesP t.vals).length (vrow (writesP t.vals)) ∧ Below w.heap.size w w' := by
  obtain ⟨i0, hi0, hz0, hz1, hz2⟩ := info_parts info78
  have c8 := hA.c8
  have hbl := hA.lt
  have HK := hid (keys_any (some l.vb) w)
  have hS := sorted_any hA.va (fun a ha => hA.vk a (fun e => ha (by rw [e]; rfl)))
  rw [keysOf_map] at hS
  have HS := hid hS
  have hvl := hA.va.lt
  have HV := hid (fun W (hB : Below w.heap.size w W) => hA.va.same (hB.block l.vb hvl))
  have hkl := keysOf_len t.vals
  have HKI := hid (show ∀ a ∈ keysOf t.vals, I64 a ∧ t.vals a ≠ none from fun a ha => by
    have h1 := (mem_keysOf hA.vk a).1 ha
    have h2 : t.vals a ≠ none := fun e => by rw [e] at h1; cases h1
    have := hA.vk a h2
    exact ⟨by unfold I64; omega, h2⟩)
  have hwp : writesP t.vals = (keysOf t.vals).map fun k => (k, (t.vals k).getD 0) := rfl
  obtain ⟨ky, hky⟩ : ∃ ky, keysOf t.vals = ky := ⟨_, rfl⟩
  rw [hky] at HS hkl HKI hwp
  rw [hwp]
  clear hA hS hwp hky
  go_enter Tryz.func94, Tryz.ntmps94
  go_wp2_with fail
  refine HK.out.mono ?_
  rintro e w1 ⟨rfl, hw1⟩
  rw [hw1]
  clear hw1 w1 HK
  go_wp2_with fail
  refine HS.out.mono ?_
  rintro e w2 ⟨kv, rfl, ho, hB2⟩
  obtain ⟨ad, cap, rfl⟩ := row_form ho
  have hB : Below w.heap.size w w2 := ((Below.refl _ w).alloc (Nat.le_refl _) _).trans (hB2.mono (by omega))
  have hadg : Hid (∀ j a, ky[j]? = some a → ∃ g, ad = some ⟨g, 0, none⟩ ∧ g < w2.heap.size ∧ w.heap.size + 1 ≤ g ∧ w2.cell? ⟨g, j, none⟩ = some (.int .i64 a)) := fun j a ha => by
    rcases row_slice ho with ⟨e1, e2⟩ | ⟨g, cap', e1, hg, hc⟩
    · have := (List.getElem?_eq_some_iff.1 ha).1; omega
    · have hb := (ho.lt g (by rw [e1]; rfl)).1
      injection e1 with e1
      exact ⟨g, e1, hg, hb, hc j _ (intsV_get ha)⟩
  have HB := hid hB
  have hs2 := hB.size
  clear ho hB2 HS hB
  go_wp2
  go_loopw [3, 13] (fun tv iv wr => ∃ j : Nat, j ≤ ky.length ∧ iv = .int .i64 j ∧ wr.ownsRow w2.heap.size 78 2 tv ((ky.take j).map fun k => (k, (t.vals k).getD 0)).length (vrow ((ky.take j).map fun k => (k, (t.vals k).getD 0))) ∧ Below w2.heap.size w2 wr) (fun _ iv _ => ky.length - (intOf iv).toNat)
  case atStart => exact ⟨0, by omega, rfl, by simpa [vrow] using World.ownsRow_nil w2 w2.heap.size 78 2, Below.refl _ _⟩
  case round =>
    obtain ⟨j, hj, rfl, hown, hB⟩ := hrel
    have hBs := hB.size
    by_cases hlt : j < ky.length
    · obtain ⟨a, ha⟩ : ∃ a, ky[j]? = some a := ⟨ky[j], List.getElem?_eq_getElem hlt⟩
      obtain ⟨g, rfl, hg, hg2, hc⟩ := hadg.out j a ha
      obtain ⟨hia, hna⟩ := HKI.out a (List.mem_of_getElem? ha)
      have hc' := (hB.cell (p := ⟨g, j, none⟩) hg).trans hc
      have hBw : Below w.heap.size w wr := HB.out.trans (hB.mono (by omega))
      have c8' := (hBw.cell (p := ⟨l.b, 8, none⟩) hbl).trans c8
      have hlk := (HV.out wr hBw).look1 Tryz.underlying69 (zeroI wr) hia
      rw [getD_map] at hlk
      obtain ⟨x, hx⟩ : ∃ x, (t.vals a).getD 0 = x := ⟨_, rfl⟩
      rw [hx] at hlk
      have hst : Hid (vrow ((ky.take (j + 1)).map fun k => (k, (t.vals k).getD 0)) = vrow ((ky.take j).map fun k => (k, (t.vals k).getD 0)) ++ [.int .i64 a, .int .i64 x]) := by
        show _ = _
        rw [List.take_add_one, ha, List.map_append, vrow_append]
        simp [vrow, hx]
      have hlj : ((ky.take j).map fun k => (k, (t.vals k).getD 0)).length = j := by simp; omega
      have hlj2 : ((ky.take (j + 1)).map fun k => (k, (t.vals k).getD 0)).length = j + 1 := by simp; omega
      rw [hlj] at hown
      have HO := hid hown
      have hj0 : (0 : Int) ≤ (j : Int) := by omega
      have hj1 : (j : Int) < (ky.length : Int) := by omega
      clear hown ha hc hx hna hlj
      go_wp2_with (at_builtin; refine wpList_append_lies _ rfl _ _ _ rfl w2.heap.size 78 i0 _ 2 16 Tryz.underlying23 hi0 hz0 hz1 hz2 rfl (by omega) u3 _ _ rfl (HO.out.alloc _) ⟨wr.heap.size, 0, none⟩ 1 1 [.int .i64 a, .int .i64 x] rfl rfl (World.news_of_block (cs := #[.int .i64 a, .int .i64 x]) (t := 78) (fr := (0, 0)) (heap_alloc_new wr _)) (by simp [Value.oneCell']) (by omega) (by unfold maxLen; omega) (by omega) (by simp; omega) (wr.heap.size + 1) (by simp) ?_; intro g' cap' w3 ho hgrow hat hlt2)
      go_roundw
      case rel =>
        refine ⟨j + 1, by omega, by go_num, ?_, ?_⟩
        · rw [hst.out, hlj2]; exact ho
        · exact hB.trans ((((Below.refl _ wr).alloc (Nat.le_refl _) _).mono hBs).grown hgrow (by simp; omega) (fun k e => (HO.out.lt k e).1))
      case measure => simp [intOf]; omega
    · rw [List.take_of_length_le (by omega)] at hown
      have HO := hid hown
      have HBF := hid (HB.out.trans (hB.mono hs2))
      clear hown hB
      go_wp2
      go_ret
      exact ⟨_, rfl, owns_base HO.out hs2, HBF.out⟩

end Go.Proofs.YtjefgmeejhakbaaGreatDoor

/- engine.install, Commit. -/
namespace Go.Proofs.YtjefgmeejhakbaaGreatDoor
open Go.RowKit

variable {w w' : World} {L : EnL} {E : Eng}
def installE (E : Eng) (i : Nat) : Eng := match E.txs[i]? with
  | some t => if writesP t.vals = [] ∨ 1099511627776 < E.last + 1 then E else { E with last := E.last + 1, ks := instP (E.last + 1) (writesP t.vals) E.ks, wr := updT E.wr (E.last + 1) (some ((i : Int) + 1)), nw := E.nw + 1 }
  | none => E
noncomputable def commitE (f : Nat) (E : Eng) (i : Nat) : Option (Int × Eng) := match E.txs[i]? with
  | some t => if betB t.ahead t.behind = true then (endF f (loseE E i 13) i 3).map (fun E' => (13, E')) else
    (endF f { (installE E i) with com := E.com ++ [i] } i 2).map (fun E' => (0, E'))
  | none => none

theorem P_set16 (L : EnL) (last : Int) (hlv : L.vs.length = 10) (v : Value) : (L.P.cells last L.vs).setIfInBounds 16 v = ({ L with cv := v } : EnL).P.cells last L.vs := by
  unfold Tail.cells
  rw [List.setIfInBounds_toArray, show 16 = 15 + 1 from rfl, List.set_cons_succ, List.set_append_right _ _ (by omega), hlv]
  rfl
theorem P_set14 (L : EnL) (last : Int) (hlv : L.vs.length = 10) (v : Value) : (L.P.cells last L.vs).setIfInBounds 14 v = ({ L with av := v } : EnL).P.cells last L.vs := by
  unfold Tail.cells
  rw [List.setIfInBounds_toArray, show 14 = 13 + 1 from rfl, List.set_cons_succ, List.set_append_right _ _ (by omega), hlv]
  rfl

theorem EnAt.setWr (h : EnAt w L E) {a x : Int} (ha : I64 a) (hn : E.nw ≤ 1000000) :
    ∃ w', (Instr.mapUpdate 69 (.map (some L.wb)) (.int .i64 a) (.int .i64 x)).run Tryz.prog w = .ok () w' ∧ EnAt w' L { E with wr := updT E.wr a (some x), nw := E.nw + 1 } ∧ KeptO L.own L.own w w' := by
  obtain ⟨w', hr, hI, hg⟩ := h.wr.store Tryz.underlying69 (by unfold maxLen; omega) ha (.int .i64 x)
  rw [show updT (fun k => (E.wr k).map (Value.int .i64)) a (some (.int .i64 x)) = fun k => (updT E.wr a (some x) k).map (Value.int .i64) from (updT_map E.wr a (some x)).symm] at hI
  have hb : ∀ g, g < w.heap.size → g ≠ L.wb → w'.heap[g]? = w.heap[g]? := fun g hg' hne => hg.block g hg' (fun e => hne (by injection e))
  obtain ⟨ρ, T⟩ := h.tag
  have hk : ∀ g, L.own g → ρ g ≠ .wr → w'.heap[g]? = w.heap[g]? := fun g hg' hn => hb g (h.own_lt hg') (fun e => hn (by rw [e]; exact T.wr))
  refine ⟨w', hr, ⟨h.sto.kept (hk _ (.inl rfl) (by rw [T.eng]; exact nofun)) (fun g hg => hk g (.inr (.inl hg)) (by rw [T.srow g hg]; exact nofun)),
    h.loc.same (fun g hg => hk g (.inr (.inr (.inl hg))) (by
      by_cases hgs : g = L.s
      · rw [hgs, T.eng]; exact nofun
      · rw [T.lock g hg hgs]; exact nofun)), h.good, h.mem, owns_same h.all (fun g hg => hk g (.inr (.inr (.inr (.inl hg)))) (by rw [T.all g hg]; exact nofun)), h.len, h.le, hI,
    owns_same h.com (fun g hg => hk g (.inr (.inr (.inr (.inr (.inr (.inl hg)))))) (by rw [T.com g hg]; exact nofun)), h.coml,
    fun i l t hl ht => (h.txs i l t hl ht).same (fun g hg => hk g (TxL.own_in hl hg) (by rw [T.tx i l g hl hg]; exact nofun)), ρ, T⟩, ?_⟩
  exact ⟨hg.os, hg.tape, hg.output, hg.size, fun g hg' hn => hb g hg' (fun e => hn (e ▸ .inr (.inr (.inr (.inr (.inl rfl)))))), fun g hg => .inl hg⟩

theorem EnAt.addCom (h : EnAt w L E) {i : Nat} {l : TxL} (hl : L.txs[i]? = some l) {w1 : World} {gg cap m : Nat} (hm : E.com.length = m)
    (hown : w1.ownsRow 0 179 1 (.slice (some ⟨gg, 0, none⟩) (m + 1) cap) (m + 1) ((E.com.map fun i => ptrV (L.bs[i]?.getD 0)) ++ [.pointer (some ⟨l.b, 0, none⟩)]))
    (hos : w1.os = w.os ∧ w1.tape = w.tape ∧ w1.output = w.output) (hsz : w.heap.size ≤ w1.heap.size) (hb : ∀ g, g < w.heap.size → L.cv.ownBlock ≠ some g → w1.heap[g]? = w.heap[g]?) (hat : L.cv.ownBlock = some gg ∨ w.heap.size ≤ gg) :
    EnAt (w1.setCell ⟨L.s, 16, none⟩ (.slice (some ⟨gg, 0, none⟩) (m + 1) cap)) { L with cv := .slice (some ⟨gg, 0, none⟩) (m + 1) cap } { E with com := E.com ++ [i] } ∧
      KeptO L.own ({ L with cv := .slice (some ⟨gg, 0, none⟩) (m + 1) cap } : EnL).own w (w1.setCell ⟨L.s, 16, none⟩ (.slice (some ⟨gg, 0, none⟩) (m + 1) cap)) := by
  obtain ⟨ρ, T⟩ := h.tag
  have hsl := h.sto.lt
  have hcs : L.cv.ownBlock ≠ some L.s := fun e => by have h1 := T.com _ e; rw [T.eng] at h1; cases h1
  have hgs : gg ≠ L.s := by
    rcases hat with h1 | h1
    · exact fun e => hcs (e ▸ h1)
    · omega
  have hblk := setCell_at (o := 16) (v := .slice (some ⟨gg, 0, none⟩) (m + 1) cap) ((hb L.s hsl hcs).trans h.sto.blk)
  rw [P_set16 L E.last h.lv] at hblk
  have ho : ∀ g, g ≠ L.s → (w1.setCell ⟨L.s, 16, none⟩ (.slice (some ⟨gg, 0, none⟩) (m + 1) cap)).heap[g]? = w1.heap[g]? := fun g hg => heap_setCell_other _ ⟨L.s, 16, none⟩ g _ hg
  have hk : ∀ g, L.own g → ρ g ≠ .eng → ρ g ≠ .com → (w1.setCell ⟨L.s, 16, none⟩ (.slice (some ⟨gg, 0, none⟩) (m + 1) cap)).heap[g]? = w.heap[g]? := fun g hg h1 h2 =>
    (ho g (fun e => h1 (by rw [e]; exact T.eng))).trans (hb g (h.own_lt hg) (fun e => h2 (T.com g e)))
  have hi : i < E.txs.length := by have := (List.getElem?_eq_some_iff.1 hl).1; have := h.len; omega
  refine ⟨⟨h.sto.reblk hblk (fun g hg => hk g (.inr (.inl hg)) (by rw [T.srow g hg]; exact nofun) (by rw [T.srow g hg]; exact nofun)),
    h.loc.reblk (C' := ({ L with cv := .slice (some ⟨gg, 0, none⟩) (m + 1) cap } : EnL).C E.last) (hblk.trans (by rw [← EnL.cells_eq]; rfl)) (fun g hg hne => hk g (.inr (.inr (.inl hg))) (by rw [T.lock g hg hne]; exact nofun) (by rw [T.lock g hg hne]; exact nofun)), h.good, h.mem,
    owns_same h.all (fun g hg => hk g (.inr (.inr (.inr (.inl hg)))) (by rw [T.all g hg]; exact nofun) (by rw [T.all g hg]; exact nofun)), h.len, h.le,
    h.wr.same (hk _ (.inr (.inr (.inr (.inr (.inl rfl))))) (by rw [T.wr]; exact nofun) (by rw [T.wr]; exact nofun)), ?_, ?_,
    fun i l t hl ht => (h.txs i l t hl ht).same (fun g hg => hk g (TxL.own_in (L := L) hl hg) (by rw [T.tx i l g hl hg]; exact nofun) (by rw [T.tx i l g hl hg]; exact nofun)), fun g => if g < w.heap.size then ρ g else .com, ?_⟩, ?_⟩
  · rw [show (({ E with com := E.com ++ [i] } : Eng).com).length = m + 1 from by simp [hm], show (({ E with com := E.com ++ [i] } : Eng).com.map fun i => ptrV (({ L with cv := .slice (some ⟨gg, 0, none⟩) (m + 1) cap } : EnL).bs[i]?.getD 0)) = (E.com.map fun i => ptrV (L.bs[i]?.getD 0)) ++ [.pointer (some ⟨l.b, 0, none⟩)] from by
      show (E.com ++ [i]).map (fun i => ptrV (L.bs[i]?.getD 0)) = _
      rw [List.map_append, List.map_singleton, bs_get hl]
      rfl]
    exact owns_same hown (fun g hg => ho g (by
      have : gg = g := by simpa [Value.ownBlock] using hg
      rw [← this]; exact hgs))
  · intro j hj
    rcases List.mem_append.1 hj with h1 | h1
    · exact h.coml j h1
    · rw [List.mem_singleton.1 h1]; exact hi
  · have hlt : ∀ g, L.own g → (if g < w.heap.size then ρ g else Tag.com) = ρ g := fun g hg => if_pos (h.own_lt hg)
    refine ⟨(hlt _ (.inl rfl)).trans T.eng, fun g hg => (hlt g (.inr (.inl hg))).trans (T.srow g hg), fun g hg hn => (hlt g (.inr (.inr (.inl hg)))).trans (T.lock g hg hn), fun g hg => (hlt g (.inr (.inr (.inr (.inl hg))))).trans (T.all g hg), (hlt _ (.inr (.inr (.inr (.inr (.inl rfl)))))).trans T.wr,
      fun g hg => ?_, fun j m g hm hg => (hlt g (TxL.own_in (L := L) hm hg)).trans (T.tx j m g hm hg)⟩
    have hgg : gg = g := by simpa [Value.ownBlock] using hg
    subst hgg
    rcases hat with h1 | h1
    · exact (hlt gg (.inr (.inr (.inr (.inr (.inr (.inl h1))))))).trans (T.com gg h1)
    · simp only [if_neg (Nat.not_lt.2 h1)]
  · refine ⟨hos.1, hos.2.1, hos.2.2, by simpa using hsz, fun g hg hn => (ho g (fun e => hn (.inl e))).trans (hb g hg (fun e => hn (.inr (.inr (.inr (.inr (.inr (.inl e)))))))), fun g hg => ?_⟩
    rcases hg with h1 | h1 | h1 | h1 | h1 | h1 | h1
    · exact .inl (.inl h1)
    · exact .inl (.inr (.inl h1))
    · exact .inl (.inr (.inr (.inl h1)))
    · exact .inl (.inr (.inr (.inr (.inl h1))))
    · exact .inl (.inr (.inr (.inr (.inr (.inl h1)))))
    · have hgg : gg = g := by simpa [Value.ownBlock] using h1
      subst hgg
      rcases hat with h2 | h2
      · exact .inl (.inr (.inr (.inr (.inr (.inr (.inl h2))))))
      · exact .inr h2
    · exact .inl (.inr (.inr (.inr (.inr (.inr (.inr h1))))))

end Go.Proofs.YtjefgmeejhakbaaGreatDoor

/- Plain: the line by counting who is ahead. -/
namespace Go.Proofs.YtjefgmeejhakbaaGreatDoor

def cntP (E : List (Int × Int)) (left : List Int) (x : Int) : Nat := E.countP (fun e => e.2 == x && left.contains e.1)
theorem cnt_free {E : List (Int × Int)} {left : List Int} {x : Int} : cntP E left x = 0 ↔ freeB E left x = true := by
  unfold cntP freeB
  rw [List.countP_eq_zero, List.all_eq_true]
  constructor
  · intro h e he
    have := h e he
    cases hh : (e.2 == x && left.contains e.1) with
    | true => exact absurd hh this
    | false => rfl
  · intro h e he hh
    have := h e he
    rw [hh] at this
    cases this
theorem countP_or {α : Type} (p q : α → Bool) : ∀ l : List α, (∀ x ∈ l, ¬ (p x = true ∧ q x = true)) → l.countP (fun x => p x || q x) = l.countP p + l.countP q
  | [], _ => rfl
  | a :: r, h => by
    have ih := countP_or p q r (fun x hx => h x (List.mem_cons_of_mem _ hx))
    have ha := h a (by simp)
    simp only [List.countP_cons]
    rw [ih]
    cases hp : p a <;> cases hq : q a <;> simp_all <;> omega
theorem count_pair {E : List (Int × Int)} (hE : E.Nodup) (x y : Int) : E.countP (fun e => e.2 == y && e.1 == x) = if (x, y) ∈ E then 1 else 0 := by
  have e : E.countP (fun e => e.2 == y && e.1 == x) = E.count (x, y) := by
    unfold List.count
    congr 1
    funext ⟨a, b⟩
    show (b == y && a == x) = ((a, b) == (x, y))
    rw [Bool.eq_iff_iff]
    simp only [Bool.and_eq_true, beq_iff_eq, Prod.mk.injEq]
    exact ⟨fun h => ⟨h.2, h.1⟩, fun h => ⟨h.2, h.1⟩⟩
  rw [e, hE.count]
theorem cnt_out {E : List (Int × Int)} (hE : E.Nodup) {left : List Int} {x : Int} (hx : x ∈ left) (y : Int) : cntP E left y = cntP E (left.filter (fun z => z != x)) y + if (x, y) ∈ E then 1 else 0 := by
  rw [← count_pair hE x y]
  unfold cntP
  rw [← countP_or]
  · congr 1
    funext ⟨a, b⟩
    show (b == y && left.contains a) = (b == y && (left.filter (fun z => z != x)).contains a || b == y && a == x)
    rw [Bool.eq_iff_iff]
    simp only [Bool.and_eq_true, Bool.or_eq_true, beq_iff_eq, List.contains_iff_mem, List.mem_filter, bne_iff_ne, ne_eq]
    constructor
    · rintro ⟨h1, h2⟩
      by_cases e : a = x
      · exact .inr ⟨h1, e⟩
      · exact .inl ⟨h1, h2, e⟩
    · rintro (⟨h1, h2, _⟩ | ⟨h1, rfl⟩)
      · exact ⟨h1, h2⟩
      · exact ⟨h1, hx⟩
  · rintro ⟨a, b⟩ _ ⟨h1, h2⟩
    simp only [Bool.and_eq_true, beq_iff_eq, List.contains_iff_mem, List.mem_filter, bne_iff_ne, ne_eq] at h1 h2
    exact h1.2.2 h2.2

structure KS (E : List (Int × Int)) (left : List Int) (M : Int → Option Int) (q : List Int) : Prop where
  m : ∀ y, M y = if y ∈ left then some (cntP E left y : Int) else none
  mq : ∀ y, y ∈ q ↔ y ∈ left ∧ freeB E left y = true
  nq : q.Nodup
  nl : left.Nodup
  up : ∀ a b, (a, b) ∈ E → a ∈ left → b ∈ left
structure KI (E : List (Int × Int)) (left : List Int) (x : Int) (rem : List (Int × Int)) (M : Int → Option Int) (q : List Int) : Prop where
  m : ∀ y, M y = if y ∈ left then some ((cntP E left y : Int) + if (x, y) ∈ rem then 1 else 0) else none
  mq : ∀ y, y ∈ q ↔ y ∈ left ∧ freeB E left y = true ∧ (x, y) ∉ rem
  nq : q.Nodup
  nl : left.Nodup
  up : ∀ a b, (a, b) ∈ E → a ∈ left → b ∈ left
  nr : rem.Nodup
  mr : ∀ e ∈ rem, e.1 = x ∧ e ∈ E ∧ e.2 ∈ left

theorem KS.least {E : List (Int × Int)} {left : List Int} {M : Int → Option Int} {q : List Int} (h : KS E left M q) {x : Int} (hx : x ∈ q) (hl : ∀ y ∈ q, x ≤ y) : leastP (left.filter (freeB E left)) = some x :=
  least_of (List.mem_filter.2 ((h.mq x).1 hx)) (fun y hy => hl y ((h.mq y).2 (List.mem_filter.1 hy)))
theorem KS.stuck {E : List (Int × Int)} {left : List Int} {M : Int → Option Int} (h : KS E left M []) : leastP (left.filter (freeB E left)) = none := by
  rw [leastP_none, List.filter_eq_nil_iff]
  intro y hy hf
  have := (h.mq y).2 ⟨hy, hf⟩
  simp at this
theorem KS.take {E : List (Int × Int)} (hE : E.Nodup) (hne : ∀ a b, (a, b) ∈ E → a ≠ b) {left : List Int} {M : Int → Option Int} {q q' : List Int} (h : KS E left M q) {x : Int} (hq : q.Perm (x :: q')) {M' : Int → Option Int} (hM : ∀ y, M' y = if y = x then none else M y) :
    KI E (left.filter (fun z => z != x)) x (E.filter (fun e => e.1 == x)) M' q' := by
  have hxq : x ∈ q := hq.mem_iff.2 (by simp)
  obtain ⟨hxl, hxf⟩ := (h.mq x).1 hxq
  have hx0 : ∀ a, (a, x) ∈ E → a ∉ left := fun a ha hal => by
    have := List.all_eq_true.1 hxf (a, x) ha
    simp [hal] at this
  have hmem : ∀ y, (x, y) ∈ E.filter (fun e => e.1 == x) ↔ (x, y) ∈ E := fun y => by simp [List.mem_filter]
  have hml : ∀ y, y ∈ left.filter (fun z => z != x) ↔ y ∈ left ∧ y ≠ x := fun y => by simp [List.mem_filter]
  have hnq := hq.nodup_iff.1 h.nq
  refine ⟨fun y => ?_, fun y => ?_, (List.nodup_cons.1 hnq).2, h.nl.sublist List.filter_sublist, fun a b hab ha => ?_, hE.sublist List.filter_sublist, fun e he => ?_⟩
  · rw [hM y]
    by_cases e : y = x
    · rw [if_pos e, if_neg (fun hh => ((hml y).1 hh).2 e)]
    · rw [if_neg e, h.m y]
      by_cases hy : y ∈ left
      · rw [if_pos hy, if_pos ((hml y).2 ⟨hy, e⟩), cnt_out hE hxl y]
        congr 1
        by_cases hp : (x, y) ∈ E
        · rw [if_pos hp, if_pos ((hmem y).2 hp)]; simp
        · rw [if_neg hp, if_neg (fun hh => hp ((hmem y).1 hh))]; simp
      · rw [if_neg hy, if_neg (fun hh => hy ((hml y).1 hh).1)]
  · have h1 : y ∈ q' ↔ y ∈ q ∧ y ≠ x := by
      rw [hq.mem_iff, List.mem_cons]
      constructor
      · intro hy
        exact ⟨.inr hy, fun e => (List.nodup_cons.1 hnq).1 (e ▸ hy)⟩
      · rintro ⟨h1 | h1, h2⟩
        · exact (h2 h1).elim
        · exact h1
    rw [h1, h.mq y, hml, hmem, ← cnt_free, ← cnt_free, cnt_out hE hxl y]
    by_cases hp : (x, y) ∈ E
    · simp [hp]
    · simp only [hp, if_false, Nat.add_zero, not_false_eq_true, and_true]
      constructor
      · rintro ⟨⟨a, b⟩, c⟩; exact ⟨⟨a, c⟩, b⟩
      · rintro ⟨⟨a, c⟩, b⟩; exact ⟨⟨a, b⟩, c⟩
  · obtain ⟨ha1, ha2⟩ := (hml a).1 ha
    exact (hml b).2 ⟨h.up a b hab ha1, fun e => hx0 a (e ▸ hab) ha1⟩
  · obtain ⟨h1, h2⟩ := List.mem_filter.1 he
    obtain ⟨a, b⟩ := e
    simp only [beq_iff_eq] at h2
    subst h2
    exact ⟨rfl, h1, (hml b).2 ⟨h.up a b h1 hxl, fun e => hne a b h1 e.symm⟩⟩
theorem KI.done {E : List (Int × Int)} {left : List Int} {x : Int} {M : Int → Option Int} {q : List Int} (h : KI E left x [] M q) : KS E left M q :=
  ⟨fun y => by rw [h.m y]; simp, fun y => by rw [h.mq y]; simp, h.nq, h.nl, h.up⟩
theorem KI.at {E : List (Int × Int)} {left : List Int} {x v : Int} {rem : List (Int × Int)} {M : Int → Option Int} {q : List Int} (h : KI E left x ((x, v) :: rem) M q) : M v = some ((cntP E left v : Int) + 1) := by
  rw [h.m v, if_pos (h.mr (x, v) (by simp)).2.2]
  simp
theorem KI.step {E : List (Int × Int)} {left : List Int} {x v : Int} {rem : List (Int × Int)} {M M' : Int → Option Int} {q q' : List Int} (h : KI E left x ((x, v) :: rem) M q) (hM : ∀ y, M' y = if y = v then some (cntP E left v : Int) else M y)
    (hq : if cntP E left v = 0 then q'.Perm (v :: q) else q' = q) : KI E left x rem M' q' := by
  obtain ⟨_, hvE, hvl⟩ := h.mr (x, v) (by simp)
  obtain ⟨hn1, hn2⟩ := List.nodup_cons.1 h.nr
  have hvq : v ∉ q := fun hh => ((h.mq v).1 hh).2.2 (by simp)
  refine ⟨fun y => ?_, fun y => ?_, ?_, h.nl, h.up, hn2, fun e he => h.mr e (List.mem_cons_of_mem _ he)⟩
  · rw [hM y]
    by_cases e : y = v
    · subst e; rw [if_pos rfl, if_pos hvl, if_neg hn1]; simp
    · rw [if_neg e, h.m y]
      simp [e]
  · by_cases e : y = v
    · subst e
      by_cases hc : cntP E left y = 0
      · rw [if_pos hc] at hq
        rw [hq.mem_iff]
        simp [hvl, cnt_free.1 hc, hn1]
      · rw [if_neg hc] at hq
        subst hq
        have : freeB E left y ≠ true := fun hh => hc (cnt_free.2 hh)
        simp [this, hvq]
    · have h1 : y ∈ q' ↔ y ∈ q := by
        by_cases hc : cntP E left v = 0
        · rw [if_pos hc] at hq
          rw [hq.mem_iff]; simp [e]
        · rw [if_neg hc] at hq
          rw [hq]
      rw [h1, h.mq y]
      simp [e]
  · by_cases hc : cntP E left v = 0
    · rw [if_pos hc] at hq
      exact hq.nodup_iff.2 (List.nodup_cons.2 ⟨hvq, h.nq⟩)
    · rw [if_neg hc] at hq
      rw [hq]; exact h.nq

def onceP : List Int → List Int
  | [] => []
  | a :: r => if a ∈ onceP r then onceP r else a :: onceP r
theorem mem_once {x : Int} : ∀ l : List Int, x ∈ onceP l ↔ x ∈ l
  | [] => by simp [onceP]
  | a :: r => by
    rw [onceP]
    by_cases e : a ∈ onceP r
    · rw [if_pos e, mem_once r, List.mem_cons]
      constructor
      · exact .inr
      · rintro (rfl | h)
        · exact (mem_once r).1 e
        · exact h
    · rw [if_neg e, List.mem_cons, List.mem_cons, mem_once r]
theorem nodup_once : ∀ l : List Int, (onceP l).Nodup
  | [] => by simp [onceP]
  | a :: r => by
    rw [onceP]
    by_cases e : a ∈ onceP r
    · rw [if_pos e]; exact nodup_once r
    · rw [if_neg e]; exact List.nodup_cons.2 ⟨e, nodup_once r⟩
theorem once_length : ∀ l : List Int, (onceP l).length ≤ l.length
  | [] => Nat.le_refl _
  | a :: r => by
    have := once_length r
    rw [onceP]
    split <;> simp <;> omega
def txsP (l : List Opp) : List Int := onceP (l.map (fun o => o.1))
theorem mem_txs {l : List Opp} {x : Int} : x ∈ txsP l ↔ ∃ o ∈ l, o.1 = x := by
  unfold txsP
  rw [mem_once, List.mem_map]
theorem nodup_txs (l : List Opp) : (txsP l).Nodup := nodup_once _
theorem txs_length (l : List Opp) : (txsP l).length ≤ l.length := by have := once_length (l.map (fun o => o.1)); simpa [txsP] using this
theorem lineP_step {E : List (Int × Int)} {n : Nat} {left : List Int} {x : Int} (hx : x ∈ left) (h : leastP (left.filter (freeB E left)) = some x) : lineP E (n + 1) left = (lineP E n (left.filter (fun y => y != x))).map (fun r => x :: r) := by
  rw [lineP, if_neg (by intro e; rw [e] at hx; simp at hx), h]
theorem lineP_nil (E : List (Int × Int)) (n : Nat) : lineP E n [] = some [] := by
  cases n with
  | zero => rfl
  | succ n => rw [lineP, if_pos rfl]
theorem lineP_none {E : List (Int × Int)} {n : Nat} {left : List Int} (hn : left ≠ []) (h : leastP (left.filter (freeB E left)) = none) : lineP E (n + 1) left = none := by
  rw [lineP, if_neg hn, h]

end Go.Proofs.YtjefgmeejhakbaaGreatDoor

/- plain.Place, law.is and law.bare. -/
namespace Go.Proofs.YtjefgmeejhakbaaGreatDoor
open Go.RowKit Go.Extern.Stop Go.Stop Go.Extern

def ErrIs (w : World) (ev : Value) (c p : Int) : Prop :=
  (ev = .nilIface ∧ c = 0 ∧ p = -1) ∨ (ev = .iface 24 (.int .i64 c) ∧ p = -1) ∨
  ∃ pb, ev = .iface 216 (.pointer (some ⟨pb, 0, none⟩)) ∧ w.cell? ⟨pb, 0, none⟩ = some (.int .i64 c) ∧ w.cell? ⟨pb, 1, none⟩ = some (.int .i64 p)
theorem ErrIs.same {w w' : World} {ev : Value} {c p : Int} (h : ErrIs w ev c p) (hs : ∀ pb, ev = .iface 216 (.pointer (some ⟨pb, 0, none⟩)) → w'.heap[pb]? = w.heap[pb]?) : ErrIs w' ev c p := by
  rcases h with h | h | ⟨pb, h1, h2, h3⟩
  · exact .inl h
  · exact .inr (.inl h)
  · exact .inr (.inr ⟨pb, h1, (World.cell?_of_block (a := ⟨pb, 0, none⟩) (hs pb h1)).trans h2, (World.cell?_of_block (a := ⟨pb, 1, none⟩) (hs pb h1)).trans h3⟩)
theorem ErrIs.below {w w' : World} {ev : Value} {c p : Int} (h : ErrIs w ev c p) (hB : Below w.heap.size w w') : ErrIs w' ev c p := by
  rcases h with h | h | ⟨pb, h1, h2, h3⟩
  · exact .inl h
  · exact .inr (.inl h)
  · have hl := World.block_lt_of_cell? w _ h2
    exact .inr (.inr ⟨pb, h1, (hB.cell (p := ⟨pb, 0, none⟩) hl).trans h2, (hB.cell (p := ⟨pb, 1, none⟩) hl).trans h3⟩)

set_option maxHeartbeats 1000000 in
theorem tell_at (n : Int) (pb : Nat) (w : World) (hg : Handle w) (hp : w.cell? ⟨pb, 0, none⟩ = some (.int .i64 n)) : Calls Tryz.prog 93 #[.iface 216 (.pointer (some ⟨pb, 0, none⟩))] w fun e w' => e = .returned (.int .i64 n) ∧ Below w.heap.size w w' := by
  have hpos := hg.pos
  have hpl := World.block_lt_of_cell? w _ hp
  have hg1 : (w.alloc (.cells #[.int .i64 0] 24)).cell? ⟨0, 0, none⟩ = some (.iface 263 (.agg #[.pointer (some ⟨1, 33, none⟩)])) := (World.cell?_alloc_lt _ _ ⟨0, 0, none⟩ hpos).trans hg
  have hp1 : (w.alloc (.cells #[.int .i64 0] 24)).cell? ⟨pb, 0, none⟩ = some (.int .i64 n) := (World.cell?_alloc_lt _ _ ⟨pb, 0, none⟩ hpl).trans hp
  have HG := hid hg1
  have HP := hid hp1
  clear hg hg1 hp hp1
  go_enter Tryz.func93, Tryz.ntmps93
  go_wp2_with (go_at_call 149; refine (as_at n pb ⟨w.heap.size, 0, none⟩ (.int .i64 0) _ HP.out HG.out (cell_one_new w _ _ 0 _ rfl) (by simp)).mono ?_; rintro e w' ⟨rfl, rfl⟩)
  go_ret
  refine ⟨rfl, ?_⟩
  exact (((((Below.refl _ w).alloc (Nat.le_refl _) _).alloc (by simp) _).alloc (by simp; omega) _).alloc (by simp; omega) _).alloc (by simp; omega) _

theorem plAt71 (v : Value) (xT : TypeId) (w : World) : (Instr.typeAssert (.iface 216 v) xT 216 true).run Tryz.prog w = .ok (.tuple #[v, .bool true]) w := by kernel_rfl
theorem plAt38 (v : Value) (xT : TypeId) (w : World) : (Instr.typeAssert (.iface 24 v) xT 216 true).run Tryz.prog w = .ok (.tuple #[.pointer none, .bool false]) w := by kernel_rfl
theorem plNoUnwrap38 (v : Value) (xT : TypeId) (w : World) : (Instr.typeAssert (.iface 24 v) xT 230 true).run Tryz.prog w = .ok (.tuple #[.nilIface, .bool false]) w := run_typeAssert_lacksB Tryz.underlying230 (by kernel_rfl) (by kernel_rfl) v xT w

set_option maxRecDepth 100000 in
set_option maxHeartbeats 1000000 in
theorem place_nil (w : World) : Calls Tryz.prog 73 #[.nilIface] w fun e w' => e = .returned (.tuple #[.int .i64 0, .int .i64 (-1)]) ∧ Below w.heap.size w w' := by
  go_enter Tryz.func73, Tryz.ntmps73
  go_wp2_with (go_at_call 93; refine (tell_nil _).mono ?_; rintro e w' ⟨rfl, rfl⟩)
  refine wp_loop_rounds 1 ?_
  rw [rounds_succ]
  go_wp2
  go_ret2
  exact ⟨rfl, Below.refl _ _⟩

set_option maxRecDepth 100000 in
set_option maxHeartbeats 1000000 in
theorem place_errno (c : Int) (w : World) (hg : Handle w) : Calls Tryz.prog 73 #[.iface 24 (.int .i64 c)] w fun e w' => e = .returned (.tuple #[.int .i64 c, .int .i64 (-1)]) ∧ Below w.heap.size w w' := by
  have s1 := plNoUnwrap38
  have s2 := plAt38
  have HG := hid hg
  clear hg
  go_enter Tryz.func73, Tryz.ntmps73
  go_wp2_with (go_at_call 93; refine (tell_errno _ _ HG.out).mono ?_; rintro e w' ⟨rfl, hB⟩)
  refine wp_loop_rounds 1 ?_
  rw [rounds_succ]
  go_wp2
  go_ret2
  exact ⟨rfl, hB⟩

set_option maxRecDepth 100000 in
set_option maxHeartbeats 1000000 in
theorem place_at (c p : Int) (pb : Nat) (w : World) (hg : Handle w) (h0 : w.cell? ⟨pb, 0, none⟩ = some (.int .i64 c)) (h1 : w.cell? ⟨pb, 1, none⟩ = some (.int .i64 p)) : Calls Tryz.prog 73 #[.iface 216 (.pointer (some ⟨pb, 0, none⟩))] w fun e w' => e = .returned (.tuple #[.int .i64 c, .int .i64 p]) ∧ Below w.heap.size w w' := by
  have s2 := plAt71
  have HG := hid hg
  have hpl := World.block_lt_of_cell? w _ h0
  have H0 := hid h0
  clear hg h0
  go_enter Tryz.func73, Tryz.ntmps73
  go_wp2_with (go_at_call 93; refine (tell_at _ _ _ HG.out H0.out).mono ?_; rintro e w' ⟨rfl, hB⟩)
  have h1' := (hB.cell (p := ⟨pb, 1, none⟩) hpl).trans h1
  clear h1
  refine wp_loop_rounds 1 ?_
  rw [rounds_succ]
  go_wp2
  go_quiet (fail)
  go_wp2
  go_ret2
  exact ⟨rfl, below_drewN hB _⟩

theorem place_any {w : World} {ev : Value} {c p : Int} (h : ErrIs w ev c p) (hg : Handle w) : Calls Tryz.prog 73 #[ev] w fun e w' => e = .returned (.tuple #[.int .i64 c, .int .i64 p]) ∧ Below w.heap.size w w' := by
  rcases h with ⟨rfl, rfl, rfl⟩ | ⟨rfl, rfl⟩ | ⟨pb, rfl, h0, h1⟩
  · exact place_nil w
  · exact place_errno c w hg
  · exact place_at c p pb w hg h0 h1

set_option maxHeartbeats 1000000 in
theorem is_true (c p : Int) (ev : Value) (w : World) (h : ErrIs w ev c p) (hg : Handle w) : Calls Tryz.prog 14 #[ev, .agg #[.int .i64 c, .int .i64 p]] w fun e w' => e = .returned (.bool true) ∧ Below w.heap.size w w' := by
  have hal : Below w.heap.size w (w.alloc (.cells #[.int .i64 c, .int .i64 p] 26)) := (Below.refl _ _).alloc (Nat.le_refl _) _
  have H := hid (h.below hal)
  have HG := hid (hg.below hal hg.pos)
  have HA := hid hal
  clear h hg hal
  go_enter Tryz.func14, Tryz.ntmps14
  go_wp2_with fail
  refine (place_any H.out HG.out).mono ?_
  rintro e w1 ⟨rfl, hB⟩
  have hx := (hB.block w.heap.size (by simp)).trans (heap_alloc_new w (.cells #[.int .i64 c, .int .i64 p] 26))
  have c0 : w1.cell? ⟨w.heap.size, 0, none⟩ = some (.int .i64 c) := (cell_of_row _ _ 0 _ 26 (0, 0) hx).trans rfl
  have c1 : w1.cell? ⟨w.heap.size, 1, none⟩ = some (.int .i64 p) := (cell_of_row _ _ 1 _ 26 (0, 0) hx).trans rfl
  have HB := hid (HA.out.trans (hB.mono (by simp)))
  clear hx hB HA H HG
  go_wp2
  go_ret
  exact ⟨rfl, HB.out⟩

end Go.Proofs.YtjefgmeejhakbaaGreatDoor
