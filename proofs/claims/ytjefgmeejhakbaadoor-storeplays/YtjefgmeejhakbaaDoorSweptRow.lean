/- keep.StoreSwept answers true at every argument, and its arguments read as they read before: the row and its tied card. Condition: the library's variable errors.errorType starts as the program's text lays it (the card ties it). -/
import Derived.Test.YtjefgmeejhakbaaDoorRowBase
import Derived.Test.YtjefgmeejhakbaaDoorSwept
namespace Go.Proofs.YtjefgmeejhakbaaDoor
open Go.ChangeShapes Go.WideShapes Go.ChangeAt Go.RowKit

theorem tryd_cells31 : Tryd.prog.cellsOf 31 = 1 := by kernel_rfl
theorem tryd_cells64 : Tryd.prog.cellsOf 64 = 2 := by kernel_rfl
section
variable {H : Type} {enc : TypeId × Value → H}
/-- A list of writes that can be read. -/
theorem open_writes {W : World} {n : Nat} {u : Value} {x : DataW H × List MemPlace} (h : DataW.trod enc Tryd.prog W 0 (fun _ => true) true n 31 [u] = some x) : Inner W u := by
  rcases Go.Deep.open_slice_pairs Tryd.underlying31 Tryd.underlying64 tryd_cells64 rfl rfl tryd_cells3 tryd_cells3 h with ⟨e, _⟩ | ⟨a, len, cap, m, n', V0, V1, D0, D1, P0, P1, e, _, hl, _, hm, _, hx⟩
  · cases e
    exact ⟨none, 0, 0, rfl, fun j hj => by omega⟩
  · cases e
    refine ⟨some a, len, cap, rfl, fun j hj => ?_⟩
    have hm' : m = cap := by simpa using hm
    obtain ⟨h00, _⟩ := hx 0 (by omega)
    obtain ⟨b, off, rfl⟩ := addr_plain h00
    obtain ⟨h0, h1, t0, t1⟩ := hx j (by omega)
    rw [Addr.add_mid] at h0 h1
    obtain ⟨k, hk, _⟩ := DataW.trod_int Tryd.underlying3 t0
    obtain ⟨y, hy, _⟩ := DataW.trod_int Tryd.underlying3 t1
    rw [(List.cons.inj hk).1] at h0
    rw [(List.cons.inj hy).1] at h1
    exact ⟨b, off, k, y, rfl, h0, h1⟩

set_option maxRecDepth 100000 in
theorem open_lists {W : World} {base : Nat} {v : Value} {d : DataW H} {p : List MemPlace} (hv : Value.okWide Tryd.prog W .any base 60 v) (h : DataW.Trod enc Tryd.prog W 0 (fun _ => true) true 60 v d p) : ∃ ad n cap, v = .slice ad n cap ∧ Outer W ad n := by
  obtain ⟨ad, n, cap, rfl⟩ := okWide_slice Tryd.underlying60 hv
  refine ⟨ad, n, cap, rfl, ?_⟩
  obtain ⟨fuel, hf⟩ := h
  rcases Go.Deep.open_slice1 Tryd.underlying60 tryd_cells31 hf with ⟨e, _⟩ | ⟨a, len, cp, m, n', V, D, Pl, e, _, hl, _, hm, _, hx⟩
  · simp [Value.cells] at e
    obtain ⟨rfl, rfl, rfl⟩ := e
    intro i hi
    omega
  · simp [Value.cells] at e
    obtain ⟨rfl, rfl, rfl⟩ := e
    intro i hi
    have hm' : m = cap := by simpa using hm
    obtain ⟨h00, _⟩ := hx 0 (by omega)
    obtain ⟨b, off, rfl⟩ := addr_plain h00
    obtain ⟨hc, ht⟩ := hx i (by omega)
    rw [Addr.add_mid] at hc
    exact ⟨b, off, V i, rfl, hc, open_writes ht⟩
end

set_option maxRecDepth 100000 in
theorem swept_contract (H : Type) (enc : TypeId × Value → H) (W : World) (base : Nat) (args : Array Value) (ds gs : List (DataW H)) (before : List MemPlace)
    (hval : ∀ (j : Nat) t v, Tryd.f4.params[j]? = some t → args[j]? = some v → Value.okWide Tryd.prog W .any base t v)
    (hW : DataW.Whole enc Tryd.prog Tryd.f4.params.toList Rows.storeSweptSpec.vars false W args.toList ds gs before) (hL : laidMetH Tryd.prog Rows.storeSweptRow.laid W) :
    Calls Tryd.prog 4 args W fun e W' => ∃ v, e = .returned v ∧ Rows.storeSweptSpec.post enc Tryd.prog Tryd.f4 false true false false W args v W' := by
  have hW' := hW
  obtain ⟨p, q, hA0, hV, rfl, hfz, hnd⟩ := hW
  have hA : DataW.TrodAll enc Tryd.prog W 0 (fun _ => true) true Tryd.f4.params.toList args.toList ds p := hA0
  rw [Tryd.params4] at hA hval
  obtain ⟨v0, v1, v2, v3, d0, d1, d2, d3, p0, p1, p2, p3, rfl, rfl, rfl, h0, h1, h2, h3⟩ := trodAll_four hA
  obtain ⟨rfl, rfl⟩ := trodVars_none hV
  obtain ⟨a, rfl, rfl, rfl, wa⟩ := open_int Tryd.underlying3 (hval 1 3 v1 rfl rfl) h1
  obtain ⟨b, rfl, rfl, rfl, wb⟩ := open_int Tryd.underlying3 (hval 2 3 v2 rfl rfl) h2
  obtain ⟨c, rfl, rfl, rfl, wc⟩ := open_int Tryd.underlying3 (hval 3 3 v3 rfl rfl) h3
  obtain ⟨ad, n, cap, rfl, hO⟩ := open_lists (hval 0 60 v0 rfl rfl) h0
  have hH := handle_of_laid hL
  clear hA0
  simp only [List.append_nil] at hW'
  have hlt : ∀ x ∈ p0, x.block < W.heap.size := fun x hx => hW'.lt x hx
  have walk : Calls Tryd.prog 4 #[.slice ad n cap, .int .i64 a, .int .i64 b, .int .i64 c] W fun e w' => e = .returned (.bool true) ∧ Below W.heap.size W w' := by
    by_cases hn : 40 < n
    · exact swept_long ad n cap a b c W hn
    · exact swept_walk ad n cap a b c W (by omega) hO hH
  refine walk.mono fun e W' ⟨he, hB⟩ => ?_
  subst he
  have e1 : Rows.storeSweptSpec.fn H ([d0, .lit (.int .i64 a), .lit (.int .i64 b), .lit (.int .i64 c)] ++ []) = { results := [.lit (.bool true)], args := [d0, .lit (.int .i64 a), .lit (.int .i64 b), .lit (.int .i64 c)] } := by simp [Rows.storeSweptSpec]
  refine ⟨_, rfl, _, _, _, [], p0 ++ ([] ++ ([] ++ [])), [], hW', ?_, ?_, ?_, hB.frame _, fun h => by cases h⟩
  · rw [e1]; exact trodAll_mk1 (shut_bool Tryd.underlying4 true)
  · rw [e1]; exact trodAll_mk4 (Below.trod tryd_laidOut (by kernel_rfl) (of_decide_eq_true (by kernel_rfl)) h0 hB hlt) (shut_int Tryd.underlying3 wa) (shut_int Tryd.underlying3 wb) (shut_int Tryd.underlying3 wc)
  · rw [e1]; rfl

/- The witness' world is written out: the settled one, the listed variable laid. -/
theorem swept_laid_met (os : Os) : laidMetH Tryd.prog Rows.storeSweptRow.laid (({ World.holding Tryd.prog os ⟨#[], #[], []⟩ with heap := (World.holding Tryd.prog os ⟨#[], #[], []⟩).heap.modify 0 fun | .cells _ t frozen => .cells #[.iface 174 (.agg #[.pointer (some ⟨1, 36, none⟩)])] t frozen | o => o } : World).forCall (fun _ _ => 0) ⟨#[], #[.slice none 0 0, .int .i64 0, .int .i64 0, .int .i64 0], []⟩).memory :=
  laidMetH_of_parts (laidMet_nil _ _) (by kernel_rfl)
theorem swept_reads (os : Os) {H : Type} (enc : TypeId × Value → H) : ∃ places, DataW.whole enc Tryd.prog (({ World.holding Tryd.prog os ⟨#[], #[], []⟩ with heap := (World.holding Tryd.prog os ⟨#[], #[], []⟩).heap.modify 0 fun | .cells _ t frozen => .cells #[.iface 174 (.agg #[.pointer (some ⟨1, 36, none⟩)])] t frozen | o => o } : World).forCall (fun _ _ => 0) ⟨#[], #[.slice none 0 0, .int .i64 0, .int .i64 0, .int .i64 0], []⟩).memory Tryd.f4.params.toList Rows.storeSweptSpec.vars false #[Value.slice none 0 0, .int .i64 0, .int .i64 0, .int .i64 0].toList 8 = some ([.nil, .lit (.int .i64 0), .lit (.int .i64 0), .lit (.int .i64 0)], [], places) :=
  ⟨[], by kernel_rfl⟩

set_option maxRecDepth 100000 in
theorem swept_lifted (os : Os) (started : os.Started) (H : Type) (enc : TypeId × Value → H) (F : Stop.Interp) :
    ReturnsInHanded {} Tryd.checked os 4 .any ((OpenSpec.ofChange Rows.storeSweptSpec).preRow enc Tryd.prog Tryd.f4 Rows.storeSweptRow.domain false Rows.storeSweptRow.laid) (((OpenSpec.ofChange Rows.storeSweptSpec).at F).post enc Tryd.prog Tryd.f4 false true false false) := by
  obtain ⟨places, hx⟩ := swept_reads os enc
  refine returnsInHanded_of_row (C := Tryd.checked) (s := OpenSpec.ofChange Rows.storeSweptSpec) tryd_own started (by kernel_rfl) Tryd.func4
    (witness_row_at (enc := enc) (C := Tryd.checked) false { World.holding Tryd.prog os ⟨#[], #[], []⟩ with heap := (World.holding Tryd.prog os ⟨#[], #[], []⟩).heap.modify 0 fun | .cells _ t frozen => .cells #[.iface 174 (.agg #[.pointer (some ⟨1, 36, none⟩)])] t frozen | o => o } #[.slice none 0 0, .int .i64 0, .int .i64 0, .int .i64 0] rfl (by kernel_rfl) (by kernel_rfl) (by kernel_rfl)
      (OpenSpec.preRow_of_cond 8 hx (by kernel_rfl) (fun k hk => by cases hk) (by kernel_rfl) (swept_laid_met os))) ?_
  intro W base args ds gs before hval hW _ _ _ hL _ _
  exact swept_contract H enc W base args ds gs before hval hW hL

theorem storeSwept_said : Rows.StoreSweptSaid :=
  OpenClaim.holds_of_cond 4 Tryd.f4 rfl rfl rfl rfl rfl rfl rfl ⟨rfl, rfl, rfl, rfl, rfl⟩ rfl rfl rfl rfl rfl (by kernel_rfl) Tryd.func4 (by kernel_rfl)
    (of_decide_eq_true (by kernel_rfl)) (by unfold Func.isWrapper; first | (rw [if_pos (by decide +kernel)]; kernel_rfl) | (rw [if_neg (by decide +kernel)]; exact ⟨rfl, rfl⟩))
    (fun os started H enc _ F => by rw [OpenClaim.pre_eq_preRow]; exact swept_lifted os started H enc F)

theorem swept_plain (f : FuncId) (fn : Func) (hf : Tryd.pinned.checked.prog.funcNamed Rows.storeSweptRow.func = some f) (hfn : Tryd.pinned.checked.prog.funcs[f]? = some fn) :
    true = Tryd.pinned.checked.prog.looks [] ∧ ∀ (j : Nat) t, fn.params[j]? = some t → Tryd.pinned.checked.prog.wantsStandIn t = false := by
  obtain rfl : f = 4 := Option.some.inj ((show Tryd.prog.funcNamed Rows.storeSweptRow.func = some 4 by kernel_rfl).symm.trans hf) |>.symm
  obtain rfl : fn = Tryd.f4 := (Option.some.inj (Tryd.func4.symm.trans hfn)).symm
  refine ⟨by kernel_rfl, fun j t ht => ?_⟩
  rw [Tryd.params4] at ht
  have hm := Array.mem_of_getElem? ht
  have h2 : t = 60 ∨ t = 3 := by simpa using hm
  rcases h2 with h2 | h2 <;> rw [h2]
  · exact (show Tryd.prog.wantsStandIn 60 = false by kernel_rfl)
  · exact (show Tryd.prog.wantsStandIn 3 = false by kernel_rfl)

theorem storeSwept_holds : Rows.StoreSweptCardSaid :=
  Claim7.holds_tied_plain_at .later [] _ _ _ _ storeSwept_said (fun _ h => by cases h) (by kernel_rfl) (fun _ h => by cases h) storeSwept_row_tie rfl ⟨rfl, rfl⟩ (by kernel_rfl) rfl swept_plain (by kernel_rfl)

end Go.Proofs.YtjefgmeejhakbaaDoor
