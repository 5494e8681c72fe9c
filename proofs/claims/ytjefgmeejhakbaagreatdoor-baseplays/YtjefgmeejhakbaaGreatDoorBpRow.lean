/- law.BasePlays answers true at every argument, and its arguments read as they read before: the row and its tied card. Condition: the library's variable errors.errorType starts as the program's text lays it (the card ties it). -/
import Derived.Test.YtjefgmeejhakbaaGreatDoorMgAW
import Derived.Test.YtjefgmeejhakbaaGreatDoorBpWalk
namespace Go.Proofs.YtjefgmeejhakbaaGreatDoor
open Go.ChangeShapes Go.WideShapes Go.ChangeAt Go.RowKit
set_option maxRecDepth 100000 in
theorem bplays_contract (H:Type) (enc:TypeId × Value→H) (W:World) (base:Nat) (args:Array Value) (ds gs:List (DataW H)) (before:List MemPlace)
  (hval:∀ (j:Nat) t v,Tryz.f8.params[j]?=some t→args[j]?=some v→Value.okWide Tryz.prog W .any base t v)
  (hW:DataW.Whole enc Tryz.prog Tryz.f8.params.toList Rows.basePlaysSpec.vars false W args.toList ds gs before) (hL:laidMetH Tryz.prog Rows.basePlaysRow.laid W) :
  Calls Tryz.prog 8 args W fun e W'=>∃ v,e=.returned v∧Rows.basePlaysSpec.post enc Tryz.prog Tryz.f8 false true false false W args v W':=by
 have hW':=hW
 obtain⟨p,q,hA0,hV,rfl,hfz,hnd⟩:=hW
 have hA:DataW.TrodAll enc Tryz.prog W 0 (fun _=>true) true Tryz.f8.params.toList args.toList ds p:=hA0
 rw [Tryz.params8] at hA hval
 obtain⟨v0,v1,d0,d1,p0,p1,rfl,rfl,rfl,h0,h1⟩:=trodAll_two hA
 obtain⟨rfl,rfl⟩:=trodVars_none hV
 obtain⟨a,rfl,rfl,rfl,wa⟩:=open_int Tryz.underlying3 (hval 1 3 v1 rfl rfl) h1
 obtain⟨hd,m,hcap,rfl,hO1⟩:=open_lacts (hval 0 42 v0 rfl rfl) h0
 have hH:=handle_of_laid hL
 clear hA0
 simp only [List.append_nil] at hW'
 have hlt0:∀ x∈p0,x.block<W.heap.size:=fun x hx=>hW'.lt x hx
 have walk:Calls Tryz.prog 8 #[.slice hd m hcap,.int .i64 a] W fun e w'=>e=.returned (.bool true)∧Below W.heap.size W w':=by
  by_cases hn:80<m
  ·exact bplays_long hd m hcap a W hn
  ·exact bplays_walk hd m hcap a W (by omega) hO1 hH
 refine walk.mono fun e W' ⟨he,hB⟩=>?_
 subst he
 have e1:Rows.basePlaysSpec.fn H ([d0,.lit (.int .i64 a)]++[])={ results:=[.lit (.bool true)],args:=[d0,.lit (.int .i64 a)] }:=by simp [Rows.basePlaysSpec]
 refine⟨_,rfl,_,_,_,[],p0++[],[],by simpa using hW',?_,?_,?_,hB.frame _,fun h=>by cases h⟩
 ·rw [e1];exact trodAll_mk1 (shut_bool Tryz.underlying4 true)
 ·rw [e1];exact trodAll_mk2 (Below.trod tryd_laidOut (by kernel_rfl) (of_decide_eq_true (by kernel_rfl)) h0 hB hlt0) (shut_int Tryz.underlying3 wa)
 ·rw [e1];rfl
theorem bplays_laid_met (os:Os):laidMetH Tryz.prog Rows.basePlaysRow.laid (({ World.holding Tryz.prog os ⟨#[],#[],[]⟩ with heap:=(World.holding Tryz.prog os ⟨#[],#[],[]⟩).heap.modify 0 fun | .cells _ t frozen=>.cells #[.iface 263 (.agg #[.pointer (some ⟨1,33,none⟩)])] t frozen | o=>o }:World).forCall (fun _ _=>0) ⟨#[],#[.slice none 0 0,.int .i64 0],[]⟩).memory :=
 laidMetH_of_parts (laidMet_nil _ _) (by kernel_rfl)
theorem bplays_reads (os:Os) {H:Type} (enc:TypeId × Value→H):∃ places,DataW.whole enc Tryz.prog (({ World.holding Tryz.prog os ⟨#[],#[],[]⟩ with heap:=(World.holding Tryz.prog os ⟨#[],#[],[]⟩).heap.modify 0 fun | .cells _ t frozen=>.cells #[.iface 263 (.agg #[.pointer (some ⟨1,33,none⟩)])] t frozen | o=>o }:World).forCall (fun _ _=>0) ⟨#[],#[.slice none 0 0,.int .i64 0],[]⟩).memory Tryz.f8.params.toList Rows.basePlaysSpec.vars false #[Value.slice none 0 0,.int .i64 0].toList 8=some ([.nil,.lit (.int .i64 0)],[],places) :=
 ⟨[],by kernel_rfl⟩
set_option maxRecDepth 100000 in
theorem bplays_lifted (os:Os) (started:os.Started) (H:Type) (enc:TypeId × Value→H) (F:Stop.Interp) :
    ReturnsInHanded {} Tryz.checked os 8 .any ((OpenSpec.ofChange Rows.basePlaysSpec).preRow enc Tryz.prog Tryz.f8 Rows.basePlaysRow.domain false Rows.basePlaysRow.laid) (((OpenSpec.ofChange Rows.basePlaysSpec).at F).post enc Tryz.prog Tryz.f8 false true false false):=by
  obtain⟨places,hx⟩:=bplays_reads os enc
  refine returnsInHanded_of_row (C:=Tryz.checked) (s:=OpenSpec.ofChange Rows.basePlaysSpec) tryd_own started (by kernel_rfl) Tryz.func8
    (witness_row_at (enc:=enc) (C:=Tryz.checked) false { World.holding Tryz.prog os ⟨#[],#[],[]⟩ with heap:=(World.holding Tryz.prog os ⟨#[],#[],[]⟩).heap.modify 0 fun | .cells _ t frozen=>.cells #[.iface 263 (.agg #[.pointer (some ⟨1,33,none⟩)])] t frozen | o=>o } #[.slice none 0 0,.int .i64 0] rfl (by kernel_rfl) (by kernel_rfl) (by kernel_rfl)
      (OpenSpec.preRow_of_cond 8 hx (by kernel_rfl) (fun k hk=>by cases hk) (by kernel_rfl) (bplays_laid_met os))) ?_
  intro W base args ds gs before hval hW _ _ _ hL _ _
  exact bplays_contract H enc W base args ds gs before hval hW hL
theorem basePlays_said:Rows.BasePlaysSaid :=
 OpenClaim.holds_of_cond 8 Tryz.f8 rfl rfl rfl rfl rfl rfl rfl ⟨rfl,rfl,rfl,rfl,rfl⟩ rfl rfl rfl rfl rfl (by kernel_rfl) Tryz.func8 (by kernel_rfl)
  (of_decide_eq_true (by kernel_rfl)) (by unfold Func.isWrapper;first | (rw [if_pos (by decide +kernel)];kernel_rfl) | (rw [if_neg (by decide +kernel)];exact⟨rfl,rfl⟩))
  (fun os started H enc _ F=>by rw [OpenClaim.pre_eq_preRow];exact bplays_lifted os started H enc F)
theorem bplays_plain (f:FuncId) (fn:Func) (hf:Tryz.pinned.checked.prog.funcNamed Rows.basePlaysRow.func=some f) (hfn:Tryz.pinned.checked.prog.funcs[f]?=some fn) :
  true=Tryz.pinned.checked.prog.looks []∧∀ (j:Nat) t,fn.params[j]?=some t→Tryz.pinned.checked.prog.wantsStandIn t=false:=by
 obtain rfl:f=8:=Option.some.inj ((show Tryz.prog.funcNamed Rows.basePlaysRow.func=some 8 by kernel_rfl).symm.trans hf) |>.symm
 obtain rfl:fn=Tryz.f8:=(Option.some.inj (Tryz.func8.symm.trans hfn)).symm
 refine⟨by kernel_rfl,fun j t ht=>?_⟩
 rw [Tryz.params8] at ht
 have hm:=Array.mem_of_getElem? ht
 have h2:t=42∨t=3:=by simpa using hm
 rcases h2 with h2 | h2<;>rw [h2]
 ·exact (show Tryz.prog.wantsStandIn 42=false by kernel_rfl)
 ·exact (show Tryz.prog.wantsStandIn 3=false by kernel_rfl)
theorem basePlays_holds:Rows.BasePlaysCardSaid :=
 Claim7.holds_tied_plain_at .later [] _ _ _ _ basePlays_said (fun _ h=>by cases h) (by kernel_rfl) (fun _ h=>by cases h) basePlays_row_tie rfl ⟨rfl,rfl⟩ (by kernel_rfl) rfl bplays_plain (by kernel_rfl)
end Go.Proofs.YtjefgmeejhakbaaGreatDoor
