/- keep.DeskPieces answers true at every argument, and its arguments read as they read before: the row and its tied card. Condition: the library's variables (errors.errorType, strconv's, math/bits' and unicode/utf8's tables, strconv.ErrSyntax, strconv.ErrRange) start as the program's text lays them (the card ties them). -/
import Derived.Test.YtjefgmeejhakbabGreatDoorMgAD
import Derived.Test.YtjefgmeejhakbabGreatDoorMgBD
import Derived.Test.YtjefgmeejhakbabGreatDoorDpFactsC
import Derived.Conc.Holds
import Derived.Lay
import Derived.Lib.LaidTab
import Derived.SizedLaws
import Derived.ChangeMaps5
import Derived.SevenTiedAt
namespace Go.Proofs.YtjefgmeejhakbabGreatDoor
open Go.ChangeShapes Go.WideShapes Go.ChangeAt Go.RowKit Go.ChangeMaps
set_option maxRecDepth 100000 in
theorem iface_of_trod {W:World} {base fuel:Nat} {sp:Nat→Bool} {cs:List Value} {name:String} {d:DataW Unit} {p:List MemPlace}
  (h:DataW.trod (fun _=>()) Tryz.prog W base sp false fuel 27 cs=some (.iface name d,p)):∃ tp q,cs=[.iface tp q]:=by
 obtain⟨ms,ht⟩:∃ ms,Tryz.prog.underlying 27=some (.interface ms):=⟨_,Tryz.underlying27⟩
 cases fuel with
 | zero=>simp [DataW.trod] at h
 | succ fuel =>
  unfold DataW.trod at h
  rw [ht] at h
  split at h
  all_goals first
   | exact⟨_,_,rfl⟩
   | (exfalso;have e:=‹some (TypeDesc.interface ms)=some _›;injection e with e;cases e;done)
   | (exfalso;simp at h;done)
   | (exfalso;cases h;done)
def laid7:List (String × DataW Unit):=[("math/bits.deBruijn32tab",Rows.laid_math_bits_deBruijn32tab),("math/bits.deBruijn64tab",Rows.laid_math_bits_deBruijn64tab),("internal/strconv.uint64pow10",Rows.laid_internal_strconv_uint64pow10),("unicode/utf8.acceptRanges",Rows.laid_unicode_utf8_acceptRanges),("strconv.ErrRange",Rows.laid_strconv_ErrRange),("strconv.ErrSyntax",Rows.laid_strconv_ErrSyntax),("unicode/utf8.first",Rows.laid_unicode_utf8_first)]
theorem laid_split:(Rows.deskPiecesRow.laid.filter fun x=>x.2.handleName?.isNone)=laid7:=by rfl
theorem laid_handle:(Rows.deskPiecesRow.laid.filter fun x=>x.2.handleName?.isSome)=[("errors.errorType",Rows.laid_errors_errorType)]:=by rfl
theorem pow_tab:Rows.laid_internal_strconv_uint64pow10 (H:=Unit)=Lib.tabData .u64 Lib.pow10Tab:=by rfl
theorem lib_of_laid {W:World} (h:laidMetH Tryz.prog Rows.deskPiecesRow.laid W) (hz:9≤W.heap.size):LibAt W:=by
 unfold laidMetH at h
 rw [laid_handle,laid_split] at h
 obtain⟨h1,h2⟩:=h
 refine⟨handle_of_laid ⟨⟨[],rfl,List.nodup_nil,fun _ _ h=>(by cases h)⟩,h2⟩,?_,?_,?_,hz⟩
 all_goals obtain⟨ps,hv,_⟩:=h1
 all_goals obtain⟨_,_,_,_,_,_,_,_,_,_,⟨_,_,_,_,_,_,_,_,_,_,⟨g3,t3,cs3,f3,p3,q3,a3,b3,c3,d3,⟨_,_,_,_,_,_,_,_,_,_,⟨g5,t5,cs5,f5,p5,q5,a5,b5,c5,d5,⟨g6,t6,cs6,f6,p6,q6,a6,b6,c6,d6,_⟩,_⟩,_⟩,_⟩,_⟩,_⟩:=hv
 ·have e:Rows.laid_internal_strconv_uint64pow10 (H:=Unit)=Lib.tabData .u64 Lib.pow10Tab:=pow_tab
  rw [e] at d3
  have ht3:t3=372:=Option.some.inj (b3.symm.trans (by rw [← Option.some.inj ((show Tryz.prog.globalNamed "internal/strconv.uint64pow10"=some 6 by kernel_rfl).symm.trans a3)];kernel_rfl))
  subst ht3
  have hc:=Lib.cells_of_tab (n:=20) (e:=64) (k:=.u64) (by kernel_rfl) (by kernel_rfl) (by kernel_rfl) (by kernel_rfl) d3
  unfold Lib.TabIs
  rw [c3,← hc]
 ·have ht6:t6=27:=Option.some.inj (b6.symm.trans (by rw [← Option.some.inj ((show Tryz.prog.globalNamed "strconv.ErrSyntax"=some 4 by kernel_rfl).symm.trans a6)];kernel_rfl))
  subst ht6
  obtain⟨tp,q,hq⟩:=iface_of_trod (name:= "*errors.errorString") d6
  exact⟨tp,q,by rw [c6];exact congrArg some (Array.ext' hq)⟩
 ·have ht5:t5=27:=Option.some.inj (b5.symm.trans (by rw [← Option.some.inj ((show Tryz.prog.globalNamed "strconv.ErrRange"=some 5 by kernel_rfl).symm.trans a5)];kernel_rfl))
  subst ht5
  obtain⟨tp,q,hq⟩:=iface_of_trod (name:= "*errors.errorString") d5
  exact⟨tp,q,by rw [c5];exact congrArg some (Array.ext' hq)⟩
theorem room_of_shaped {W:World} (h:W.ShapedOpen Tryz.prog):9≤W.heap.size:=by
 have hz0:(((begin Tryz.prog (fun _ _=>0) default).world.heap[8]?).bind Obj.row?).isSome=true:=by kernel_rfl
 obtain⟨⟨zero,t⟩,hz⟩:=Option.isSome_iff_exists.1 hz0
 obtain⟨cs,hc,_⟩:=h.1 8 zero t (of_decide_eq_true (by kernel_rfl)) hz
 exact (Array.getElem?_eq_some_iff.1 hc).1
set_option maxRecDepth 100000 in
theorem pieces_contract (H:Type) (enc:TypeId × Value→H) (W:World) (base:Nat) (args:Array Value) (ds gs:List (DataW H)) (before:List MemPlace)
  (hval:∀ (j:Nat) t v,Tryz.f3.params[j]?=some t→args[j]?=some v→Value.okWide Tryz.prog W .any base t v)
  (hW:DataW.Whole enc Tryz.prog Tryz.f3.params.toList Rows.deskPiecesSpec.vars false W args.toList ds gs before)
  (hsz:(DataW.weightsEach Tryz.prog (Tryz.f3.params.toList++(OpenSpec.ofChange Rows.deskPiecesSpec).bare.plain.varTypes Tryz.prog) (ds++gs)).all (·≤reachBytes)=true)
  (hL:laidMetH Tryz.prog Rows.deskPiecesRow.laid W) (hsh:W.ShapedOpen Tryz.prog) :
  Calls Tryz.prog 3 args W fun e W'=>∃ v,e=.returned v∧Rows.deskPiecesSpec.post enc Tryz.prog Tryz.f3 false true false false W args v W':=by
 have hW':=hW
 obtain⟨p,q,hA0,hV,rfl,hfz,hnd⟩:=hW
 have hA:DataW.TrodAll enc Tryz.prog W 0 (fun _=>true) true Tryz.f3.params.toList args.toList ds p:=hA0
 rw [Tryz.params3] at hA hval
 obtain⟨v0,v1,d0,d1,p0,p1,rfl,rfl,rfl,h0,h1⟩:=trodAll_two hA
 obtain⟨rfl,rfl⟩:=trodVars_none hV
 obtain⟨s0,rfl,rfl,rfl,hs0⟩:=open_string Tryz.underlying9 (hval 0 9 v0 rfl rfl) h0
 obtain⟨s1,rfl,rfl,rfl,hs1⟩:=open_string Tryz.underlying9 (hval 1 9 v1 rfl rfl) h1
 have k0:=sized_string hsz (j:=0) (t:=9) (by rw [Tryz.params3];rfl) rfl
 have k1:=sized_string hsz (j:=1) (t:=9) (by rw [Tryz.params3];rfl) rfl
 have hr:=reachBytes_lt
 have hB:=lib_of_laid hL (room_of_shaped hsh)
 clear hA0
 simp only [List.append_nil] at hW'
 have walk:=pieces_any hB s0.data.toList s1.data.toList (by omega) (by omega)
 refine walk.mono fun e W' ⟨he,hB⟩=>?_
 subst he
 have e1:Rows.deskPiecesSpec.fn H ([.lit (.string s0.data.toList),.lit (.string s1.data.toList)]++[])={ results:=[.lit (.bool true)],args:=[.lit (.string s0.data.toList),.lit (.string s1.data.toList)] }:=by simp [Rows.deskPiecesSpec]
 refine⟨_,rfl,_,_,_,[],[],[],hW',?_,?_,?_,hB.frame _,fun h=>by cases h⟩
 ·rw [e1];exact trodAll_mk1 (shut_bool Tryz.underlying4 true)
 ·rw [e1];exact trodAll_mk2 (shut_string Tryz.underlying9 hs0) (shut_string Tryz.underlying9 hs1)
 ·rw [e1];rfl
noncomputable def handW (os:Os):World:={ World.holding Tryz.prog os ⟨#[],#[],[]⟩ with heap:=(World.holding Tryz.prog os ⟨#[],#[],[]⟩).heap.modify 0 fun | .cells _ t frozen=>.cells #[.iface 310 (.agg #[.pointer (some ⟨9,27,none⟩)])] t frozen | o=>o }
noncomputable def laidW (os:Os):World:=(handW os).layVars Tryz.prog laid7
set_option maxRecDepth 100000 in
theorem laid7_met (os:Os):laidMet Tryz.prog laid7 (laidW os):=by
 have e1:(laid7.filter fun x=>(laid7.map (·.1)).contains x.1)=laid7:=List.filter_eq_self.2 fun x hx=>List.contains_iff_mem.2 (List.mem_map.2 ⟨x,hx,rfl⟩)
 have e2:(laid7.filter fun x=>!(laid7.map (·.1)).contains x.1)=[]:=List.filter_eq_nil_iff.2 fun x hx=>by rw [List.contains_iff_mem.2 (List.mem_map.2 ⟨x,hx,rfl⟩)];simp
 exact laidMet_layVars (w0:=handW os) (laid7.map (·.1)) [] (by rw [e1];rfl) (by rw [e1];kernel_rfl) (by rw [e1];kernel_rfl) (by rw [e2];exact LaidIn.none)
theorem pieces_laid_met (os:Os):laidMetH Tryz.prog Rows.deskPiecesRow.laid ((laidW os).forCall (fun _ _=>0) ⟨#[],#[.string .empty,.string .empty],[]⟩).memory:=by
 refine laidMetH_of_parts ?_ ?_
 ·rw [laid_split]
  exact (laid7_met os).of_heap (by simp [World.memory,World.forCall,Input.heap])
 ·rw [laid_handle]
  kernel_rfl
theorem pieces_reads (os:Os) {H:Type} (enc:TypeId × Value→H):∃ places,DataW.whole enc Tryz.prog ((laidW os).forCall (fun _ _=>0) ⟨#[],#[.string .empty,.string .empty],[]⟩).memory Tryz.f3.params.toList Rows.deskPiecesSpec.vars false #[Value.string .empty,Value.string .empty].toList 8=some ([.lit (.string []),.lit (.string [])],[],places) :=
 ⟨[],by kernel_rfl⟩
theorem leaving_of_alone {P:Program} {last:Machine} {w:World} {t:Trace} (h:aloneAtReturn P last w t):leavingAtReturn P last w t :=
 ⟨h.2.1,⟨fun g hg=>⟨0,by have:=List.all_eq_true.1 h.1.1 g hg;show g.status=.finished;simpa using this⟩,h.1.2⟩,h.2.2⟩
theorem leaving_of_handed {a:Assume} {C:Checked} {os:Os} {f:FuncId} {r:Reach} {Pre:World→Array Value→Prop} {Post:World→Array Value→Value→World→Prop} (h:ReturnsInHanded a C os f r Pre Post):ReturnsInLeavingWide a C os f r Pre Post:=fun enter=>by
 obtain⟨h1,h2,h3,h4,h5⟩:=h enter
 refine⟨h1,h2,h3,h4,fun w tape i hf=>?_⟩
 obtain⟨n,v,w',r1,r2,r3,r4,⟨j,last,q1,q2,q3⟩,r5⟩:=h5 w tape i hf
 exact⟨n,v,w',r1,r2,r3,r4,⟨j,last,q1,q2,leaving_of_alone q3⟩,r5⟩
set_option maxRecDepth 100000 in
theorem pieces_lifted (os:Os) (started:os.Started) (H:Type) (enc:TypeId × Value→H) (F:Stop.Interp) :
  ReturnsInHanded {} Tryz.checked os 3 .any ((OpenSpec.ofChange Rows.deskPiecesSpec).preRow enc Tryz.prog Tryz.f3 Rows.deskPiecesRow.domain false Rows.deskPiecesRow.laid) (((OpenSpec.ofChange Rows.deskPiecesSpec).at F).post enc Tryz.prog Tryz.f3 false true false false):=by
 obtain⟨places,hx⟩:=pieces_reads os enc
 have hok:Input.okWideB Tryz.prog ((laidW os).forCall (fun _ _=>0) ⟨#[],#[.string .empty,.string .empty],[]⟩) 3 ⟨#[],#[.string .empty,.string .empty],[]⟩=true:=by kernel_rfl
 refine returnsInHanded_of_row (C:=Tryz.checked) (s:=OpenSpec.ofChange Rows.deskPiecesSpec) tryd_own started (by kernel_rfl) Tryz.func3
  ⟨laidW os,fun _ _=>0,⟨#[],#[.string .empty,.string .empty],[]⟩,(World.layVars_os _ _ _).trans rfl,World.shaped_of_ZipB (by kernel_rfl) (by kernel_rfl),rfl,(Input.okWide_of_okWideB hok).2,
   OpenSpec.preRow_of_cond 8 hx (by kernel_rfl) (fun k hk=>by cases hk) (by kernel_rfl) (pieces_laid_met os),by simp [Assume.holds]⟩ ?_
 intro W base args ds gs before hval hW _ _ hsz hL hsh _
 exact pieces_contract H enc W base args ds gs before hval hW hsz hL hsh
theorem deskPieces_said:Rows.DeskPiecesSaid :=
 OpenClaim.holds_of_wide_leaving 3 Tryz.f3 rfl rfl rfl rfl rfl rfl rfl ⟨rfl,rfl,rfl,rfl,rfl⟩ rfl rfl rfl rfl rfl pieces_named Tryz.func3 pieces_closed pieces_inst pieces_wrap
  (fun os started H enc _=>by rw [OpenClaim.pre_eq_preRow];exact leaving_of_handed (pieces_lifted os started H enc (fun _ _ _=>0)))
theorem pieces_plain (f:FuncId) (fn:Func) (hf:Tryz.pinned.checked.prog.funcNamed Rows.deskPiecesRow.func=some f) (hfn:Tryz.pinned.checked.prog.funcs[f]?=some fn) :
  true=Tryz.pinned.checked.prog.looks []∧∀ (j:Nat) t,fn.params[j]?=some t→Tryz.pinned.checked.prog.wantsStandIn t=false:=by
 obtain rfl:f=3:=Option.some.inj ((show Tryz.prog.funcNamed Rows.deskPiecesRow.func=some 3 by kernel_rfl).symm.trans hf) |>.symm
 obtain rfl:fn=Tryz.f3:=(Option.some.inj (Tryz.func3.symm.trans hfn)).symm
 refine⟨by kernel_rfl,fun j t ht=>?_⟩
 rw [Tryz.params3] at ht
 have hm:=Array.mem_of_getElem? ht
 have h2:t=9:=by simpa using hm
 rw [h2]
 exact (show Tryz.prog.wantsStandIn 9=false by kernel_rfl)
theorem deskPieces_holds:Rows.DeskPiecesCardSaid:=by
 have h6:Claim7.isSixth { stood:={ row:=Rows.deskPiecesRow,standIns:=[],harness:=(true,"7e8a2cbb87657b10c9fdf018a4aea7a7a81ec7abd1a8a3f544ca65b1ff7d156d"),looks:=true },kinds:=[] }=false:=by kernel_rfl
 have h1:=Claim7.tied_new_at .later [.data,.data,.data,.data,.handle,.sentinel,.sentinel,.pinned] true (Claim7.new_of_sixth deskPieces_said (true,"7e8a2cbb87657b10c9fdf018a4aea7a7a81ec7abd1a8a3f544ca65b1ff7d156d") true rfl ⟨rfl,rfl⟩ (by kernel_rfl) h6 pieces_plain) (by kernel_rfl)
 exact⟨h1,fun D hD=>(by cases hD),deskPieces_row_tie,fun h=>(by cases h),by kernel_rfl⟩
end Go.Proofs.YtjefgmeejhakbabGreatDoor
