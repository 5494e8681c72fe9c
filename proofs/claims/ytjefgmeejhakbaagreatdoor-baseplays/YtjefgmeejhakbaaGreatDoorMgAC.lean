/- RowBase LawActs AnyFix FxActs FxActsB FxBegin FxWrite FxRead FxAny FxOver LaOver FxSame FxTell: put together for a claim. -/
import Derived.Test.YtjefgmeejhakbaaGreatDoorCards
import Derived.Test.YtjefgmeejhakbaaGreatDoorTie
import Derived.Test.YtjefgmeejhakbaaGreatDoorMgAB
import Derived.ProofKit
import Derived.OpenShut
import Derived.Carry
import Derived.Deep.Slices
import Derived.Deep.SlicePairs
import Derived.Deep.DeepHandedRow
import Derived.LaidLaws
import Derived.LaidHandle
import Derived.Test.YtjefgmeejhakbaaGreatDoorMgAV
import Derived.Test.YtjefgmeejhakbaaGreatDoorMgAU
import Derived.Test.YtjefgmeejhakbaaGreatDoorMgBD
import Derived.Test.YtjefgmeejhakbaaGreatDoorFePuts
import Derived.Test.YtjefgmeejhakbaaGreatDoorMgBA
import Derived.Test.YtjefgmeejhakbaaGreatDoorMgAX
import Derived.Test.YtjefgmeejhakbaaGreatDoorMgAS
import Derived.Test.YtjefgmeejhakbaaGreatDoorMgAR
import Derived.Test.YtjefgmeejhakbaaGreatDoorEnRead
import Derived.Test.YtjefgmeejhakbaaGreatDoorMgAH
import Derived.Test.YtjefgmeejhakbaaGreatDoorMgAJ
/- What the rows share: the listed variable. -/
namespace Go.Proofs.YtjefgmeejhakbaaGreatDoor
open Go.ChangeShapes Go.WideShapes Go.ChangeAt Go.RowKit
theorem tryd_own:ownKnob Tryz.prog.godebug=none:=by kernel_rfl
theorem tryd_laidOut:laidOutB Tryz.prog=true:=by kernel_rfl
theorem tryd_et:Tryz.prog.globalNamed "errors.errorType"=some 0:=by kernel_rfl
theorem tryd_rt:(Tryz.prog.cutTypes.find? (·.1== "internal/reflectlite.rtype")).map (·.2)=some 263:=by kernel_rfl
theorem tryd_oneRow:((List.range 364).filter fun t=>Tryz.prog.rowNamed t [101,114,114,111,114])=[33]:=by kernel_rfl
theorem tryd_size:Tryz.prog.types.size=364:=by kernel_rfl
theorem handle_of_laid {W:World} (h:laidMetH Tryz.prog [("errors.errorType",Rows.laid_errors_errorType)] W):Handle W:=by
 have h':laidMet Tryz.prog [] W∧handlesMet Tryz.prog [("errors.errorType",Rows.laid_errors_errorType)] W:=h
 obtain⟨name,u,ty,e1,e2,e3,e4,e5⟩:=h'.2 _ (List.mem_singleton.2 rfl)
 have en:name=[101,114,114,111,114]:=(Option.some.inj e1).symm
 subst en
 obtain rfl:=Option.some.inj (tryd_rt.symm.trans e2)
 have hm:ty∈(List.range 364).filter fun t=>Tryz.prog.rowNamed t [101,114,114,111,114]:=List.mem_filter.2 ⟨List.mem_range.2 (by rw [← tryd_size];exact e3),e4⟩
 rw [tryd_oneRow] at hm
 obtain rfl:=List.mem_singleton.1 hm
 have hh:typeHandle Tryz.prog 33=.pointer (some ⟨1,33,none⟩):=by kernel_rfl
 rw [hh] at e5
 simpa [Handle] using World.var?_cell tryd_et e5 0
theorem tryd_cells3:Tryz.prog.cellsOf 3=1:=by kernel_rfl
theorem addr_plain {w:World} {a:Addr} {v:Value} (h:w.cell? (a.add 0)=some v):∃ b off,a=⟨b,off,none⟩:=by
 obtain⟨b,off,sp⟩:=a
 cases sp with
 | none=>exact⟨b,off,rfl⟩
 | some s =>
  exfalso
  simp only [Addr.add,if_true,World.cell?,Option.isSome_some] at h
  split at h<;>simp at h
theorem i64_of_wf {a:Int} (h:(Lit.int .i64 a).wf=true):I64 a:=by
 simp [Lit.wf,IntKind.min,IntKind.max,IntKind.signed,IntKind.bits] at h
 unfold I64
 omega
end Go.Proofs.YtjefgmeejhakbaaGreatDoor
/- Acts, and writes, that came in: law's. -/
namespace Go.Proofs.YtjefgmeejhakbaaGreatDoor
open Go.RowKit
def LActsAt (W:World) (ad:Option Addr) (n:Nat):Prop:=∀ i,i<n→∃ (b off:Nat) (a0 a1 a2 a3:Int),ad=some ⟨b,off,none⟩∧I64 a2∧W.cell? ⟨b,off+i*4,none⟩=some (.int .i64 a0)∧W.cell? ⟨b,off+i*4+1,none⟩=some (.int .i64 a1)∧W.cell? ⟨b,off+i*4+2,none⟩=some (.int .i64 a2)∧W.cell? ⟨b,off+i*4+3,none⟩=some (.int .i64 a3)
def WsAt (W:World) (ad:Option Addr) (ws:List (Int × Int)):Prop:=ws≠[]→∃ b off,ad=some ⟨b,off,none⟩∧b<W.heap.size∧WRow W b off ws
end Go.Proofs.YtjefgmeejhakbaaGreatDoor
/- A region that draws its order, all of whose operations yield what is told beforehand: whatever order, the frame behind it is the same. -/
namespace Go.Proofs.YtjefgmeejhakbaaGreatDoor
open Go
def putF:List Tmp→Nat→(Nat→Value)→Array Value→Array Value
 | [],_,_,t=>t
 | d::r,j,f,t=>putF r (j+1) f (t.setIfInBounds d (f j))
theorem putF_size:∀ (l:List Tmp) (j:Nat) (f:Nat→Value) (t:Array Value),(putF l j f t).size=t.size
 | [],_,_,_=>rfl
 | d::r,j,f,t=>by rw [putF,putF_size r];simp
theorem putF_other:∀ (l:List Tmp) (j:Nat) (f:Nat→Value) (t:Array Value) (d:Tmp),d∉l→(putF l j f t).getD d undef=t.getD d undef
 | [],_,_,_,_,_=>rfl
 | e::r,j,f,t,d,h=>by
  rw [putF,putF_other r _ _ _ d (fun hp=>h (List.mem_cons_of_mem _ hp))]
  have hne:e≠d:=fun e'=>h (by rw [e'];exact List.mem_cons_self ..)
  simp only [Array.getD_eq_getD_getElem?]
  rw [Array.getElem?_setIfInBounds_ne hne]
theorem putF_at:∀ (l:List Tmp) (k:Nat) (f:Nat→Value) (t:Array Value) (j:Nat) (d:Tmp),l.Nodup→l[j]?=some d→d<t.size→(putF l k f t).getD d undef=f (k+j)
 | [],_,_,_,_,_,_,h,_=>by simp at h
 | e::r,k,f,t,0,d,hn,h,hd=>by
  simp only [List.getElem?_cons_zero,Option.some.injEq] at h
  subst h
  have hn':=List.nodup_cons.1 hn
  rw [putF,putF_other r _ _ _ e hn'.1]
  simp only [Array.getD_eq_getD_getElem?]
  rw [Array.getElem?_setIfInBounds_self_of_lt hd]
  rfl
 | e::r,k,f,t,j+1,d,hn,h,hd=>by
  rw [putF,putF_at r (k+1) f _ j d (List.nodup_cons.1 hn).2 (by simpa using h) (by simpa using hd)]
  congr 1
  omega
theorem getD_ext {s t:Array Value} (hs:s.size=t.size) (h:∀ d,d<t.size→s.getD d undef=t.getD d undef):s=t:=by
 refine Array.ext hs (fun i h1 h2=>?_)
 have:=h i h2
 simp only [Array.getD_eq_getD_getElem?] at this
 rw [Array.getElem?_eq_getElem h1,Array.getElem?_eq_getElem h2] at this
 simpa using this
structure FrAt (F:List Tmp) (p:Nat→Value→Prop) (listed:Array Bool) (a a':Act):Prop where
 done:∀ (j:Nat) (d:Tmp),F[j]?=some d→DoneAt listed j→p j (a'.tmps.getD d undef)
 other:∀ d:Tmp,d∉F→a'.tmps.getD d undef=a.tmps.getD d undef
section
variable {P:Program} {ops:Array Oper} {Q:Exit→Act→World→Prop}
def slotsB (ops:Array Oper) (F:List Tmp):Bool:=(ops.toList.map (·.dst))==F.map some
theorem region_fixed {id:Nat} {a:Act} {w:World} (hm:P.follows .mixedOrders=true) (F:List Tmp) (p:Nat→Value→Prop) (G:Array Bool→World→Prop) (hsl:slotsB ops F=true) (hap:apartB ops [] a.tmps.size=true) (hbk:backB ops=true)
    (hG:G (Array.replicate ops.size false) w.drew)
    (hstep:∀ (i:Nat) (o:Oper) (listed:Array Bool) (a':Act) (w':World),i<ops.size→ops[i]?=some o→listed.size=ops.size→ClosedAt ops listed→(∀ e∈o.after,Region.binds .any e=true→DoneAt listed e.on)→¬ DoneAt listed i→G listed w'→FrAt F p listed a a' →
      wpOp P ops Q i (fun a'' w''=>∃ v,a''=a'.put o.dst v∧p i v∧G (listed.setIfInBounds i true) w'') a' w')
    (hfin:∀ (f:Nat→Value) (listed:Array Bool) (w':World),(∀ i,i<ops.size→p i (f i))→(∀ i,i<ops.size→DoneAt listed i)→G listed w'→Q .normal { a with tmps:=putF F 0 f a.tmps } w'):(Code.region id ops true).wp P Q a w:=by
  have hsl':ops.toList.map (·.dst)=F.map some:=by simpa [slotsB] using hsl
  have hlen:F.length=ops.size:=by
    have:=congrArg List.length hsl'
    simpa using this.symm
  have hdst:∀ (j:Nat) (o:Oper),ops[j]?=some o→∃ d,F[j]?=some d∧o.dst=some d:=fun j o ho=>by
    have hj:j<ops.size:=(Array.getElem?_eq_some_iff.1 ho).1
    obtain⟨d,hp⟩:∃ d,F[j]?=some d:=⟨F[j],List.getElem?_eq_getElem (by omega)⟩
    refine⟨d,hp,?_⟩
    have h1:(ops.toList.map (·.dst))[j]?=some o.dst:=by rw [List.getElem?_map,Array.getElem?_toList,ho];rfl
    rw [hsl',List.getElem?_map,hp] at h1
    simpa using h1.symm
  have hFo:∀ (j:Nat) (d:Tmp),F[j]?=some d→∃ o,ops[j]?=some o∧o.dst=some d:=fun j d hj=>by
    have hjl:j<ops.size:=by have:=(List.getElem?_eq_some_iff.1 hj).1;omega
    obtain⟨d',h1,h2⟩:=hdst j ops[j] (Array.getElem?_eq_getElem hjl)
    rw [hj] at h1
    cases h1
    exact⟨ops[j],Array.getElem?_eq_getElem hjl,h2⟩
  have hap':=hap
  unfold apartB at hap'
  simp only [Bool.and_eq_true,decide_eq_true_eq,List.all_eq_true] at hap'
  obtain⟨hn,hd⟩:=hap'
  have hfm:ops.toList.filterMap (·.dst)=F:=by
    have h1:ops.toList.filterMap (·.dst)=(ops.toList.map (·.dst)).filterMap (fun x=>x):=by rw [List.filterMap_map];rfl
    rw [h1,hsl',List.filterMap_map]
    show F.filterMap some=_
    exact List.filterMap_some
  rw [hfm] at hn hd
  refine region_plan hm (fun j u _=>p j u) (fun listed a' w'=>G listed w'∧∀ d:Tmp,d∉F→a'.tmps.getD d undef=a.tmps.getD d undef) [] a.tmps.size hap hbk ⟨hG,fun _ _=>rfl⟩ (fun q hq=>by cases hq) rfl a.defers rfl ?_ ?_
  · intro i o listed a' w' hi ho hls hcl haft hnd hGG hL hF hsz
    obtain⟨d,h1,h2⟩:=hdst i o ho
    have hfr:FrAt F p listed a a':=⟨fun j d' hj hdn=>by
      obtain⟨o',ho',hd'⟩:=hFo j d' hj
      exact hL j o' d' ho' hd' hdn,hGG.2⟩
    refine wpOp_imp ?_ (hstep i o listed a' w' hi ho hls hcl haft hnd hGG.1 hfr)
    rintro a'' w'' ⟨v,rfl,h3,h4⟩
    refine⟨v,rfl,h3,⟨h4,fun d' hd'=>?_⟩,fun _ _ _ _ h=>h⟩
    rw [h2,getD_put_ne (fun e=>hd' (by rw [e];exact List.mem_of_getElem? h1))]
    exact hGG.2 d' hd'
  · intro listed a' w' hdn hGG hL hF hsz hdf
    have e:a'={ a with tmps:=putF F 0 (fun j=>a'.tmps.getD (F[j]?.getD 0) undef) a.tmps }:=by
      obtain⟨t',df⟩:=a'
      simp only at hsz hdf hGG
      subst hdf
      congr 1
      refine getD_ext (by rw [putF_size];exact hsz) (fun d hdl=>?_)
      rw [putF_size] at hdl
      by_cases hx:d∈F
      · obtain⟨j,hj,rfl⟩:=List.mem_iff_getElem.1 hx
        have hj':F[j]?=some F[j]:=List.getElem?_eq_getElem hj
        rw [putF_at F 0 _ _ j F[j] hn hj' hdl,Nat.zero_add,hj']
        rfl
      · rw [putF_other F _ _ _ d hx]
        exact hGG.2 d hx
    rw [e]
    refine hfin _ listed w' (fun i hi=>?_) hdn hGG.1
    obtain⟨d,h1,h2⟩:=hdst i ops[i] (Array.getElem?_eq_getElem hi)
    have:=hL i ops[i] d (Array.getElem?_eq_getElem hi) h2 (hdn i hi)
    simp only [h1,Option.getD_some]
    exact this
theorem wanted_of {o:Oper} {a:Act} {g dg:Nat} {b:Bool} {og:Oper} (hg:o.guard=some (g,b)) (hog:ops[g]?=some og) (hd:og.dst=some dg) (hv:a.tmps.getD dg undef=.bool b):Region.wanted o (yielded ops a.tmps)=true:=by
 have h1:a.tmps[dg]?=some (.bool b):=by
  cases h:a.tmps[dg]? with
  | none=>simp [Array.getD_eq_getD_getElem?,h,undef] at hv
  | some u=>simpa [Array.getD_eq_getD_getElem?,h] using hv
 simp [Region.wanted,hg,yielded,hog,hd,h1]
theorem wpOp_gval {i:Nat} {o:Oper} {a:Act} {w w':World} {v:Value} {K:Act→World→Prop} (ho:ops[i]?=some o) (hg:Region.wanted o (yielded ops a.tmps)=true) (hr:(execOp a.eval o).run P w=.ok (.value v) w') (h:K (a.put o.dst v) w'):wpOp P ops Q i K a w:=by
 unfold wpOp
 rw [ho]
 simp only
 rw [if_pos hg]
 left
 unfold Oper.wp
 rw [hr]
 exact h
theorem wpOp_call {i:Nat} {o:Oper} {a:Act} {w:World} {f:FuncId} {args:Array Value} {v:Value} {K:Act→World→Prop} {R:World→Prop} (ho:ops[i]?=some o) (hg:Region.wanted o (yielded ops a.tmps)=true) (hr:(execOp a.eval o).run P w=.ok (.enter f args) w) (hc:Calls P f args w fun e w''=>e=.returned v∧R w'') (h:∀ w'',R w''→K (a.put o.dst v) w''):wpOp P ops Q i K a w:=by
 unfold wpOp
 rw [ho]
 simp only
 rw [if_pos hg]
 left
 unfold Oper.wp
 rw [hr,Oper.upon_enter]
 refine hc.mono ?_
 rintro e w'' ⟨rfl,hR⟩
 exact h w'' hR
theorem wanted_none {o:Oper} {a:Act} (hg:o.guard=none):Region.wanted o (yielded ops a.tmps)=true:=by simp [Region.wanted,hg]
end
end Go.Proofs.YtjefgmeejhakbaaGreatDoor
/- Both engines, one act: what is left of them. -/
namespace Go.Proofs.YtjefgmeejhakbaaGreatDoor
open Go.RowKit
structure DuoOk (b0:Nat) (w:World) (L:EnL) (M:REnL) (B:Nat) (E:Eng):Prop where
 duo:Duo w L M B E E
 mid:Mid2 E.ce noQ
 low:∀ g,both L M g→b0≤g
 le:b0≤w.heap.size
 pos:0<b0
 hand:Handle w
def ActPost (b0:Nat) (L:EnL) (M:REnL) (B:Nat) (w w':World):Prop:=∃ L' M' E',DuoOk b0 w' L' M' B E'∧Below b0 w w'∧L'.s=L.s∧M'.R=M.R∧KeptO (both L M) (both L' M') w w'
section
variable {b0:Nat} {w w':World} {L L':EnL} {M M':REnL} {B B':Nat} {E E':Eng}
theorem both_not_new (h:DuoOk b0 w L M B E):¬ both L M w.heap.size:=fun hb=>by have:=h.duo.own_lt hb;omega
theorem both_not_0 (h:DuoOk b0 w L M B E):¬ both L M 0:=fun hb=>by have:=h.low 0 hb;have:=h.pos;omega
theorem Handle.kept {o o':Nat→Prop} (h:Handle w) (hK:KeptO o o' w w') (h0:¬ o 0):Handle w':=by
 have hp:=h.pos
 unfold Handle at h ⊢
 rw [World.cell?_of_block (a:=⟨0,0,none⟩) (hK.block 0 hp h0)]
 exact h
theorem DuoOk.post (h:DuoOk b0 w L M B E) (hp:DuoPost L M B' E' w w') (hM:Mid2 E'.ce noQ):ActPost b0 L M B' w w':=by
 obtain⟨L',M',h1,h2,h3,h4⟩:=hp
 have hle:=h.le
 have hsz:=h2.size
 refine⟨L',M',E',⟨h1,hM,fun g hg=>?_,by omega,h.pos,h.hand.kept h2 (both_not_0 h)⟩,⟨h2.os,h2.tape,h2.output,h2.size,fun g hg=>h2.block g (by omega) (fun hb=>by have:=h.low g hb;omega)⟩,h3,h4,h2⟩
 rcases h2.sub g hg with h5 | h5
 ·exact h.low g h5
 ·omega
theorem ActPost.mono (h:ActPost b0 L M B w w') (hB:B≤B'):ActPost b0 L M B' w w':=by
 obtain⟨L',M',E',a,b,c⟩:=h
 exact⟨L',M',E',⟨a.duo.mono hB,a.mid,a.low,a.le,a.pos,a.hand⟩,b,c⟩
theorem DuoPost.from {w1:World} (hB:Below w.heap.size w w1) (h:DuoPost L M B E w1 w'):DuoPost L M B E w w':=by
 obtain⟨L',M',a,b,c⟩:=h
 exact⟨L',M',a,(KeptO.of_below hB).trans b,c⟩
theorem second_hyps (h:DuoOk b0 w L M B E) {fE fR:FuncId} {aE aR:Array Value} {vE vR:Value} {box:Obj}
  (hE:∀ W,EnAt W L E→Handle W→Calls Tryz.prog fE aE W fun e w2=>e=.returned vE∧EnPost L E' W w2)
  (hR:∀ W,RefAt W M B E→Calls Tryz.prog fR aR W fun e w3=>e=.returned vR∧RefPost M B' E' W w3) :
  ∃ P Q:World→Prop,(∀ q,Calls Tryz.prog fE aE ((w.alloc box).drewN q) fun e w2=>e=.returned vE∧P w2)∧(∀ w2,P w2→Calls Tryz.prog fR aR w2 fun e w3=>e=.returned vR∧Q w3) ∧
   (∀ w2,P w2→w2.heap[w.heap.size]?=some box)∧(∀ w2,Q w2→w2.heap[w.heap.size]?=some box)∧(∀ w3,Q w3→Handle w3)∧(∀ w3,Q w3→DuoPost L M B' E' w w3):=by
 have hBx:∀ q,Below w.heap.size w ((w.alloc box).drewN q):=fun q=>below_drewN ((Below.refl _ w).alloc (Nat.le_refl _) _) q
 have hnew:∀ q,((w.alloc box).drewN q).heap[w.heap.size]?=some box:=fun q=>((below_drewN (Below.refl (w.alloc box).heap.size (w.alloc box)) q).block w.heap.size (by simp)).trans (heap_alloc_new w box)
 have hH:∀ q,Handle ((w.alloc box).drewN q):=fun q=>h.hand.kept (KeptO.of_below (o:=both L M) (hBx q)) (both_not_0 h)
 refine⟨fun w2=>∃ q,EnPost L E' ((w.alloc box).drewN q) w2,fun w3=>∃ q,DuoPost L M B' E' ((w.alloc box).drewN q) w3,fun q=>?_,fun w2 hP=>?_,fun w2 hP=>?_,fun w2 hQ=>?_,fun w3 hQ=>?_,fun w3 hQ=>?_⟩
 ·exact (hE _ (h.duo.below (hBx q)).en (hH q)).mono (fun e w2 hh=>⟨hh.1,q,hh.2⟩)
 ·obtain⟨q,hP⟩:=hP
  obtain⟨L',h1,h2,h3⟩:=(h.duo.below (hBx q)).engRef (B':=B') hP
  exact (hR w2 h1.rf).mono (fun e w3 hh=>⟨hh.1,q,h3 w3 hh.2⟩)
 ·obtain⟨q,L',a,b,c⟩:=hP
  rw [b.block w.heap.size ((Array.getElem?_eq_some_iff.1 (hnew q)).1) (fun hb=>both_not_new h (.inl hb))]
  exact hnew q
 ·obtain⟨q,L',M',a,b,c⟩:=hQ
  rw [b.block w.heap.size ((Array.getElem?_eq_some_iff.1 (hnew q)).1) (both_not_new h)]
  exact hnew q
 ·obtain⟨q,L',M',a,b,c⟩:=hQ
  exact (hH q).kept b (both_not_0 h)
 ·obtain⟨q,hQ⟩:=hQ
  exact hQ.from (hBx q)
theorem first_hyps (h:DuoOk b0 w L M B E) {fE fR:FuncId} {aE aR:Array Value} {vE vR:Value} {box:Obj}
  (hR:∀ W,RefAt W M B E→Calls Tryz.prog fR aR W fun e w3=>e=.returned vR∧RefPost M B' E' W w3)
  (hE:∀ W,EnAt W L E→Handle W→Calls Tryz.prog fE aE W fun e w2=>e=.returned vE∧EnPost L E' W w2) :
  ∃ P Q:World→Prop,(Calls Tryz.prog fR aR (w.alloc box) fun e w2=>e=.returned vR∧P w2)∧(∀ w2,P w2→w2.heap[w.heap.size]?=some box)∧(∀ w2,P w2→Calls Tryz.prog fE aE w2 fun e w3=>e=.returned vE∧Q w3) ∧
   (∀ w3,Q w3→Handle w3)∧(∀ w3,Q w3→DuoPost L M B' E' w w3):=by
 have hBx:Below w.heap.size w (w.alloc box):=(Below.refl _ w).alloc (Nat.le_refl _) _
 have hnew:=heap_alloc_new w box
 have hH:Handle (w.alloc box):=h.hand.kept (KeptO.of_below (o:=both L M) hBx) (both_not_0 h)
 refine⟨fun w2=>RefPost M B' E' (w.alloc box) w2,fun w3=>DuoPost L M B' E' (w.alloc box) w3,hR _ (h.duo.below hBx).rf,fun w2 hP=>?_,fun w2 hP=>?_,fun w3 hQ=>?_,fun w3 hQ=>hQ.from hBx⟩
 ·obtain⟨M',a,b,c⟩:=hP
  rw [b.block w.heap.size (Array.getElem?_eq_some_iff.1 hnew).1 (fun hb=>both_not_new h (.inr hb))]
  exact hnew
 ·obtain⟨M',h1,h2,h3⟩:=(h.duo.below hBx).refEng hP
  obtain⟨M2,a,b,c⟩:=hP
  exact (hE w2 h1.en (hH.kept b (fun hb=>both_not_0 h (.inr hb)))).mono (fun e w3 hh=>⟨hh.1,h3 w3 hh.2⟩)
 ·obtain⟨L',M',a,b,c⟩:=hQ
  exact hH.kept b (both_not_0 h)
end
end Go.Proofs.YtjefgmeejhakbaaGreatDoor
/- Both engines: Abort, Ready, Sweep and Begin, by law.does. -/
namespace Go.Proofs.YtjefgmeejhakbaaGreatDoor
open Go.RowKit
section
variable {b0:Nat} {w w':World} {L L':EnL} {M M':REnL} {B B':Nat} {E E':Eng} {i:Nat} {t:Tx}
theorem RefAt.fits (h:RefAt w M B E) (hB:B≤10000000):Fits E:=by
 obtain⟨R,_,h2⟩:=h
 exact h2.fits hB
theorem num_cases (E:Eng) (n:Int):(n<1∨(E.txs.length:Int)<n)∨∃ (i:Nat) (t:Tx),n=(i:Int)+1∧E.txs[i]?=some t:=by
 by_cases h:n<1∨(E.txs.length:Int)<n
 ·exact .inl h
 ·obtain⟨i,hi⟩:∃ i:Nat,n=(i:Int)+1:=⟨(n-1).toNat,by omega⟩
  have hl:i<E.txs.length:=by omega
  exact .inr ⟨i,E.txs[i],hi,List.getElem?_eq_getElem hl⟩
theorem EnPost.refl (h:EnAt w L E):EnPost L E w w:=⟨L,h,KeptO.refl _ _,rfl,rfl⟩
theorem fin_act {f:FuncId} {a:Array Value} (h:DuoOk b0 w L M B E) (hM:Mid2 E'.ce noQ) {Q:World→Prop} (hQ:∀ w3,Q w3→DuoPost L M B' E' w w3) (hc:Calls Tryz.prog f a w fun e w'=>e=.returned (.bool true)∧∃ w3,Q w3∧Below w3.heap.size w3 w') :
  Calls Tryz.prog f a w fun e w'=>e=.returned (.bool true)∧ActPost b0 L M B' w w':=by
 refine hc.mono ?_
 rintro e w' ⟨rfl,w3,h3,hB⟩
 exact⟨rfl,h.post ((hQ w3 h3).below hB) hM⟩
theorem act_abort (h:DuoOk b0 w L M B E) (hB:B≤10000000) (tx key val:Int) :
  Calls Tryz.prog 20 #[.pointer (some ⟨L.s,0,none⟩),.pointer (some ⟨M.R,0,none⟩),.agg #[.int .i64 4,.int .i64 tx,.int .i64 key,.int .i64 val]] w fun e w'=>e=.returned (.bool true)∧ActPost b0 L M B w w':=by
 have hfit:=h.duo.rf.fits hB
 rcases num_cases E tx with hn | ⟨i,t,rfl,ht⟩
 ·obtain⟨P,Q,a1,a2,a3,a4,a5,a6⟩:=second_hyps (B':=B) (E':=E) (box:=actB 4 tx key val) h (fun W hW _=>(abort_miss hW hn).mono (fun e w2 hh=>⟨hh.1,by rw [hh.2];exact EnPost.refl hW⟩)) (fun W hW=>(rabort_miss hW hn).mono (fun e w2 hh=>⟨hh.1,by rw [hh.2];exact RefPost.refl hW⟩))
  exact fin_act h h.mid a6 (does4 a1 a2 a3 a4 a5)
 ·cases hl:liveB t.state with
  | false =>
   obtain⟨P,Q,a1,a2,a3,a4,a5,a6⟩:=second_hyps (B':=B) (E':=E) (box:=actB 4 ((i:Int)+1) key val) h (fun W hW _=>(abort_over hW ht hl).mono (fun e w2 hh=>⟨hh.1,by rw [hh.2];exact EnPost.refl hW⟩)) (fun W hW=>(rabort_over hW ht hl).mono (fun e w2 hh=>⟨hh.1,by rw [hh.2];exact RefPost.refl hW⟩))
   exact fin_act h h.mid a6 (does4 a1 a2 a3 a4 a5)
  | true =>
   obtain⟨E',hE,hM,_,_⟩:=lose2_ok (why:=0) goes2_true h.mid ht hl trivial
   obtain⟨P,Q,a1,a2,a3,a4,a5,a6⟩:=second_hyps (B':=B) (E':=E') (box:=actB 4 ((i:Int)+1) key val) h (fun W hW _=>abort_main hW hfit ht hl hE) (fun W hW=>rabort_main (puts_ok 7).1 hW hB h.mid ht hl hE)
   exact fin_act h hM a6 (does4 a1 a2 a3 a4 a5)
theorem act_ready (h:DuoOk b0 w L M B E) (hB:B≤10000000) (tx key val:Int) :
  Calls Tryz.prog 20 #[.pointer (some ⟨L.s,0,none⟩),.pointer (some ⟨M.R,0,none⟩),.agg #[.int .i64 6,.int .i64 tx,.int .i64 key,.int .i64 val]] w fun e w'=>e=.returned (.bool true)∧ActPost b0 L M B w w':=by
 have shut:∀ c,Shut E tx c→Calls Tryz.prog 20 #[.pointer (some ⟨L.s,0,none⟩),.pointer (some ⟨M.R,0,none⟩),.agg #[.int .i64 6,.int .i64 tx,.int .i64 key,.int .i64 val]] w fun e w'=>e=.returned (.bool true)∧ActPost b0 L M B w w':=fun c hc=>by
  have e:(Value.iface 24 (.int .i64 c))=errV c:=by rcases hc with ⟨rfl,_⟩ | ⟨rfl,_⟩<;>rfl
  obtain⟨P,Q,a1,a2,a3,a4,a5,a6⟩:=second_hyps (B':=B) (E':=E) (box:=actB 6 tx key val) h (fun W hW _=>(ready_shut hW hc).mono (fun e w2 hh=>⟨hh.1,by rw [hh.2];exact EnPost.refl hW⟩)) (fun W hW=>(hW.ready_shut hc).mono (fun e w2 hh=>⟨hh.1,by rw [hh.2];exact RefPost.refl hW⟩))
  rw [e] at a1
  exact fin_act h h.mid a6 (does6 a1 a2 a3 a4 a5)
 rcases num_cases E tx with hn | ⟨i,t,rfl,ht⟩
 ·exact shut 7 (.inl ⟨rfl,hn⟩)
 ·by_cases hs:t.state=0
  ·have e:(if betB t.ahead t.behind=true then Value.iface 24 (.int .i64 13) else .nilIface)=errV (rdyE t):=by
    unfold rdyE
    split<;>rfl
   obtain⟨P,Q,a1,a2,a3,a4,a5,a6⟩:=second_hyps (B':=B) (E':=E) (box:=actB 6 ((i:Int)+1) key val) h (fun W hW _=>(ready_main hW ht hs).mono (fun e w2 hh=>⟨hh.1,by rw [hh.2];exact EnPost.refl hW⟩)) (fun W hW=>(hW.ready (by omega) ht hs).mono (fun e w2 hh=>⟨hh.1,by rw [hh.2];exact RefPost.refl hW⟩))
   rw [e] at a1
   exact fin_act h h.mid a6 (does6 a1 a2 a3 a4 a5)
  ·exact shut 6 (.inr ⟨rfl,i,t,rfl,ht,hs⟩)
theorem act_sweep (h:DuoOk b0 w L M B E) (hB:B≤10000000) (tx key val:Int) :
  Calls Tryz.prog 20 #[.pointer (some ⟨L.s,0,none⟩),.pointer (some ⟨M.R,0,none⟩),.agg #[.int .i64 5,.int .i64 tx,.int .i64 key,.int .i64 val]] w fun e w'=>e=.returned (.bool true)∧ActPost b0 L M B w w':=by
 have hfit:=h.duo.rf.fits hB
 obtain⟨P,Q,a1,a2,a3,a4,a5,a6⟩:=second_hyps (B':=B) (E':=sweepE E) (box:=actB 5 tx key val) h (fun W hW _=>sweepE_any hW hfit) (fun W hW=>rsweep_any hW (by omega))
 refine (does5 (a1 0) a2).mono ?_
 rintro e w' ⟨rfl,hQ⟩
 exact⟨rfl,h.post (a6 w' hQ) h.mid.sweep⟩
end
end Go.Proofs.YtjefgmeejhakbaaGreatDoor
/- Both engines: Begin, by law.does. -/
namespace Go.Proofs.YtjefgmeejhakbaaGreatDoor
open Go.RowKit
section
variable {b0:Nat} {w w':World} {L L':EnL} {M M':REnL} {B B':Nat} {E E':Eng} {i:Nat} {t:Tx}
def RefMild (M:REnL) (B:Nat) (E:Eng) (w w':World):Prop:=∃ M',RefAt w' M' B E∧KeptO M.own M'.own w w'∧M'.R=M.R
def EnMild (L:EnL) (E:Eng) (w w':World):Prop:=∃ L',EnAt w' L' E∧KeptO L.own L'.own w w'∧L'.s=L.s
theorem first_mild (h:DuoOk b0 w L M B E) {fE fR:FuncId} {aE aR:Array Value} {vE vR:Value} {box:Obj}
  (hR:∀ W,RefAt W M B E→Calls Tryz.prog fR aR W fun e w3=>e=.returned vR∧RefMild M B' E' W w3)
  (hE:∀ W,EnAt W L E→Handle W→Calls Tryz.prog fE aE W fun e w2=>e=.returned vE∧EnMild L E' W w2) :
  ∃ P Q:World→Prop,(Calls Tryz.prog fR aR (w.alloc box) fun e w2=>e=.returned vR∧P w2)∧(∀ w2,P w2→w2.heap[w.heap.size]?=some box)∧(∀ w2,P w2→Calls Tryz.prog fE aE w2 fun e w3=>e=.returned vE∧Q w3) ∧
   (∀ w3,Q w3→Handle w3)∧(∀ w3,Q w3→DuoPost L M B' E' w w3):=by
 have hBx:Below w.heap.size w (w.alloc box):=(Below.refl _ w).alloc (Nat.le_refl _) _
 have hnew:=heap_alloc_new w box
 have hH:Handle (w.alloc box):=h.hand.kept (KeptO.of_below (o:=both L M) hBx) (both_not_0 h)
 refine⟨fun w2=>RefMild M B' E' (w.alloc box) w2,fun w3=>DuoPost L M B' E' (w.alloc box) w3,hR _ (h.duo.below hBx).rf,fun w2 hP=>?_,fun w2 hP=>?_,fun w3 hQ=>?_,fun w3 hQ=>hQ.from hBx⟩
 ·obtain⟨M',a,b,c⟩:=hP
  rw [b.block w.heap.size (Array.getElem?_eq_some_iff.1 hnew).1 (fun hb=>both_not_new h (.inr hb))]
  exact hnew
 ·obtain⟨M',a,b,c⟩:=hP
  obtain⟨h1,k1⟩:=(h.duo.below hBx).ref a b
  refine (hE w2 h1.en (hH.kept b (fun hb=>both_not_0 h (.inr hb)))).mono (fun e w3 hh=>⟨hh.1,?_⟩)
  obtain⟨_,L',a2,b2,c2⟩:=hh
  obtain⟨h3,k3⟩:=h1.eng a2 b2
  exact⟨L',M',h3,k1.trans k3,c2,c⟩
 ·obtain⟨L',M',a,b,c⟩:=hQ
  exact hH.kept b (both_not_0 h)
theorem act_begin (h:DuoOk b0 w L M B E) (hB:B≤10000000) (tx key val:Int) :
  Calls Tryz.prog 20 #[.pointer (some ⟨L.s,0,none⟩),.pointer (some ⟨M.R,0,none⟩),.agg #[.int .i64 0,.int .i64 tx,.int .i64 key,.int .i64 val]] w fun e w'=>e=.returned (.bool true)∧ActPost b0 L M (B+1001) w w':=by
 by_cases hc:begC E key=0
 ·have hlv:key=0∨key=1∨key=2:=by
   unfold begC at hc
   by_cases h':key≠0∧key≠1∧key≠2
   ·rw [if_pos h'] at hc;cases hc
   ·omega
  have hn:¬ (key≠0∧key≠1∧key≠2):=by omega
  have hl:E.txs.length<200:=by
   unfold begC at hc
   rw [if_neg hn] at hc
   by_cases h':200≤E.txs.length
   ·rw [if_pos h'] at hc;cases hc
   ·omega
  have ho:E.ce.live<6:=by
   unfold begC at hc
   rw [if_neg hn,if_neg (by omega)] at hc
   by_cases h':6≤E.ce.live
   ·rw [if_pos h'] at hc;cases hc
   ·omega
  obtain⟨P,Q,a1,a2,a3,a4,a5⟩:=first_mild (B':=B+1001) (E':={ E with txs:=E.txs++[newTx key E.last] }) (box:=actB 0 tx key val) h (fun W hW=>(rbegin_ok hW hc (by omega)).mono (fun e w2 hh=>⟨hh.1,by
   obtain⟨_,L',b,x1,x2,x3,_⟩:=hh
   exact⟨L',x1,x2,x3⟩⟩)) (fun W hW _=>(begin_ok hW hlv hl (by rw [live_len];exact ho)).mono (fun e w2 hh=>⟨hh.1,by
   obtain⟨_,L',b,x1,x2,x3,_⟩:=hh
   exact⟨L',x1,x2,x3⟩⟩))
  exact fin_act h (h.mid.begin hlv hl ho) a5 (does0 (c:=0) a1 a2 a3 a4)
 ·have hE:∀ W,EnAt W L E→Calls Tryz.prog 51 #[.pointer (some ⟨L.s,0,none⟩),.int .i64 key] W fun e w'=>e=.returned (.tuple #[.int .i64 0,errV (begC E key)])∧Below W.heap.size W w':=fun W hW=>by
   unfold begC
   by_cases h1:key≠0∧key≠1∧key≠2
   ·rw [if_pos h1]
    exact (begin_arg h1.1 h1.2.1 h1.2.2).mono (fun e w2 hh=>⟨hh.1,by rw [hh.2];exact Below.refl _ _⟩)
   ·rw [if_neg h1]
    have hlv:key=0∨key=1∨key=2:=by omega
    by_cases h2:200≤E.txs.length
    ·rw [if_pos h2]
     exact (begin_full hW hlv h2).mono (fun e w2 hh=>⟨hh.1,by rw [hh.2];exact Below.refl _ _⟩)
    ·rw [if_neg h2]
     by_cases h3:6≤E.ce.live
     ·rw [if_pos h3]
      exact begin_limit hW hlv (by omega) (by rw [live_len];exact h3)
     ·exact (hc (by unfold begC;rw [if_neg h1,if_neg h2,if_neg h3])).elim
  obtain⟨P,Q,a1,a2,a3,a4,a5⟩:=first_mild (B':=B+1001) (E':=E) (box:=actB 0 tx key val) h (fun W hW=>(rbegin_no hW rfl hc).mono (fun e w2 hh=>⟨hh.1,by rw [hh.2];exact⟨M,hW.mono (by omega),KeptO.refl _ _,rfl⟩⟩)) (fun W hW _=>(hE W hW).mono (fun e w2 hh=>⟨hh.1,L,hW.below hh.2,KeptO.of_below hh.2,rfl⟩))
  exact fin_act h h.mid a5 (does0 a1 a2 a3 a4)
end
end Go.Proofs.YtjefgmeejhakbaaGreatDoor
/- Both engines: Write, by law.does. -/
namespace Go.Proofs.YtjefgmeejhakbaaGreatDoor
open Go.RowKit
section
variable {b0:Nat} {w w':World} {L L':EnL} {M M':REnL} {B B':Nat} {E E':Eng} {i:Nat} {t:Tx}
theorem act_write (h:DuoOk b0 w L M B E) (hB:B+5000≤10000000) (tx key val:Int) :
  Calls Tryz.prog 20 #[.pointer (some ⟨L.s,0,none⟩),.pointer (some ⟨M.R,0,none⟩),.agg #[.int .i64 2,.int .i64 tx,.int .i64 key,.int .i64 val]] w fun e w'=>e=.returned (.bool true)∧ActPost b0 L M (B+2000) w w':=by
 have hfit:=h.duo.rf.fits (by omega)
 have shut:∀ c,Shut E tx c→Calls Tryz.prog 20 #[.pointer (some ⟨L.s,0,none⟩),.pointer (some ⟨M.R,0,none⟩),.agg #[.int .i64 2,.int .i64 tx,.int .i64 key,.int .i64 val]] w fun e w'=>e=.returned (.bool true)∧ActPost b0 L M (B+2000) w w':=fun c hc=>by
  obtain⟨P,Q,a1,a2,a3,a4,a5⟩:=first_hyps (B':=B) (E':=E) (box:=actB 2 tx key val) h (fun W hW=>(rwrite_shut (key:=key) (val:=val) hW hc).mono (fun e w2 hh=>⟨hh.1,by rw [hh.2];exact RefPost.refl hW⟩)) (fun W hW _=>(write_shut (key:=key) (val:=val) hW hc).mono (fun e w2 hh=>⟨hh.1,by rw [hh.2];exact EnPost.refl hW⟩))
  exact (fin_act h h.mid a5 (does2 a1 a2 a3 a4)).mono (fun e w' hh=>⟨hh.1,hh.2.mono (by omega)⟩)
 rcases num_cases E tx with hn | ⟨i,t,rfl,ht⟩
 ·exact shut 7 (.inl ⟨rfl,hn⟩)
 ·by_cases hs:t.state=0
  ·have bad:∀ c:Int,(((key<0∨10≤key)∧c=2)∨((0≤key∧key<10)∧(val < -1099511627776∨1099511627776<val)∧c=1))→Calls Tryz.prog 20 #[.pointer (some ⟨L.s,0,none⟩),.pointer (some ⟨M.R,0,none⟩),.agg #[.int .i64 2,.int .i64 ((i:Int)+1),.int .i64 key,.int .i64 val]] w fun e w'=>e=.returned (.bool true)∧ActPost b0 L M (B+2000) w w':=fun c hc=>by
    obtain⟨P,Q,a1,a2,a3,a4,a5⟩:=first_hyps (B':=B) (E':=E) (box:=actB 2 ((i:Int)+1) key val) h (fun W hW=>(rwrite_bad (key:=key) (val:=val) (c:=c) hW ht hs hc).mono (fun e w2 hh=>⟨hh.1,by rw [hh.2];exact RefPost.refl hW⟩)) (fun W hW _=>(write_bad (key:=key) (val:=val) (c:=c) hW ht hs hc).mono (fun e w2 hh=>⟨hh.1,by rw [hh.2];exact EnPost.refl hW⟩))
    exact (fin_act h h.mid a5 (does2 a1 a2 a3 a4)).mono (fun e w' hh=>⟨hh.1,hh.2.mono (by omega)⟩)
   by_cases hk:0≤key∧key<10
   ·by_cases hv:-1099511627776≤val∧val≤1099511627776
    ·obtain⟨q,hq⟩:=h.mid.loc.good.rank
     obtain⟨R,hR,hM,_⟩:=write2_ok goes2_true h.mid ht hs hk hv hq trivial trivial (fun _ _ _ _=>trivial) (fun _ _ _ _ _ _=>trivial)
     obtain⟨P,Q,a1,a2,a3,a4,a5⟩:=first_hyps (B':=B+2000) (E':=R.2) (box:=actB 2 ((i:Int)+1) key val) h (fun W hW=>rwrite_main (puts_ok 7).1 (puts_ok 7).2.1 hW hB h.mid hq ht hs hk hv hR) (fun W hW _=>write_main hW hfit hq ht hs hk hv hR)
     exact fin_act h hM a5 (does2 a1 a2 a3 a4)
    ·exact bad 1 (.inr ⟨hk,by omega,rfl⟩)
   ·exact bad 2 (.inl ⟨by omega,rfl⟩)
  ·exact shut 6 (.inr ⟨rfl,i,t,rfl,ht,hs⟩)
end
end Go.Proofs.YtjefgmeejhakbaaGreatDoor
/- Both engines: Read and Commit, by law.does. -/
namespace Go.Proofs.YtjefgmeejhakbaaGreatDoor
open Go.RowKit
section
variable {b0:Nat} {w w':World} {L L':EnL} {M M':REnL} {B B':Nat} {E E':Eng} {i:Nat} {t:Tx}
theorem RefAt.readsB (h:RefAt w M B E) (ht:E.txs[i]?=some t) (hs:t.state≠3):t.reads.length≤B:=by
 obtain⟨R,_,hRel⟩:=h
 obtain⟨r,hr,hX⟩:=hRel.getR ht
 have h1:=(hRel.szR hr).1
 rw [hX.reads hs] at h1
 simpa [readOps] using h1
theorem RefAt.notMine (h:RefAt w M B E) (ht:E.txs[i]?=some t) (hs:t.state=0) (a:Int):E.wr a≠some ((i:Int)+1):=fun he=>by
 obtain⟨R,_,hRel⟩:=h
 obtain⟨j,e,h2⟩:=hRel.wrc a _ he
 have:j=i:=by omega
 rw [this,stE_some ht] at h2
 omega
theorem RefAt.comNw (h:RefAt w M B E):E.com.length≤200∧E.nw≤B∧0≤E.last∧E.last≤1099511627776:=by
 obtain⟨R,_,hRel⟩:=h
 obtain⟨N,_,_,z3,z4⟩:=hRel.sz
 have:=hRel.nw
 exact⟨hRel.comB,by omega,hRel.lb⟩
theorem act_read (h:DuoOk b0 w L M B E) (hB:B+30000≤10000000) (tx key val:Int) (hki:I64 key) :
  Calls Tryz.prog 20 #[.pointer (some ⟨L.s,0,none⟩),.pointer (some ⟨M.R,0,none⟩),.agg #[.int .i64 1,.int .i64 tx,.int .i64 key,.int .i64 val]] w fun e w'=>e=.returned (.bool true)∧ActPost b0 L M (B+30000) w w':=by
 have hfit:=h.duo.rf.fits (by omega)
 have shut:∀ c,Shut E tx c→Calls Tryz.prog 20 #[.pointer (some ⟨L.s,0,none⟩),.pointer (some ⟨M.R,0,none⟩),.agg #[.int .i64 1,.int .i64 tx,.int .i64 key,.int .i64 val]] w fun e w'=>e=.returned (.bool true)∧ActPost b0 L M (B+30000) w w':=fun c hc=>by
  obtain⟨P,Q,a1,a2,a3,a4,a5⟩:=first_hyps (B':=B) (E':=E) (box:=actB 1 tx key val) h (fun W hW=>(rread_shut (key:=key) hW hc).mono (fun e w2 hh=>⟨hh.1,by rw [hh.2];exact RefPost.refl hW⟩)) (fun W hW _=>(read_shut (key:=key) hW hc).mono (fun e w2 hh=>⟨hh.1,by rw [hh.2];exact EnPost.refl hW⟩))
  exact (fin_act h h.mid a5 (does1 a1 a2 a3 a4)).mono (fun e w' hh=>⟨hh.1,hh.2.mono (by omega)⟩)
 rcases num_cases E tx with hn | ⟨i,t,rfl,ht⟩
 ·exact shut 7 (.inl ⟨rfl,hn⟩)
 ·by_cases hs:t.state=0
  ·cases hv:t.vals key with
   | some v =>
    obtain⟨P,Q,a1,a2,a3,a4,a5⟩:=first_hyps (B':=B) (E':=E) (box:=actB 1 ((i:Int)+1) key val) h (fun W hW=>(rread_own hW (by omega) ht hs hv).mono (fun e w2 hh=>⟨hh.1,by rw [hh.2];exact RefPost.refl hW⟩)) (fun W hW _=>by
     obtain⟨l,hl,_⟩:=hW.get ht
     exact (read_own hW hl ht hs hki hv).mono (fun e w2 hh=>⟨hh.1,by rw [hh.2];exact EnPost.refl hW⟩))
    exact (fin_act h h.mid a5 (does1 (c:=0) a1 a2 a3 a4)).mono (fun e w' hh=>⟨hh.1,hh.2.mono (by omega)⟩)
   | none =>
    cases hb:keyB key with
    | false =>
     obtain⟨P,Q,a1,a2,a3,a4,a5⟩:=first_hyps (B':=B) (E':=E) (box:=actB 1 ((i:Int)+1) key val) h (fun W hW=>(rread_bad hW (by omega) ht hs hv hb).mono (fun e w2 hh=>⟨hh.1,by rw [hh.2];exact RefPost.refl hW⟩)) (fun W hW hH=>by
      obtain⟨l,hl,_⟩:=hW.get ht
      exact (read_bad hW hH hl ht hs hki hv hb).mono (fun e w2 hh=>⟨hh.1,L,hW.below hh.2,KeptO.of_below hh.2,rfl,rfl⟩))
     exact (fin_act h h.mid a5 (does1 (c:=2) a1 a2 a3 a4)).mono (fun e w' hh=>⟨hh.1,hh.2.mono (by omega)⟩)
    | true =>
     obtain⟨k,rfl,hk⟩:=keyB_nat hb
     obtain⟨R,hR,hM,_⟩:=read2_ok goes2_true h.mid ht hs (by omega) hv (fun _=>trivial) (fun _ _ _=>trivial) (fun _ _ _=>trivial)
     have hrb:=h.duo.rf.readsB ht (by omega)
     have hnm:=h.duo.rf.notMine ht hs
     obtain⟨P,Q,a1,a2,a3,a4,a5⟩:=first_hyps (B':=B+30000) (E':=R.2) (box:=actB 1 ((i:Int)+1) (k:Int) val) h (fun W hW=>by
      by_cases h0:t.level=0
      ·exact rread_loose hW hB ht hs hk hv hR h0
      ·exact rread_steady (puts_ok 7).1 hW hB h.mid ht hs hk hv hR h0) (fun W hW hH=>by
      obtain⟨l,hl,_⟩:=hW.get ht
      exact read_main hW hH hfit hl ht hs (by omega) hnm hk hv hR)
     exact fin_act h hM a5 (does1 a1 a2 a3 a4)
  ·exact shut 6 (.inr ⟨rfl,i,t,rfl,ht,hs⟩)
theorem act_commit (h:DuoOk b0 w L M B E) (hB:B+10000≤10000000) (tx key val:Int) :
  Calls Tryz.prog 20 #[.pointer (some ⟨L.s,0,none⟩),.pointer (some ⟨M.R,0,none⟩),.agg #[.int .i64 3,.int .i64 tx,.int .i64 key,.int .i64 val]] w fun e w'=>e=.returned (.bool true)∧ActPost b0 L M (B+10000) w w':=by
 have hfit:=h.duo.rf.fits (by omega)
 obtain⟨hcom,hnw,hl0⟩:=h.duo.rf.comNw
 have shut:∀ c,Shut E tx c→Calls Tryz.prog 20 #[.pointer (some ⟨L.s,0,none⟩),.pointer (some ⟨M.R,0,none⟩),.agg #[.int .i64 3,.int .i64 tx,.int .i64 key,.int .i64 val]] w fun e w'=>e=.returned (.bool true)∧ActPost b0 L M (B+10000) w w':=fun c hc=>by
  obtain⟨P,Q,a1,a2,a3,a4,a5,a6⟩:=second_hyps (B':=B) (E':=E) (box:=actB 3 tx key val) h (fun W hW _=>(commit_shut hW hc).mono (fun e w2 hh=>⟨hh.1,by rw [hh.2];exact EnPost.refl hW⟩)) (fun W hW=>(rcommit_shut hW hc).mono (fun e w2 hh=>⟨hh.1,by rw [hh.2];exact RefPost.refl hW⟩))
  exact (fin_act h h.mid a6 (does3 a1 a2 a3 a4 a5)).mono (fun e w' hh=>⟨hh.1,hh.2.mono (by omega)⟩)
 rcases num_cases E tx with hn | ⟨i,t,rfl,ht⟩
 ·exact shut 7 (.inl ⟨rfl,hn⟩)
 ·by_cases hs:t.state=0
  ·have hl:liveB t.state=true:=live_iff.2 (.inl hs)
   have hks:∀ l∈(installE E i).ks,l.length≤100000:=fun l hl'=>by
    unfold installE at hl'
    rw [ht] at hl'
    simp only at hl'
    split at hl'
    ·exact Nat.le_trans (hfit.len l hl') (by omega)
    ·obtain⟨j,hj,rfl⟩:=List.mem_iff_getElem.1 hl'
     obtain⟨R,_,hRel⟩:=h.duo.rf
     have hd:=hRel.doc.inst (t:=E.last+1) (by omega) (writesP_fine (t:=t) (fun k hk=>(h.mid.reg.fair i _ (cs_get ht)).vk k hk) (h.mid.fine ht))
     have h1:=hd.bound _ (List.getElem_mem hj)
     have h2:=hRel.keptB
     have h3:=addTo_length (E.last+1) (writesP t.vals) 10
     rw [List.length_append] at h1
     omega
   by_cases hb:Between t.ahead t.behind
   ·obtain⟨E',hE,hM,_,_⟩:=commit2_bad goes2_true h.mid ht hl hb trivial
    obtain⟨P,Q,a1,a2,a3,a4,a5,a6⟩:=second_hyps (B':=B) (E':=E') (box:=actB 3 ((i:Int)+1) key val) h (fun W hW _=>commit_main hW hfit ht hs (h.mid.fine ht) hl0 (by omega) (by omega) hks hE) (fun W hW=>rcommit_bad (puts_ok 7).1 hW (by omega) h.mid ht hs (betB_true.2 hb) hE)
    exact (fin_act h hM a6 (does3 a1 a2 a3 a4 a5)).mono (fun e w' hh=>⟨hh.1,hh.2.mono (by omega)⟩)
   ·obtain⟨E',hE,hM,_,_⟩:=commit2_ok goes2_true h.mid ht hl hb trivial
    obtain⟨P,Q,a1,a2,a3,a4,a5,a6⟩:=second_hyps (B':=B+10000) (E':=E') (box:=actB 3 ((i:Int)+1) key val) h (fun W hW _=>commit_main hW hfit ht hs (h.mid.fine ht) hl0 (by omega) (by omega) hks hE) (fun W hW=>rcommit_main (puts_ok 6).2.2 hW hB h.mid ht hs (betB_false hb) hE)
    exact fin_act h hM a6 (does3 a1 a2 a3 a4 a5)
  ·exact shut 6 (.inr ⟨rfl,i,t,rfl,ht,hs⟩)
end
end Go.Proofs.YtjefgmeejhakbaaGreatDoor
/- Both engines: whatever act, by law.does. -/
namespace Go.Proofs.YtjefgmeejhakbaaGreatDoor
open Go.RowKit
section
variable {b0:Nat} {w w':World} {L L':EnL} {M M':REnL} {B B':Nat} {E E':Eng}
theorem act_any (h:DuoOk b0 w L M B E) (hB:B+30000≤10000000) (wh tx key val:Int) (hk:I64 key) :
  Calls Tryz.prog 20 #[.pointer (some ⟨L.s,0,none⟩),.pointer (some ⟨M.R,0,none⟩),.agg #[.int .i64 wh,.int .i64 tx,.int .i64 key,.int .i64 val]] w fun e w'=>e=.returned (.bool true)∧ActPost b0 L M (B+30000) w w':=by
 by_cases h0:wh=0
 ·subst h0;exact (act_begin h (by omega) tx key val).mono (fun e w' hh=>⟨hh.1,hh.2.mono (by omega)⟩)
 by_cases h1:wh=1
 ·subst h1;exact act_read h hB tx key val hk
 by_cases h2:wh=2
 ·subst h2;exact (act_write h (by omega) tx key val).mono (fun e w' hh=>⟨hh.1,hh.2.mono (by omega)⟩)
 by_cases h3:wh=3
 ·subst h3;exact (act_commit h (by omega) tx key val).mono (fun e w' hh=>⟨hh.1,hh.2.mono (by omega)⟩)
 by_cases h4:wh=4
 ·subst h4;exact (act_abort h (by omega) tx key val).mono (fun e w' hh=>⟨hh.1,hh.2.mono (by omega)⟩)
 by_cases h5:wh=5
 ·subst h5;exact (act_sweep h (by omega) tx key val).mono (fun e w' hh=>⟨hh.1,hh.2.mono (by omega)⟩)
 by_cases h6:wh=6
 ·subst h6;exact (act_ready h (by omega) tx key val).mono (fun e w' hh=>⟨hh.1,hh.2.mono (by omega)⟩)
 refine (does_none (by omega)).mono ?_
 rintro e w' ⟨rfl,hB'⟩
 exact⟨rfl,h.post (((DuoPost.refl h.duo).below hB').mono (by omega)) h.mid⟩
end
end Go.Proofs.YtjefgmeejhakbaaGreatDoor
/- Both engines, fresh: how they are alike. -/
namespace Go.Proofs.YtjefgmeejhakbaaGreatDoor
open Go.RowKit
theorem rel0:Rel 0 eng0 reng0 where
 len:=rfl
 le:=by show 0≤200;omega
 tx:=fun i t r ht=>by simp [eng0] at ht
 last:=rfl
 T:=rfl
 good:=good0
 mem:=fun k x hx=>by simp [eng0] at hx
 doc:=⟨rfl,fun k hk=>by show (List.replicate 10 ([]:List (Int × Int)))[k]?=some _;rw [List.getElem?_replicate,if_pos hk];rfl,fun x hx=>by simp [reng0] at hx,fun _=>List.Pairwise.nil,fun x hx=>by simp [reng0] at hx⟩
 lb:=by show (0:Int)≤0∧(0:Int)≤1099511627776;omega
 tim:=fun x hx=>by simp [reng0] at hx
 wr:=fun _ _=>rfl
 wrc:=fun c x hx=>by simp [eng0] at hx
 nw:=Nat.le_refl _
 coms:=fun j hj=>by simp [eng0] at hj
 comn:=List.nodup_nil
 hist:=rfl
 bg:=fun r hr=>by simp [reng0] at hr
 bae:=fun t ht=>by simp [eng0] at ht
 ord:=fun i j ri rj tj h=>by simp [reng0] at h
 s0:=by show (0:Int)≤0;omega
 wy:=fun t ht=>by simp [eng0] at ht
 sz:=⟨0,fun r hr=>by simp [reng0] at hr,by show (0:Int)≤0;omega,Nat.le_refl _,Nat.le_refl _⟩
end Go.Proofs.YtjefgmeejhakbaaGreatDoor
/- engine.Over, at every number and list. -/
namespace Go.Proofs.YtjefgmeejhakbaaGreatDoor
open Go.RowKit
set_option maxRecDepth 100000 in
set_option maxHeartbeats 2000000 in
theorem over_fresh (ad:Option Addr) (cap:Nat) (w:World) :
  Calls Tryz.prog 18 #[.int .i64 0,.slice ad 0 cap] w fun e w'=>∃ L,e=.returned (.tuple #[.pointer (some ⟨L.s,0,none⟩),.nilIface])∧EnAt w' L (engO 0 [])∧Below w.heap.size w w'∧∀ g,L.own g→w.heap.size≤g:=by
 have HN:=hid (new_any w)
 have he:engO 0 []=eng0:=rfl
 rw [he]
 go_enter Tryz.func18,Tryz.ntmps18
 go_wp2_with fail
 refine HN.out.mono ?_
 rintro e w1 ⟨L,rfl,hE,hB,hO⟩
 have HF:=hid (And.intro hE (And.intro hB hO))
 clear hE hB hO HN
 go_wp2
 go_ret2
 exact⟨L,rfl,HF.out⟩
set_option maxRecDepth 100000 in
set_option maxHeartbeats 2000000 in
theorem over_err (t c p:Int) (ad:Option Addr) (n cap:Nat) (w:World) (hz:¬ (t=0∧n=0))
  (hI:∀ w1 L,EnAt w1 L eng0→Below w.heap.size w w1→Calls Tryz.prog 76 #[.pointer (some ⟨L.s,0,none⟩),.int .i64 t,.slice ad n cap] w1 fun e w2=>∃ T x,e=.returned (.iface T x)∧ErrIs w2 (.iface T x) c p∧Below w1.heap.size w1 w2) :
  Calls Tryz.prog 18 #[.int .i64 t,.slice ad n cap] w fun e w'=>∃ T x,e=.returned (.tuple #[.pointer none,.iface T x])∧ErrIs w' (.iface T x) c p∧Below w.heap.size w w':=by
 have HN:=hid (new_any w)
 have HI:=hid hI
 clear hI
 by_cases h0:t=0
 ·subst h0
  have gn:((n:Int)==0)=false:=beq_false_of_ne (fun e=>hz ⟨rfl,by omega⟩)
  clear hz
  go_enter Tryz.func18,Tryz.ntmps18
  go_wp2_with fail
  refine HN.out.mono ?_
  rintro e w1 ⟨L,rfl,hE,hB,hO⟩
  have HF:=hid (And.intro hE (And.intro hB hO))
  clear hE hB hO HN
  go_wp2_with fail
  refine (HI.out w1 L HF.out.1 HF.out.2.1).mono ?_
  rintro e w2 ⟨T,x,rfl,hE2,hB2⟩
  have H2:=hid (And.intro hE2 (HF.out.2.1.trans (hB2.mono HF.out.2.1.size)))
  clear hE2 hB2 HI HF
  go_wp2
  go_ret2
  exact⟨T,x,rfl,H2.out⟩
 ·have gt:((t:Int)==0)=false:=beq_false_of_ne h0
  clear hz h0
  go_enter Tryz.func18,Tryz.ntmps18
  go_wp2_with fail
  refine HN.out.mono ?_
  rintro e w1 ⟨L,rfl,hE,hB,hO⟩
  have HF:=hid (And.intro hE (And.intro hB hO))
  clear hE hB hO HN
  go_wp2_with fail
  refine (HI.out w1 L HF.out.1 HF.out.2.1).mono ?_
  rintro e w2 ⟨T,x,rfl,hE2,hB2⟩
  have H2:=hid (And.intro hE2 (HF.out.2.1.trans (hB2.mono HF.out.2.1.size)))
  clear hE2 hB2 HI HF
  go_wp2
  go_ret2
  exact⟨T,x,rfl,H2.out⟩
set_option maxRecDepth 100000 in
set_option maxHeartbeats 2000000 in
theorem over_ok (t:Int) (E':Eng) (ad:Option Addr) (n cap:Nat) (w:World) (hz:¬ (t=0∧n=0))
  (hI:∀ w1 L,EnAt w1 L eng0→Below w.heap.size w w1→(∀ g,L.own g→w.heap.size≤g)→Calls Tryz.prog 76 #[.pointer (some ⟨L.s,0,none⟩),.int .i64 t,.slice ad n cap] w1 fun e w2=>e=.returned .nilIface∧∃ L',L'.s=L.s∧EnAt w2 L' E'∧KeptO L.own L'.own w1 w2) :
  Calls Tryz.prog 18 #[.int .i64 t,.slice ad n cap] w fun e w'=>∃ L,e=.returned (.tuple #[.pointer (some ⟨L.s,0,none⟩),.nilIface])∧EnAt w' L E'∧Below w.heap.size w w'∧∀ g,L.own g→w.heap.size≤g:=by
 have HN:=hid (new_any w)
 have HI:=hid hI
 clear hI
 have fin:Hid (∀ w1 w2 (L L':EnL),Below w.heap.size w w1→(∀ g,L.own g→w.heap.size≤g)→KeptO L.own L'.own w1 w2→Below w.heap.size w w2∧∀ g,L'.own g→w.heap.size≤g):=fun w1 w2 L L' hB hO hK=>by
  have hs:=hB.size
  refine⟨⟨hK.os.trans hB.os,hK.tape.trans hB.tape,hK.output.trans hB.output,Nat.le_trans hB.size hK.size,fun k hk=>(hK.block k (Nat.lt_of_lt_of_le hk hB.size) (fun ho=>by have:=hO k ho;omega)).trans (hB.block k hk)⟩,fun g hg=>?_⟩
  rcases hK.sub g hg with h5 | h5
  ·exact hO g h5
  ·omega
 by_cases h0:t=0
 ·subst h0
  have gn:((n:Int)==0)=false:=beq_false_of_ne (fun e=>hz ⟨rfl,by omega⟩)
  clear hz
  go_enter Tryz.func18,Tryz.ntmps18
  go_wp2_with fail
  refine HN.out.mono ?_
  rintro e w1 ⟨L,rfl,hE,hB,hO⟩
  have HF:=hid (And.intro hE (And.intro hB hO))
  clear hE hB hO HN
  go_wp2_with fail
  refine (HI.out w1 L HF.out.1 HF.out.2.1 HF.out.2.2).mono ?_
  rintro e w2 ⟨rfl,L',e',hE2,hK2⟩
  have H2:=hid (And.intro e' (And.intro hE2 (fin.out w1 w2 L L' HF.out.2.1 HF.out.2.2 hK2)))
  clear e' hE2 hK2 HI HF fin
  go_wp2
  go_ret2
  exact⟨L',by rw [H2.out.1];rfl,H2.out.2⟩
 ·have gt:((t:Int)==0)=false:=beq_false_of_ne h0
  clear hz h0
  go_enter Tryz.func18,Tryz.ntmps18
  go_wp2_with fail
  refine HN.out.mono ?_
  rintro e w1 ⟨L,rfl,hE,hB,hO⟩
  have HF:=hid (And.intro hE (And.intro hB hO))
  clear hE hB hO HN
  go_wp2_with fail
  refine (HI.out w1 L HF.out.1 HF.out.2.1 HF.out.2.2).mono ?_
  rintro e w2 ⟨rfl,L',e',hE2,hK2⟩
  have H2:=hid (And.intro e' (And.intro hE2 (fin.out w1 w2 L L' HF.out.2.1 HF.out.2.2 hK2)))
  clear e' hE2 hK2 HI HF fin
  go_wp2
  go_ret2
  exact⟨L',by rw [H2.out.1];rfl,H2.out.2⟩
end Go.Proofs.YtjefgmeejhakbaaGreatDoor
/- law.sameOps: two rows of ops that hold the same. -/
namespace Go.Proofs.YtjefgmeejhakbaaGreatDoor
open Go.RowKit
set_option maxRecDepth 100000 in
set_option maxHeartbeats 1000000 in
theorem sameO_nil (a b:Option Addr) (c d:Nat) (w:World):Calls Tryz.prog 89 #[.slice a 0 c,.slice b 0 d] w fun e w'=>e=.returned (.bool true)∧w'=w:=by
 go_enter Tryz.func89,Tryz.ntmps89
 go_wp2
 go_loop [5] (fun i=>i=.int .i64 0) (fun _=>0)
 case atStart=>rfl
 case round =>
  subst hrel
  go_wp2
  go_ret
  exact⟨rfl,rfl⟩
def ORow (w:World) (g:Nat) (l:List (Int × Int × Bool × Int)):Prop:=∀ (j:Nat) (o:Int × Int × Bool × Int),l[j]?=some o→w.cell? ⟨g,j*4,none⟩=some (.int .i64 o.1)∧w.cell? ⟨g,j*4+1,none⟩=some (.int .i64 o.2.1)∧w.cell? ⟨g,j*4+2,none⟩=some (.bool o.2.2.1)∧w.cell? ⟨g,j*4+3,none⟩=some (.int .i64 o.2.2.2)
set_option maxRecDepth 100000 in
set_option maxHeartbeats 2000000 in
theorem sameO_walk (g h c d:Nat) (l:List (Int × Int × Bool × Int)) (w:World) (hn:l.length≤4000000000) (h1:ORow w g l) (h2:ORow w h l) :
  Calls Tryz.prog 89 #[.slice (some ⟨g,0,none⟩) l.length c,.slice (some ⟨h,0,none⟩) l.length d] w fun e w'=>e=.returned (.bool true)∧Below w.heap.size w w':=by
 have H1:=hid h1
 have H2:=hid h2
 clear h1 h2
 go_enter Tryz.func89,Tryz.ntmps89
 go_wp2
 go_loopw [5] (fun i wr=>∃ j:Nat,j≤l.length∧i=.int .i64 j∧∃ q,wr=w.drewN q) (fun i _=>l.length-(intOf i).toNat)
 case atStart=>exact⟨0,Nat.zero_le _,rfl,0,rfl⟩
 case round =>
  obtain⟨j,hj,rfl,q,rfl⟩:=hrel
  by_cases hlt:j<l.length
  ·obtain⟨⟨x,y,z,u⟩,hx⟩:∃ x,l[j]?=some x:=⟨l[j],List.getElem?_eq_getElem hlt⟩
   obtain⟨c1,c2,c3,c4⟩:=H1.out j _ hx
   obtain⟨d1,d2,d3,d4⟩:=H2.out j _ hx
   simp only at c1 c2 c3 c4 d1 d2 d3 d4
   have hj0:(0:Int)≤(j:Int):=by omega
   have hj1:(j:Int)<(l.length:Int):=by omega
   clear hx
   go_wp2
   go_quiet (fail)
   go_wp2
   go_roundw
   case rel=>exact⟨j+1,by omega,by go_num,_,rfl⟩
   case measure=>simp [intOf];omega
  ·go_wp2
   go_ret
   exact⟨rfl,below_drewN (Below.refl _ _) _⟩
theorem sameO_true (base base':Nat) (tv uv:Value) (l:List (Int × Int × Bool × Int)) (w:World) (hn:l.length≤4000000000) (h1:w.ownsRow base 90 4 tv l.length (opsV l)) (h2:w.ownsRow base' 90 4 uv l.length (opsV l)) :
  Calls Tryz.prog 89 #[tv,uv] w fun e w'=>e=.returned (.bool true)∧Below w.heap.size w w':=by
 have hi:∀ {g:Nat},(∀ (j:Nat) (u:Value),(opsV l)[j]?=some u→w.cell? ⟨g,j,none⟩=some u)→ORow w g l:=fun h j o hx=>by
  obtain⟨a1,a2,a3,a4⟩:=opsV_get l j o hx
  exact⟨h _ _ a1,h _ _ a2,h _ _ a3,h _ _ a4⟩
 by_cases hl:l.length=0
 ·rw [hl] at h1 h2
  obtain⟨ad,c,rfl⟩:=row_form h1
  obtain⟨ad',c',rfl⟩:=row_form h2
  refine (sameO_nil ad ad' c c' w).mono ?_
  rintro e w' ⟨rfl,rfl⟩
  exact⟨rfl,Below.refl _ _⟩
 ·rcases row_slice h1 with ⟨_,e0⟩ | ⟨g,c,rfl,_,hc⟩
  ·exact (hl e0).elim
  ·rcases row_slice h2 with ⟨_,e0⟩ | ⟨g',c',rfl,_,hc'⟩
   ·exact (hl e0).elim
   ·exact sameO_walk g g' c c' l w hn (hi hc) (hi hc')
end Go.Proofs.YtjefgmeejhakbaaGreatDoor
/- The document's engine: what it tells, by the landed one's plain engine. -/
namespace Go.Proofs.YtjefgmeejhakbaaGreatDoor
open Go.RowKit
theorem allK_same {f g:Nat→Option (Int × Int)}:∀ n,(∀ k,k<n→f k=g k)→allK f n=allK g n
 | 0,_=>rfl
 | n+1,h=>by
  rw [allK,allK,allK_same n (fun k hk=>h k (by omega)),h n (by omega)]
section
variable {w w':World} {M:REnL} {B:Nat} {E:Eng} {i:Nat} {t:Tx}
theorem RefAt.allc (h:RefAt w M B E) (hB:B≤100000000):Calls Tryz.prog 88 #[.pointer (some ⟨M.R,0,none⟩),.int .i64 E.last] w fun e w'=>∃ tv,e=.returned tv∧w'.ownsRow w.heap.size 78 2 tv (allE E).length (vrow (allE E))∧Below w.heap.size w w':=by
 obtain⟨R,hA,hRel⟩:=h
 have hk:=hRel.keptB
 have:=refAll_any (M.R+1) M.R E.last R.last M.lv R.kept w (by omega) hA.sto
 have e:allK (fun k=>best k E.last R.kept) 10=allE E:=by
  unfold allE
  refine allK_same 10 (fun k hk=>?_)
  rw [hRel.doc.eq k hk,Option.getD_some]
  exact best_sub (k:Int) E.last R.kept (hRel.doc.rise k)
 rw [e] at this
 exact this
theorem RefAt.tells (h:RefAt w M B E):∃ ad cap ah caph,w.cell? ⟨M.R,0,none⟩=some (.slice ad (manyP E.ks) cap)∧w.cell? ⟨M.R,1,none⟩=some (.int .i64 E.last)∧w.cell? ⟨M.R,15,none⟩=some (.slice ah (histP E).length caph)∧w.ownsRow 0 90 4 (.slice ah (histP E).length caph) (histP E).length (opsV (histP E))∧M.R<w.heap.size∧(histP E).length≤200*(B+10)∧(∀ i∈E.com,∀ t,E.txs[i]?=some t→t.reads.length≤B):=by
 obtain⟨R,hA,hRel⟩:=h
 have hb:=hRel.histB
 have hR:∀ i∈E.com,∀ t,E.txs[i]?=some t→t.reads.length≤B:=fun i hi t ht=>by
  obtain⟨u,hu,hs⟩:=hRel.comE hi
  rw [ht] at hu
  cases hu
  obtain⟨r,hr,hX⟩:=hRel.getR ht
  have h1:=(hRel.szR hr).1
  rw [hX.reads (by omega)] at h1
  simpa [readOps] using h1
 obtain⟨ad,cap,e1⟩:=row_form hA.kept
 obtain⟨ah,caph,e2⟩:=row_form hA.hist
 have hh:=owns0 hA.hist
 have c15:=hA.c15
 rw [e2] at hh c15
 rw [hRel.hist] at hh c15 hb
 have hm:=hRel.doc.many
 refine⟨ad,cap,ah,caph,?_,?_,c15,hh,hA.lt,hb,hR⟩
 ·rw [hm,← e1]
  exact hA.sto.c0
 ·rw [← hRel.last]
  exact hA.sto.c1
theorem RefAt.waits (h:RefAt w M B E) (n:Int):Calls Tryz.prog 92 #[.pointer (some ⟨M.R,0,none⟩),.int .i64 n] w fun e w'=>e=.returned (.int .i64 (waitsE E n))∧∃ q,w'=w.drewN q:=by
 obtain⟨R,hA,hRel⟩:=h
 have:=rwaitsE_any hA (by rw [hRel.T];exact hRel.good.tidy) (fun j=>by rw [hRel.T];have:=hRel.tlen j;omega) n
 rw [hRel.T] at this
 exact this
end
end Go.Proofs.YtjefgmeejhakbaaGreatDoor
