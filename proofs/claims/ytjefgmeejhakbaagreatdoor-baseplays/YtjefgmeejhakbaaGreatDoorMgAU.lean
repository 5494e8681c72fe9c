/- EnMovesP KtMem KtPlain KtLater KtTells KtOk KtPok AnyInv FeSmall: put together for a claim. -/
import Derived.Test.YtjefgmeejhakbaaGreatDoorMgAT
import Derived.Deep.RegionHeld3
import Derived.Deep.Draws
import Derived.Test.YtjefgmeejhakbaaGreatDoorMgAR
/- Plain: somebody may always go on; what is committed is what committed ones wrote, the last one of each key. -/
namespace Go.Proofs.YtjefgmeejhakbaaGreatDoor
section
variable {a0:Int} {K0:Int→Option Int} {E:Eng} {i:Nat} {t:Tx}
end
section
variable {a0:Int} {K0:Int→Option Int} {E:Eng} {Q:Nat→Prop}
end
end Go.Proofs.YtjefgmeejhakbaaGreatDoor
/- The tale of interleafkeep: plain, and how it lies in memory. -/
namespace Go.Proofs.YtjefgmeejhakbaaGreatDoor
open Go.RowKit
section
variable {w w':World} {s N:Nat}
end
section
variable {w w':World} {L L':EnL} {E E':Eng}
end
end Go.Proofs.YtjefgmeejhakbaaGreatDoor
/- Plain: what one act makes of an engine and its tale. -/
namespace Go.Proofs.YtjefgmeejhakbaaGreatDoor
end Go.Proofs.YtjefgmeejhakbaaGreatDoor
/- Plain: what was committed stays so. -/
namespace Go.Proofs.YtjefgmeejhakbaaGreatDoor
section
variable {a0:Int} {K0:Int→Option Int} {C C':CE}
end
end Go.Proofs.YtjefgmeejhakbaaGreatDoor
/- Plain: an engine and its tale go on as they should: what each one reads is what it should. -/
namespace Go.Proofs.YtjefgmeejhakbaaGreatDoor
abbrev Mid0 (E:Eng):Prop:=Mid 0 (fun _=>none) E.ce noQ
section
variable {E E':Eng}
end
end Go.Proofs.YtjefgmeejhakbaaGreatDoor
/- Plain: what is asked of a tale stays so. -/
namespace Go.Proofs.YtjefgmeejhakbaaGreatDoor
section
variable {E E':Eng} {i:Nat} {u:Tx} {n:Nat}
end
end Go.Proofs.YtjefgmeejhakbaaGreatDoor
/- Plain: each act keeps what is asked of a tale. -/
namespace Go.Proofs.YtjefgmeejhakbaaGreatDoor
theorem mid0_eng0:Mid0 eng0:=by
 have hcw:eng0.ce.cw=[]:=rfl
 refine⟨⟨good0,fun k x h=>(by cases h),fun k i h=>(by cases h),fun i t h=>(by simp [eng0,Eng.ce] at h),fun i h=>h.elim,fun i t k h=>(by simp [eng0,Eng.ce] at h)⟩,⟨fun i t h=>(by simp [eng0,Eng.ce] at h),by decide,by decide⟩,?_⟩
 refine⟨List.Pairwise.nil,fun i=>⟨fun h=>(by cases h),fun ⟨t,h,_⟩=>(by simp [eng0,Eng.ce] at h)⟩,fun i t h=>(by simp [eng0,Eng.ce] at h),by decide,rfl,rfl,fun c=>?_,rfl,fun a ha=>⟨0,Nat.zero_le _,?_,fun u _=>.inl rfl⟩,fun i j t a c h=>(by simp [eng0,Eng.ce] at h)⟩
 ·rw [hcw]
  split<;>rfl
 ·show (List.replicate 10 ([]:List (Int × Int)))[a]?=_
  rw [List.getElem?_replicate,if_pos ha]
  rfl
end Go.Proofs.YtjefgmeejhakbaaGreatDoor
/- A region that draws its order, by what each of its operations leaves: whatever order, what one left stays so when another one goes. -/
namespace Go.Proofs.YtjefgmeejhakbaaGreatDoor
open Go
def DoneAt (listed:Array Bool) (j:Nat):Prop:=listed.getD j false=true
theorem ready_spec {md:Region.Mode} {ops:Array Oper} {listed:Array Bool} {i:Nat} (h:i∈Region.ready md ops listed) :
  i<ops.size∧listed.getD i true=false∧∀ o,ops[i]?=some o→∀ e∈o.after,Region.binds md e=true→DoneAt listed e.on:=by
 unfold Region.ready at h
 obtain⟨h1,h2⟩:=List.mem_filter.1 h
 have h1:=List.mem_range.1 h1
 simp only [Bool.and_eq_true,Bool.not_eq_true'] at h2
 refine⟨h1,h2.1,fun o ho e he hb=>?_⟩
 have h3:=h2.2
 rw [ho] at h3
 simp only [Option.map_some,Option.getD_some] at h3
 rw [Array.all_eq_true_iff_forall_mem] at h3
 have:=h3 e he
 rw [hb] at this
 simpa [DoneAt] using this
theorem done_set {listed:Array Bool} {i j:Nat} (h:DoneAt (listed.setIfInBounds i true) j):j=i∨DoneAt listed j:=by
 unfold DoneAt at *
 by_cases e:j=i
 ·exact .inl e
 ·right
  simp only [Array.getD_eq_getD_getElem?] at *
  rw [Array.getElem?_setIfInBounds_ne (fun h=>e h.symm)] at h
  exact h
theorem done_mono {listed:Array Bool} {i j:Nat} (h:DoneAt listed j):DoneAt (listed.setIfInBounds i true) j:=by
 unfold DoneAt at *
 simp only [Array.getD_eq_getD_getElem?] at *
 by_cases e:i=j
 ·subst e
  cases hi:listed[i]? with
  | none=>rw [hi] at h;cases h
  | some b =>
   have:=(Array.getElem?_eq_some_iff.1 hi).1
   rw [Array.getElem?_setIfInBounds_self_of_lt this]
   rfl
 ·rw [Array.getElem?_setIfInBounds_ne e]
  exact h
theorem done_self {listed:Array Bool} {i:Nat} (h:i<listed.size):DoneAt (listed.setIfInBounds i true) i:=by
 unfold DoneAt
 simp only [Array.getD_eq_getD_getElem?]
 rw [Array.getElem?_setIfInBounds_self_of_lt h]
 rfl
def leftOf (n:Nat) (listed:Array Bool):Nat:=((List.range n).filter (fun i=>!listed.getD i true)).length
theorem left_step {n i:Nat} {listed:Array Bool} (hi:i<n) (hs:n≤listed.size) (h:listed.getD i true=false):leftOf n (listed.setIfInBounds i true)<leftOf n listed:=by
 unfold leftOf
 have key:∀ l:List Nat,l.Nodup→i∈l→(l.filter (fun j=>!(listed.setIfInBounds i true).getD j true)).length<(l.filter (fun j=>!listed.getD j true)).length:=by
  intro l
  induction l with
  | nil=>intro _ h;cases h
  | cons x r ih =>
   intro hn hm
   have hn':=List.nodup_cons.1 hn
   rw [List.filter_cons,List.filter_cons]
   by_cases e:x=i
   ·subst e
    have h1:(listed.setIfInBounds x true).getD x true=true:=by
     rw [Array.getD_eq_getD_getElem?,Array.getElem?_setIfInBounds_self_of_lt (by omega)];rfl
    rw [h1,h]
    have h2:r.filter (fun j=>!(listed.setIfInBounds x true).getD j true)=r.filter (fun j=>!listed.getD j true):=List.filter_congr (fun j hj=>by
     have:x≠j:=fun e=>hn'.1 (e▸hj)
     rw [Array.getD_eq_getD_getElem?,Array.getElem?_setIfInBounds_ne this,← Array.getD_eq_getD_getElem?])
    rw [h2]
    simp
   ·have h1:(listed.setIfInBounds i true).getD x true=listed.getD x true:=by
     rw [Array.getD_eq_getD_getElem?,Array.getElem?_setIfInBounds_ne (fun h=>e h.symm),← Array.getD_eq_getD_getElem?]
    rw [h1]
    have:=ih hn'.2 (by rcases List.mem_cons.1 hm with h | h;exact (e h.symm).elim;exact h)
    split
    ·simp only [List.length_cons];omega
    ·exact this
 exact key _ List.nodup_range (List.mem_range.2 hi)
section
variable {P:Program} {ops:Array Oper} {Q:Exit→Act→World→Prop}
theorem wpOp_imp {i:Nat} {K K':Act→World→Prop} {a:Act} {w:World} (h:∀ a w,K a w→K' a w) (hh:wpOp P ops Q i K a w):wpOp P ops Q i K' a w:=by
 unfold wpOp at *
 split
 ·rename_i e
  rw [e] at hh
  exact h _ _ hh
 ·rename_i o e
  rw [e] at hh
  simp only at hh ⊢
  split
  ·rename_i hw
   rw [if_pos hw] at hh
   exact hh.imp (Oper.wp_mono h) id
  ·rename_i hw
   rw [if_neg hw] at hh
   exact h _ _ hh
theorem wpAny_inv (Inv:Array Bool→Act→World→Prop) (hstep:∀ (listed:Array Bool) (a:Act) (w:World) (i:Nat),Inv listed a w→i∈Region.ready .any ops listed→wpOp P ops Q i (Inv (listed.setIfInBounds i true)) a w)
  (hfin:∀ (listed:Array Bool) (a:Act) (w:World),Inv listed a w→Region.ready .any ops listed=[]→Q .normal a w) :
  ∀ (fuel:Nat) (listed:Array Bool) (a:Act) (w:World),ops.size≤listed.size→leftOf ops.size listed≤fuel→Inv listed a w→wpAny P .any ops Q fuel listed a w:=by
 intro fuel
 induction fuel with
 | zero =>
  intro listed a w hs hl hI
  have hr:Region.ready .any ops listed=[]:=by
   cases hc:Region.ready .any ops listed with
   | nil=>rfl
   | cons i r =>
    have h:=ready_spec (md:=.any) (ops:=ops) (listed:=listed) (i:=i) (by rw [hc];exact List.mem_cons_self ..)
    have:=left_step h.1 hs h.2.1
    omega
  exact⟨hr,hfin listed a w hI hr⟩
 | succ f ih =>
  intro listed a w hs hl hI
  refine⟨hfin listed a w hI,fun i hi=>?_⟩
  have h:=ready_spec hi
  have:=left_step h.1 hs h.2.1
  exact wpOp_imp (fun a' w' hI'=>ih _ a' w' (by simpa using hs) (by omega) hI') (hstep listed a w i hI hi)
theorem region_inv {id:Nat} {a:Act} {w:World} (hm:P.follows .mixedOrders=true) (Inv:Array Bool→Act→World→Prop)
  (hstart:Inv (Array.replicate ops.size false) a w.drew)
  (hstep:∀ (listed:Array Bool) (a:Act) (w:World) (i:Nat),Inv listed a w→i∈Region.ready .any ops listed→wpOp P ops Q i (Inv (listed.setIfInBounds i true)) a w)
  (hfin:∀ (listed:Array Bool) (a:Act) (w:World),Inv listed a w→Region.ready .any ops listed=[]→Q .normal a w):(Code.region id ops true).wp P Q a w:=by
 refine wp_region_any hm (wpAny_inv Inv hstep hfin _ _ a _ (by simp) ?_ hstart)
 unfold leftOf
 exact Nat.le_trans (List.length_filter_le _ _) (by simp)
def FixedAt (F:List (Nat × Value)) (a:Act):Prop:=∀ q∈F,a.tmps.getD q.1 undef=q.2
def LeftAt (ops:Array Oper) (p:Nat→Value→World→Prop) (listed:Array Bool) (a:Act) (w:World):Prop :=
 ∀ (j:Nat) (o:Oper) (d:Tmp),ops[j]?=some o→o.dst=some d→DoneAt listed j→p j (a.tmps.getD d undef) w
def apartB (ops:Array Oper) (F:List (Nat × Value)) (sz:Nat):Bool :=
 let ds:=ops.toList.filterMap (·.dst)
 ds.Nodup&&ds.all (fun d=>decide (d<sz)&&F.all (fun q=>q.1 != d)) 
theorem getD_put_ne {a:Act} {d e:Tmp} {v:Value} (h:d≠e):(a.put (some e) v).tmps.getD d undef=a.tmps.getD d undef:=by
 simp only [Act.put,Array.getD_eq_getD_getElem?]
 rw [Array.getElem?_setIfInBounds_ne (fun h'=>h h'.symm)]
theorem getD_put_same {a:Act} {d:Tmp} {v:Value} (h:d<a.tmps.size):(a.put (some d) v).tmps.getD d undef=v:=by
 simp only [Act.put,Array.getD_eq_getD_getElem?]
 rw [Array.getElem?_setIfInBounds_self_of_lt h]
 rfl
theorem size_put {a:Act} {d:Option Tmp} {v:Value}:(a.put d v).tmps.size=a.tmps.size:=by
 cases d<;>simp [Act.put]
theorem defers_put {a:Act} {d:Option Tmp} {v:Value}:(a.put d v).defers=a.defers:=by
 cases d<;>rfl
theorem mem_filterMap_idx {l:List Oper} {d:Tmp} (hn:(l.filterMap (·.dst)).Nodup) {i j:Nat} {o o':Oper} (hi:l[i]?=some o) (hj:l[j]?=some o') (h1:o.dst=some d) (h2:o'.dst=some d):i=j:=by
 induction l generalizing i j with
 | nil=>cases hi
 | cons x r ih =>
  have hin:∀ {k:Nat} {y:Oper},r[k]?=some y→y.dst=some d→d∈r.filterMap (·.dst):=fun {k y} hk hy=>List.mem_filterMap.2 ⟨y,List.mem_of_getElem? hk,hy⟩
  cases i with
  | zero =>
   cases j with
   | zero=>rfl
   | succ j =>
    simp only [List.getElem?_cons_zero,Option.some.injEq] at hi
    subst hi
    rw [List.filterMap_cons,h1] at hn
    exact ((List.nodup_cons.1 hn).1 (hin (by simpa using hj) h2)).elim
  | succ i =>
   cases j with
   | zero =>
    simp only [List.getElem?_cons_zero,Option.some.injEq] at hj
    subst hj
    rw [List.filterMap_cons,h2] at hn
    exact ((List.nodup_cons.1 hn).1 (hin (by simpa using hi) h1)).elim
   | succ j =>
    congr 1
    refine ih ?_ (by simpa using hi) (by simpa using hj)
    rw [List.filterMap_cons] at hn
    split at hn
    ·exact hn
    ·exact (List.nodup_cons.1 hn).2
def ClosedAt (ops:Array Oper) (listed:Array Bool):Prop:=∀ (i:Nat) (o:Oper),ops[i]?=some o→DoneAt listed i→∀ e∈o.after,Region.binds .any e=true→DoneAt listed e.on
def backB (ops:Array Oper):Bool:=(List.range ops.size).all (fun i=>match ops[i]? with
 | some o=>o.after.toList.all (fun e=>!Region.binds .any e||decide (e.on<i))
 | none=>true)
theorem all_done (hb:backB ops=true) {listed:Array Bool} (hs:listed.size=ops.size) (hr:Region.ready .any ops listed=[]):∀ i,i<ops.size→DoneAt listed i:=by
 intro i
 induction i using Nat.strongRecOn with
 | _ i ih =>
  intro hi
  refine Classical.byContradiction (fun hn=>?_)
  have ho:ops[i]?=some ops[i]:=Array.getElem?_eq_getElem hi
  unfold backB at hb
  have hbi:=List.all_eq_true.1 hb i (List.mem_range.2 hi)
  rw [ho] at hbi
  simp only at hbi
  rw [List.all_eq_true] at hbi
  have:i∈Region.ready .any ops listed:=by
   unfold Region.ready
   refine List.mem_filter.2 ⟨List.mem_range.2 hi,?_⟩
   have h1:listed.getD i true=false:=by
    unfold DoneAt at hn
    rw [Array.getD_eq_getD_getElem?,Array.getElem?_eq_getElem (by omega)] at hn ⊢
    simpa using hn
   rw [h1,ho]
   simp only [Bool.not_false,Bool.true_and,Option.map_some,Option.getD_some]
   rw [Array.all_eq_true_iff_forall_mem]
   intro e he
   have h2:=hbi e (by simpa using he)
   cases hbd:Region.binds .any e with
   | false=>rfl
   | true =>
    rw [hbd] at h2
    simp only [Bool.not_true,Bool.false_or,decide_eq_true_eq] at h2
    have:=ih e.on h2 (by omega)
    unfold DoneAt at this
    rw [this]
    rfl
  rw [hr] at this
  cases this
theorem done_set_ne {listed:Array Bool} {i j:Nat} (h:j≠i):DoneAt (listed.setIfInBounds i true) j↔DoneAt listed j:=⟨fun hd=>(done_set hd).resolve_left h,done_mono⟩
instance (listed:Array Bool) (j:Nat):Decidable (DoneAt listed j):=by unfold DoneAt;infer_instance
theorem not_done_replicate (n j:Nat):¬ DoneAt (Array.replicate n false) j:=by
 unfold DoneAt
 rw [Array.getD_eq_getD_getElem?,Array.getElem?_replicate]
 split<;>simp
theorem region_plan {id:Nat} {a:Act} {w:World} (hm:P.follows .mixedOrders=true) (p:Nat→Value→World→Prop) (G:Array Bool→Act→World→Prop) (F:List (Nat × Value)) (sz:Nat)
    (hap:apartB ops F sz=true) (hbk:backB ops=true) (hG:G (Array.replicate ops.size false) a w.drew) (hF:FixedAt F a) (hsz:a.tmps.size=sz) (D:List Deferred) (hD:a.defers=D)
    (hstep:∀ (i:Nat) (o:Oper) (listed:Array Bool) (a:Act) (w:World),i<ops.size→ops[i]?=some o→listed.size=ops.size→ClosedAt ops listed→(∀ e∈o.after,Region.binds .any e=true→DoneAt listed e.on)→¬ DoneAt listed i→G listed a w→LeftAt ops p listed a w→FixedAt F a→a.tmps.size=sz →
      wpOp P ops Q i (fun a' w'=>∃ v,a'=a.put o.dst v∧p i v w'∧G (listed.setIfInBounds i true) a' w'∧∀ (j:Nat) (u:Value),j≠i→DoneAt listed j→p j u w→p j u w') a w)
    (hfin:∀ (listed:Array Bool) (a:Act) (w:World),(∀ i,i<ops.size→DoneAt listed i)→G listed a w→LeftAt ops p listed a w→FixedAt F a→a.tmps.size=sz→a.defers=D→Q .normal a w):(Code.region id ops true).wp P Q a w:=by
  unfold apartB at hap
  simp only [Bool.and_eq_true,decide_eq_true_eq,List.all_eq_true] at hap
  obtain⟨hn,hd⟩:=hap
  refine region_inv hm (fun listed a w=>listed.size=ops.size∧ClosedAt ops listed∧G listed a w∧LeftAt ops p listed a w∧FixedAt F a∧a.tmps.size=sz∧a.defers=D) ⟨by simp,fun i o _ hdn=>(not_done_replicate _ _ hdn).elim,hG,fun j o d _ _ hdn=>(not_done_replicate _ _ hdn).elim,hF,hsz,hD⟩ (fun listed a w i hI hi=>?_) (fun listed a w hI hr=>hfin listed a w (all_done hbk hI.1 hr) hI.2.2.1 hI.2.2.2.1 hI.2.2.2.2.1 hI.2.2.2.2.2.1 hI.2.2.2.2.2.2)
  obtain⟨h1,h2,h3⟩:=ready_spec hi
  obtain⟨hls,hcl,hG',hL,hF',hsz',hD'⟩:=hI
  have ho:ops[i]?=some ops[i]:=Array.getElem?_eq_getElem h1
  have hnd:¬ DoneAt listed i:=fun hc=>by
    unfold DoneAt at hc
    have:i<listed.size:=by omega
    rw [Array.getD_eq_getD_getElem?,Array.getElem?_eq_getElem this] at h2 hc
    simp only [Option.getD_some] at h2 hc
    rw [h2] at hc
    cases hc
  refine wpOp_imp ?_ (hstep i ops[i] listed a w h1 ho hls hcl (h3 _ ho) hnd hG' hL hF' hsz')
  rintro a' w' ⟨v,rfl,hp,hG2,hst⟩
  have hmem:∀ d,(ops[i]).dst=some d→d∈ops.toList.filterMap (·.dst):=fun d e=>List.mem_filterMap.2 ⟨ops[i],by simp,e⟩
  refine⟨by simpa using hls,fun j o hjo hjd e he hb=>?_,hG2,fun j o d hjo hjd hdn=>?_,fun q hq=>?_,by rw [size_put];exact hsz',by rw [defers_put];exact hD'⟩
  · rcases done_set hjd with rfl | hjd
    · rw [ho] at hjo
      cases hjo
      exact done_mono (h3 _ ho e he hb)
    · exact done_mono (hcl j o hjo hjd e he hb)
  · by_cases e:j=i
    · subst e
      rw [ho] at hjo
      cases hjo
      have hlt:=(hd d (hmem d hjd)).1
      rw [hjd,getD_put_same (by rw [hsz'];exact hlt)]
      exact hp
    · have hdj:DoneAt listed j:=(done_set hdn).resolve_left e
      have hbase:=hst j _ e hdj (hL j o d hjo hjd hdj)
      cases hid:(ops[i]).dst with
      | none=>exact hbase
      | some d2 =>
        have hne:d≠d2:=fun e2=>e (mem_filterMap_idx hn (i:=j) (j:=i) (o':=ops[i]) (by simpa using hjo) (by simp [h1]) hjd (by rw [hid,e2]))
        rw [getD_put_ne hne]
        exact hbase
  · cases hid:(ops[i]).dst with
    | none=>exact hF' q hq
    | some d2 =>
      have:=(hd d2 (hmem d2 hid)).2 q hq
      rw [getD_put_ne (by simpa using this)]
      exact hF' q hq
end
end Go.Proofs.YtjefgmeejhakbaaGreatDoor
/- The document's engine: alive, strict, Of. -/
namespace Go.Proofs.YtjefgmeejhakbaaGreatDoor
open Go.RowKit
section
variable {w:World} {L:REnL} {E:REng} {ls:List Nat} {l:RTxL} {t:RTx}
theorem RTxAt.cell (h:RTxAt w ls l t) (o:Nat):w.cell? ⟨l.b,o,none⟩=(rtxCells l t)[o]?:=cell_of_row w l.b o _ _ (0,0) h.blk
set_option maxRecDepth 100000 in
set_option maxHeartbeats 400000 in
theorem ralive_any (h:RTxAt w ls l t):Calls Tryz.prog 133 #[.pointer (some ⟨l.b,0,none⟩)] w fun e w'=>e=.returned (.bool (liveB t.state))∧w'=w:=by
 have c1:w.cell? ⟨l.b,1,none⟩=some (.int .i64 t.state):=(h.cell 1).trans rfl
 unfold liveB
 clear h
 by_cases h0:t.state=0
 ·rw [h0] at c1 ⊢
  go_enter Tryz.func133,Tryz.ntmps133
  go_wp2
  go_ret
  exact⟨rfl,rfl⟩
 ·have e0:(t.state==0)=false:=by simpa using h0
  rw [e0]
  clear h0
  go_enter Tryz.func133,Tryz.ntmps133
  go_wp2
  go_ret
  exact⟨rfl,rfl⟩
set_option maxRecDepth 100000 in
set_option maxHeartbeats 400000 in
theorem rstrict_any (h:RTxAt w ls l t):Calls Tryz.prog 137 #[.pointer (some ⟨l.b,0,none⟩)] w fun e w'=>e=.returned (.bool (t.level==2&&t.state != 3))∧w'=w:=by
 have c0:w.cell? ⟨l.b,0,none⟩=some (.int .i64 t.level):=(h.cell 0).trans rfl
 have c1:w.cell? ⟨l.b,1,none⟩=some (.int .i64 t.state):=(h.cell 1).trans rfl
 clear h
 by_cases h0:t.level=2
 ·rw [h0] at c0 ⊢
  go_enter Tryz.func137,Tryz.ntmps137
  go_wp2
  go_ret
  exact⟨rfl,rfl⟩
 ·have e0:(t.level==2)=false:=by simpa using h0
  rw [e0]
  clear h0
  go_enter Tryz.func137,Tryz.ntmps137
  go_wp2
  go_ret
  exact⟨rfl,rfl⟩
theorem REnAt.c12 (h:REnAt w L E):w.cell? ⟨L.R,12,none⟩=some L.av:=by
 rw [cell_of_row w L.R 12 _ _ (0,0) h.blk]
 have hl:=h.vl
 unfold fcells REnL.tail
 simp only [List.getElem?_toArray,List.getElem?_cons_succ]
 rw [List.getElem?_append_right (by omega),hl]
 rfl
set_option maxRecDepth 100000 in
set_option maxHeartbeats 1000000 in
theorem rof_miss (h:REnAt w L E) {n:Int} (o:Bool) (hn:n<1∨(E.txs.length:Int)<n) :
  Calls Tryz.prog 90 #[.pointer (some ⟨L.R,0,none⟩),.int .i64 n,.bool o] w fun e w'=>e=.returned (.tuple #[.pointer none,.int .i64 7])∧w'=w:=by
 have c12:=h.c12
 obtain⟨ad,cap,hav⟩:=row_form h.all
 rw [hav] at c12
 obtain⟨m,hm⟩:∃ m,E.txs.length=m:=⟨_,rfl⟩
 rw [hm] at c12 hn
 have hin:inB n 1 (m:Int)=false:=by simp only [inB,decide_eq_false_iff_not];omega
 have HI:=hid (in_any n 1 (m:Int) w)
 rw [hin] at HI
 clear h hav hm hin
 go_enter Tryz.func90,Tryz.ntmps90
 go_wp2_with (go_at_call 54;refine HI.out.mono ?_;rintro e w' ⟨rfl,rfl⟩)
 go_ret2
 exact⟨rfl,rfl⟩
theorem REnAt.place (h:REnAt w L E) {i:Nat} (ht:E.txs[i]?=some t):∃ l g cap,L.txs[i]?=some l∧RTxAt w L.bs l t∧L.av=.slice (some ⟨g,0,none⟩) E.txs.length cap∧w.cell? ⟨g,i,none⟩=some (ptrV l.b):=by
 obtain⟨l,hl,hT⟩:=h.get ht
 have hi:=(List.getElem?_eq_some_iff.1 ht).1
 rcases row_slice h.all with ⟨_,e0⟩ | ⟨g,cap,e,_,hc⟩
 ·omega
 ·exact⟨l,g,cap,hl,hT,e,hc i _ (by rw [List.getElem?_map,rbs_get hl];rfl)⟩
set_option maxRecDepth 100000 in
set_option maxHeartbeats 1000000 in
theorem rof_ok (h:REnAt w L E) {i:Nat} (o:Bool) (ht:E.txs[i]?=some t) (hs:o=true→t.state=0) (hle:E.txs.length≤1000) :
  Calls Tryz.prog 90 #[.pointer (some ⟨L.R,0,none⟩),.int .i64 ((i:Int)+1),.bool o] w fun e w'=>∃ l,L.txs[i]?=some l∧e=.returned (.tuple #[ptrV l.b,.int .i64 0])∧w'=w:=by
 have c12:=h.c12
 obtain⟨l,g,cap,hl,hT,hav,hc⟩:=h.place ht
 have c1:w.cell? ⟨l.b,1,none⟩=some (.int .i64 t.state):=(hT.cell 1).trans rfl
 rw [hav] at c12
 have hi:=(List.getElem?_eq_some_iff.1 ht).1
 obtain⟨m,hm⟩:∃ m,E.txs.length=m:=⟨_,rfl⟩
 rw [hm] at c12 hi hle
 have hin:inB ((i:Int)+1) 1 (m:Int)=true:=by simp only [inB,decide_eq_true_eq];omega
 have HI:=hid (in_any ((i:Int)+1) 1 (m:Int) w)
 rw [hin] at HI
 have HL:=hid hl
 have gs:IntKind.i64.wrap ((i:Int)+1-1)=(i:Int):=by rw [show (i:Int)+1-1=(i:Int) by omega];exact IntWalk.i64_in _ (by omega)
 have g0:(0:Int)≤(i:Int):=by omega
 have g1:(i:Int)<(m:Int):=by omega
 simp only [ptrV] at hc
 clear h hav hm hin hT hl ht
 cases o with
 | false =>
  clear hs c1
  go_enter Tryz.func90,Tryz.ntmps90
  go_wp2_with (go_at_call 54;refine HI.out.mono ?_;rintro e w' ⟨rfl,rfl⟩)
  go_ret2
  exact⟨l,HL.out,rfl,rfl⟩
 | true =>
  rw [hs rfl] at c1
  clear hs
  go_enter Tryz.func90,Tryz.ntmps90
  go_wp2_with (go_at_call 54;refine HI.out.mono ?_;rintro e w' ⟨rfl,rfl⟩)
  go_ret2
  exact⟨l,HL.out,rfl,rfl⟩
set_option maxRecDepth 100000 in
set_option maxHeartbeats 1000000 in
theorem rof_shut (h:REnAt w L E) {i:Nat} (ht:E.txs[i]?=some t) (hs:t.state≠0) (hle:E.txs.length≤1000) :
  Calls Tryz.prog 90 #[.pointer (some ⟨L.R,0,none⟩),.int .i64 ((i:Int)+1),.bool true] w fun e w'=>e=.returned (.tuple #[.pointer none,.int .i64 6])∧w'=w:=by
 have c12:=h.c12
 obtain⟨l,g,cap,hl,hT,hav,hc⟩:=h.place ht
 have c1:w.cell? ⟨l.b,1,none⟩=some (.int .i64 t.state):=(hT.cell 1).trans rfl
 rw [hav] at c12
 have hi:=(List.getElem?_eq_some_iff.1 ht).1
 obtain⟨m,hm⟩:∃ m,E.txs.length=m:=⟨_,rfl⟩
 rw [hm] at c12 hi hle
 have hin:inB ((i:Int)+1) 1 (m:Int)=true:=by simp only [inB,decide_eq_true_eq];omega
 have HI:=hid (in_any ((i:Int)+1) 1 (m:Int) w)
 rw [hin] at HI
 have gs:IntKind.i64.wrap ((i:Int)+1-1)=(i:Int):=by rw [show (i:Int)+1-1=(i:Int) by omega];exact IntWalk.i64_in _ (by omega)
 have g0:(0:Int)≤(i:Int):=by omega
 have g1:(i:Int)<(m:Int):=by omega
 have gn:(t.state != 0)=true:=by simpa using hs
 simp only [ptrV] at hc
 clear h hav hm hin hT hl ht hs
 go_enter Tryz.func90,Tryz.ntmps90
 go_wp2_with (go_at_call 54;refine HI.out.mono ?_;rintro e w' ⟨rfl,rfl⟩)
 go_ret2
 exact⟨rfl,rfl⟩
end
end Go.Proofs.YtjefgmeejhakbaaGreatDoor
