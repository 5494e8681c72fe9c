/- QuietLay KtPok BsOver BsOpen BsReady BsBase BsWent OrLineE: put together for a claim. -/
import Derived.Test.YtjefgmeejhakbabGreatDoorMgAJ
import Derived.Test.YtjefgmeejhakbabGreatDoorMgAM
import Derived.Test.YtjefgmeejhakbabGreatDoorMgAY
import Derived.Test.YtjefgmeejhakbabGreatDoorOrLineX
namespace Go.Proofs.YtjefgmeejhakbabGreatDoor
open Go
section
variable {P:Program} {ops:Array Oper} {Q:Exit→Act→World→Prop}
def AnyFrom (P:Program) (ops:Array Oper) (Q:Exit→Act→World→Prop) (listed:Array Bool) (a:Act) (w:World):Prop :=
 ∃ Inv:Array Bool→Act→World→Prop,Inv listed a w∧(∀ (l:Array Bool) (a:Act) (w:World) (i:Nat),Inv l a w→i∈Region.ready .any ops l→wpOp P ops Q i (Inv (l.setIfInBounds i true)) a w) ∧
  (∀ (l:Array Bool) (a:Act) (w:World),Inv l a w→Region.ready .any ops l=[]→Q .normal a w)
theorem region_from {id:Nat} {a:Act} {w:World} (hm:P.follows .mixedOrders=true) (h:AnyFrom P ops Q (Array.replicate ops.size false) a w.drew):(Code.region id ops true).wp P Q a w:=by
 obtain⟨Inv,h0,hs,hf⟩:=h
 exact region_inv hm Inv h0 hs hf
theorem AnyFrom.intro {listed:Array Bool} {a:Act} {w:World} (hs:∀ i,i∈Region.ready .any ops listed→wpOp P ops Q i (AnyFrom P ops Q (listed.setIfInBounds i true)) a w) (hf:Region.ready .any ops listed=[]→Q .normal a w):AnyFrom P ops Q listed a w:=by
 refine⟨fun l a' w'=>AnyFrom P ops Q l a' w'∨(l=listed∧a'=a∧w'=w),.inr ⟨rfl,rfl,rfl⟩,fun l a' w' i hI hi=>?_,fun l a' w' hI hr=>?_⟩
 ·rcases hI with ⟨Inv,h0,h1,h2⟩ | ⟨rfl,rfl,rfl⟩
  ·exact wpOp_imp (fun a2 w2 h=>.inl ⟨Inv,h,h1,h2⟩) (h1 l a' w' i h0 hi)
  ·exact wpOp_imp (fun a2 w2 h=>.inl h) (hs i hi)
 ·rcases hI with ⟨Inv,h0,h1,h2⟩ | ⟨rfl,rfl,rfl⟩
  ·exact h2 _ _ _ h0 hr
  ·exact hf hr
def doneTo (n c:Nat):Array Bool:=(List.replicate c true++List.replicate (n-c) false).toArray
theorem upon_then {o:Oper} {a:Act} {next K:Act→World→Prop} {r:Result Next} (h:o.upon P a next (Exit.then K Q) r):o.upon P a next Q r:=by
 unfold Oper.upon at *
 split at h<;>exact h
theorem from_end {a:Act} {w:World} {n:Nat} (hr:Region.ready .any ops (doneTo n n)=[]) (h:Q .normal a w):AnyFrom P ops Q (doneTo n n) a w :=
 AnyFrom.intro (fun i hi=>by rw [hr] at hi;cases hi) (fun _=>h)
end
def nextB (ops:Array Oper) (c:Nat):Bool:=(List.range (ops.size-(c+1))).all (fun d=>match ops[c+1+d]? with
 | some o=>o.after.toList.any (fun e=>Region.binds .any e&&decide (c≤e.on))
 | none=>true)
section
variable {P:Program} {Q:Exit→Act→World→Prop} {L:List Oper}
theorem done_doneTo {n c i:Nat}:DoneAt (doneTo n c) i↔i<c:=by
 unfold DoneAt doneTo
 rw [Array.getD_eq_getD_getElem?,List.getElem?_toArray]
 rcases Nat.lt_or_ge i c with h | h
 ·rw [List.getElem?_append_left (by simpa using h)]
  simp [h]
 ·rw [List.getElem?_append_right (by simpa using h),List.getElem?_replicate]
  split<;>simp<;>omega
theorem eq_doneTo {n c:Nat} {listed:Array Bool} (hc:c≤n) (hs:listed.size=n) (h1:∀ i,i<c→DoneAt listed i) (h2:∀ i,c≤i→¬ DoneAt listed i):listed=doneTo n c:=by
 apply Array.ext
 ·simp [doneTo,hs];omega
 ·intro i hi hi2
  have key:DoneAt listed i↔DoneAt (doneTo n c) i:=by
   rw [done_doneTo]
   exact⟨fun h=>Classical.byContradiction (fun hn=>h2 i (by omega) h),h1 i⟩
  unfold DoneAt at key
  rw [Array.getD_eq_getD_getElem?,Array.getD_eq_getD_getElem?,Array.getElem?_eq_getElem hi,Array.getElem?_eq_getElem hi2] at key
  simp only [Option.getD_some] at key
  cases h3:listed[i]<;>cases h4:(doneTo n c)[i]<;>simp_all
theorem all_done' {ops:Array Oper} (hb:backB ops=true) {listed:Array Bool} (hs:ops.size≤listed.size) (hr:Region.ready .any ops listed=[]):∀ i,i<ops.size→DoneAt listed i:=by
 intro i
 induction i using Nat.strongRecOn with
 | _ i ih =>
  intro hi
  refine Classical.byContradiction (fun hn=>?_)
  have ho:ops[i]?=some ops[i]:=Array.getElem?_eq_getElem hi
  unfold backB at hb
  have hbi:=List.all_eq_true.1 hb i (List.mem_range.2 hi)
  rw [ho] at hbi
  simp only at hbi
  rw [List.all_eq_true] at hbi
  have:i∈Region.ready .any ops listed:=by
   unfold Region.ready
   refine List.mem_filter.2 ⟨List.mem_range.2 hi,?_⟩
   have h1:listed.getD i true=false:=by
    unfold DoneAt at hn
    rw [Array.getD_eq_getD_getElem?,Array.getElem?_eq_getElem (by omega)] at hn ⊢
    simpa using hn
   rw [h1,ho]
   simp only [Bool.not_false,Bool.true_and,Option.map_some,Option.getD_some]
   rw [Array.all_eq_true_iff_forall_mem]
   intro e he
   have h2:=hbi e (by simpa using he)
   cases hbd:Region.binds .any e with
   | false=>rfl
   | true =>
    rw [hbd] at h2
    simp only [Bool.not_true,Bool.false_or,decide_eq_true_eq] at h2
    have:=ih e.on h2 (by omega)
    unfold DoneAt at this
    rw [this]
    rfl
  rw [hr] at this
  cases this
theorem from_quiet_app {l m:List Oper} {a:Act} {w w1:World} (hw1:∃ n,w1=w.drewN n) (c:Nat) (hcc:c≤l.length) (hm:m≠[]) (hns:Region.noSelect l.toArray=true) (hB:Region.lexFrom .any l.toArray (l.drop c).length c (doneTo (l++m).length c)=true) (hb:backB (l++m).toArray=true)
  (hcov:covB (l++m).toArray l.length=true) (hnx:nextB (l++m).toArray l.length=true) (hg:guardsB l=true)
  (h:wpQuiet P l.toArray (fun w'=>∃ n,w'=w.drewN n) (fun a'=>∀ w',(∃ n,w'=w.drewN n)→AnyFrom P (l++m).toArray Q (doneTo (l++m).length l.length) a' w') (l.drop c) a):AnyFrom P (l++m).toArray Q (doneTo (l++m).length c) a w1:=by
 have hml:0<m.length:=List.length_pos_iff.2 hm
 have hq0:=wpAnyQ_lex hns (l.drop c) c (doneTo (l++m).length c) a (fun j=>by simp) hB h
 have main:∀ (fuel:Nat) (listed:Array Bool) (a:Act) (w1:World),(∃ n,w1=w.drewN n)→listed.size=(l++m).length→ClosedAt (l++m).toArray listed→(∀ i,l.length≤i→¬ DoneAt listed i)→wpAnyQ P .any l.toArray (fun w'=>∃ n,w'=w.drewN n) (fun a'=>∀ w',(∃ n,w'=w.drewN n)→AnyFrom P (l++m).toArray Q (doneTo (l++m).length l.length) a' w') fuel listed a→AnyFrom P (l++m).toArray Q listed a w1:=by
  intro fuel
  induction fuel with
  | zero =>
   intro listed a w1 hw1 hls hclo hno hq
   have hlen:(l++m).length=l.length+m.length:=List.length_append
   have hbk:backB l.toArray=true:=by
    unfold backB at hb ⊢
    refine List.all_eq_true.2 (fun i hi=>?_)
    have hi:=List.mem_range.1 hi
    have:=List.all_eq_true.1 hb i (List.mem_range.2 (by simp at hi ⊢;omega))
    rw [app_get (by simpa using hi)] at this
    exact this
   have hall:=all_done' hbk (by simp;omega) hq.1
   rw [eq_doneTo (c:=l.length) (by omega) hls (fun i hi=>hall i (by simpa using hi)) hno]
   exact hq.2 w1 hw1
  | succ fuel ih =>
   intro listed a w1 hw1 hls hclo hno hq
   have hlen:(l++m).length=l.length+m.length:=List.length_append
   have hsz:(l++m).toArray.size=l.length+m.length:=by simp
   refine AnyFrom.intro (fun i hi=>?_) (fun hr=>?_)
   ·obtain⟨h1,h2,h3⟩:=ready_spec hi
    rw [hsz] at h1
    have ho:(l++m).toArray[i]?=some (l++m).toArray[i]:=Array.getElem?_eq_getElem (by rw [hsz];exact h1)
    by_cases hic:i<l.length
    ·have hir:i∈Region.ready .any l.toArray listed:=by
      unfold Region.ready at hi ⊢
      obtain⟨_,p2⟩:=List.mem_filter.1 hi
      refine List.mem_filter.2 ⟨List.mem_range.2 (by simpa using hic),?_⟩
      rw [app_get hic] at p2
      exact p2
     refine app_wpOp hg hic (wpOp_of_qOp hw1 (fun a' w' hw' hK=>?_) (hq.2 i hir))
     refine ih _ a' w' hw' (by simpa using hls) (fun j o hj hd e he hbd=>?_) (fun j hj hd=>?_) hK
     ·rcases done_set hd with rfl | hd
      ·exact done_mono (h3 o hj e he hbd)
      ·exact done_mono (hclo j o hj hd e he hbd)
     ·rcases done_set hd with rfl | hd
      ·omega
      ·exact hno j hj hd
    ·by_cases hie:i=l.length
     ·subst hie
      have hall:=cov_done hcov hclo (fun o ho'=>h3 o ho')
      have hready:Region.ready .any l.toArray listed=[]:=by
       unfold Region.ready
       refine List.filter_eq_nil_iff.2 (fun x hx=>?_)
       have hx:=List.mem_range.1 hx
       have hd:=hall x (by simpa using hx)
       unfold DoneAt at hd
       have hx2:x<l.length:=by simpa using hx
       have hxl:x<listed.size:=by omega
       rw [Array.getD_eq_getD_getElem?,Array.getElem?_eq_getElem hxl] at hd ⊢
       simp only [Option.getD_some] at hd ⊢
       rw [hd]
       simp
      have hK:=hq.1 hready w1 hw1
      rw [← eq_doneTo (c:=l.length) (by omega) hls hall hno] at hK
      obtain⟨Inv,g0,g1,g2⟩:=hK
      exact wpOp_imp (fun a2 w2 h=>⟨Inv,h,g1,g2⟩) (g1 _ _ _ _ g0 hi)
     ·exfalso
      unfold nextB at hnx
      have hx:=List.all_eq_true.1 hnx (i-(l.length+1)) (List.mem_range.2 (by rw [hsz];omega))
      rw [show l.length+1+(i-(l.length+1))=i by omega,ho] at hx
      simp only at hx
      obtain⟨e,he,h4⟩:=List.any_eq_true.1 hx
      simp only [Bool.and_eq_true,decide_eq_true_eq] at h4
      exact hno e.on h4.2 (h3 _ ho e (by simpa using he) h4.1)
   ·exfalso
    have hall:=all_done' hb (by rw [hsz];omega) hr
    exact hno l.length (Nat.le_refl _) (hall l.length (by rw [hsz];omega))
 refine main _ _ a w1 hw1 (by simp [doneTo];omega) (fun i o hi hd e he hbd=>?_) (fun i hi hd=>?_) hq0
 ·rw [done_doneTo] at hd ⊢
  have hil:i<(l++m).toArray.size:=(Array.getElem?_eq_some_iff.1 hi).1
  unfold backB at hb
  have h2:=List.all_eq_true.1 hb i (List.mem_range.2 hil)
  rw [hi] at h2
  simp only at h2
  rw [List.all_eq_true] at h2
  have h3:=h2 e (by simpa using he)
  rw [hbd] at h3
  simp only [Bool.not_true,Bool.false_or,decide_eq_true_eq] at h3
  omega
 ·rw [done_doneTo] at hd
  omega
theorem from_quiet {a:Act} {w w1:World} (hw1:∃ n,w1=w.drewN n) (c c':Nat) (hcc:(decide (c≤(L.take c').length))=true) (hm:(L.drop c').isEmpty=false) (hns:Region.noSelect (L.take c').toArray=true) (hB:Region.lexFrom .any (L.take c').toArray ((L.take c').drop c).length c (doneTo L.length c)=true) (hb:backB L.toArray=true)
  (hcov:covB L.toArray (L.take c').length=true) (hnx:nextB L.toArray (L.take c').length=true) (hg:guardsB (L.take c')=true) (hl:(L.take c').length=c')
  (h:wpQuiet P (L.take c').toArray (fun w'=>∃ n,w'=w.drewN n) (fun a'=>∀ w',(∃ n,w'=w.drewN n)→AnyFrom P L.toArray Q (doneTo L.length c') a' w') ((L.take c').drop c) a):AnyFrom P L.toArray Q (doneTo L.length c) a w1:=by
 have e:L=L.take c'++L.drop c':=(List.take_append_drop c' L).symm
 have:=from_quiet_app (P:=P) (Q:=Q) (l:=L.take c') (m:=L.drop c') (a:=a) (w:=w) (w1:=w1) hw1 c (by simpa using hcc) (fun e'=>by rw [e'] at hm;cases hm) hns (by rw [← e];exact hB) (by rw [← e];exact hb) (by rw [← e];exact hcov) (by rw [← e];exact hnx) hg (by rw [← e,hl];exact h)
 rw [← e] at this
 exact this
def ordB (L:List Oper) (c m:Nat):Bool:=(List.range m).all (fun k=>Region.ready .any L.toArray (doneTo L.length (c+k))==[c+k])
theorem set_doneTo {n c:Nat} (h:c<n):(doneTo n c).setIfInBounds c true=doneTo n (c+1):=by
 refine eq_doneTo (by omega) (by simp [doneTo];omega) (fun i hi=>?_) (fun i hi hd=>?_)
 ·by_cases e:i=c
  ·subst e;exact done_self (by simp [doneTo];omega)
  ·exact done_mono (done_doneTo.2 (by omega))
 ·rcases done_set hd with rfl | hd
  ·omega
  ·rw [done_doneTo] at hd;omega
theorem from_ord:∀ (m c:Nat) {a:Act} {w:World},ordB L c m=true→c+m≤L.length→wpList P L.toArray (Exit.then (AnyFrom P L.toArray Q (doneTo L.length (c+m))) Q) ((L.drop c).take m) a w→AnyFrom P L.toArray Q (doneTo L.length c) a w
 | 0,c,a,w,_,_,h=>by simpa [wpList,Exit.then] using h
 | m+1,c,a,w,hc,hle,h=>by
  have hcl:c<L.length:=by omega
  unfold ordB at hc
  have h0:=List.all_eq_true.1 hc 0 (List.mem_range.2 (by omega))
  simp only [Nat.add_zero,beq_iff_eq] at h0
  have hrest:ordB L (c+1) m=true:=by
   unfold ordB
   refine List.all_eq_true.2 (fun k hk=>?_)
   have:=List.all_eq_true.1 hc (k+1) (List.mem_range.2 (by have:=List.mem_range.1 hk;omega))
   rw [show c+1+k=c+(k+1) by omega]
   exact this
  rw [List.drop_eq_getElem_cons hcl,List.take_succ_cons] at h
  have ih:=fun (a':Act) (w':World) hh=>from_ord m (c+1) (a:=a') (w:=w') hrest (by omega) hh
  rw [show c+1+m=c+(m+1) by omega] at ih
  refine AnyFrom.intro (fun i hi=>?_) (fun e=>by rw [h0] at e;cases e)
  rw [h0] at hi
  obtain rfl:=List.mem_singleton.1 hi
  rw [set_doneTo hcl]
  unfold wpOp
  rw [show L.toArray[i]?=some L[i] by simp [hcl]]
  simp only
  simp only [wpList] at h
  split
  ·rename_i hw
   rw [if_pos hw] at h
   rcases h with h | ⟨h1,h2⟩
   ·exact .inl (Oper.wp_mono ih (upon_then h))
   ·exact .inr ⟨h1,h2⟩
  ·rename_i hw
   rw [if_neg hw] at h
   exact ih _ _ h
theorem from_last {a:Act} {w:World} (c:Nat) (hc:ordB L c (L.length-c)=true) (hle:c≤L.length) (hr:Region.ready .any L.toArray (doneTo L.length L.length)=[]) (h:wpList P L.toArray (Exit.then (fun a w=>Q .normal a w) Q) (L.drop c) a w):AnyFrom P L.toArray Q (doneTo L.length c) a w:=by
 refine from_ord (L.length-c) c hc (by omega) ?_
 rw [List.take_of_length_le (by simp)]
 rw [show c+(L.length-c)=L.length by omega]
 have mono:∀ (l:List Oper) (a:Act) (w:World),wpList P L.toArray (Exit.then (fun a w=>Q .normal a w) Q) l a w→wpList P L.toArray (Exit.then (AnyFrom P L.toArray Q (doneTo L.length L.length)) Q) l a w:=by
  intro l
  induction l with
  | nil=>intro a w h;exact from_end hr h
  | cons o l ih =>
   intro a w h
   simp only [wpList] at h ⊢
   split
   ·rename_i hw
    rw [if_pos hw] at h
    rcases h with h | ⟨h1,h2⟩
    ·refine .inl (Oper.wp_mono ih ?_)
     unfold Oper.wp at h ⊢
     unfold Oper.upon at *
     split at h<;>exact h
    ·exact .inr ⟨h1,h2⟩
   ·rename_i hw
    rw [if_neg hw] at h
    exact ih _ _ h
 exact mono _ _ _ h
theorem from_quiet_last {a:Act} {w w1:World} (hw1:∃ n,w1=w.drewN n) (c:Nat) (hns:Region.noSelect L.toArray=true) (hB:Region.lexFrom .any L.toArray (L.drop c).length c (doneTo L.length c)=true)
  (h:wpQuiet P L.toArray (fun w'=>∃ n,w'=w.drewN n) (fun a'=>∀ w',(∃ n,w'=w.drewN n)→Q .normal a' w') (L.drop c) a):AnyFrom P L.toArray Q (doneTo L.length c) a w1:=by
 have hq0:=wpAnyQ_lex hns (L.drop c) c (doneTo L.length c) a (fun j=>by simp) hB h
 have main:∀ (fuel:Nat) (listed:Array Bool) (a:Act) (w1:World),(∃ n,w1=w.drewN n)→wpAnyQ P .any L.toArray (fun w'=>∃ n,w'=w.drewN n) (fun a'=>∀ w',(∃ n,w'=w.drewN n)→Q .normal a' w') fuel listed a→AnyFrom P L.toArray Q listed a w1:=by
  intro fuel
  induction fuel with
  | zero =>
   intro listed a w1 hw1 hq
   exact AnyFrom.intro (fun i hi=>by rw [hq.1] at hi;cases hi) (fun _=>hq.2 w1 hw1)
  | succ fuel ih =>
   intro listed a w1 hw1 hq
   exact AnyFrom.intro (fun i hi=>wpOp_of_qOp hw1 (fun a' w' hw' hK=>ih _ a' w' hw' hK) (hq.2 i hi)) (fun hr=>hq.1 hr w1 hw1)
 exact main _ _ a w1 hw1 hq0
theorem region_layers {id:Nat} {a:Act} {w:World} (hm:P.follows .mixedOrders=true) (h:∀ w1,(∃ n,w1=w.drewN n)→AnyFrom P L.toArray Q (doneTo L.length 0) a w1):(Code.region id L.toArray true).wp P Q a w:=by
 refine region_from hm ?_
 rw [show Array.replicate L.toArray.size false=doneTo L.length 0 by simp [doneTo]]
 exact h _ ⟨1,rfl⟩
end
end Go.Proofs.YtjefgmeejhakbabGreatDoor
namespace Go.Proofs.YtjefgmeejhakbabGreatDoor
theorem mid0_eng0:Mid0 eng0:=by
 have hcw:eng0.ce.cw=[]:=rfl
 refine⟨⟨good0,fun k x h=>(by cases h),fun k i h=>(by cases h),fun i t h=>(by simp [eng0,Eng.ce] at h),fun i h=>h.elim,fun i t k h=>(by simp [eng0,Eng.ce] at h)⟩,⟨fun i t h=>(by simp [eng0,Eng.ce] at h),by decide,by decide⟩,?_⟩
 refine⟨List.Pairwise.nil,fun i=>⟨fun h=>(by cases h),fun ⟨t,h,_⟩=>(by simp [eng0,Eng.ce] at h)⟩,fun i t h=>(by simp [eng0,Eng.ce] at h),by decide,rfl,rfl,fun c=>?_,rfl,fun a ha=>⟨0,Nat.zero_le _,?_,fun u _=>.inl rfl⟩,fun i j t a c h=>(by simp [eng0,Eng.ce] at h)⟩
 ·rw [hcw]
  split<;>rfl
 ·show (List.replicate 10 ([]:List (Int × Int)))[a]?=_
  rw [List.getElem?_replicate,if_pos ha]
  rfl
end Go.Proofs.YtjefgmeejhakbabGreatDoor
namespace Go.Proofs.YtjefgmeejhakbabGreatDoor
open Go.RowKit
def lastOf (ws:List (Int × Int)) (a:Int):Option Int:=((ws.filter (fun p=>p.1==a)).getLast?).map (·.2)
theorem lastOf_snoc (ws:List (Int × Int)) (p:Int × Int) (a:Int):lastOf (ws++[p]) a=if a=p.1 then some p.2 else lastOf ws a:=by
 unfold lastOf
 rw [List.filter_append,List.filter_cons]
 by_cases e:a=p.1
 ·rw [if_pos e,if_pos (by simp [e]),List.filter_nil,List.getLast?_concat]
  rfl
 ·rw [if_neg e,if_neg (by simp;exact fun h=>e h.symm),List.filter_nil,List.append_nil]
theorem snoc_ind' {α:Type} {P:List α→Prop} (h0:P []) (h1:∀ l x,P l→P (l++[x])):∀ l,P l:=by
 intro l
 have key:∀ (n:Nat) (l:List α),l.length=n→P l:=by
  intro n
  induction n with
  | zero=>intro l h;rw [List.eq_nil_of_length_eq_zero h];exact h0
  | succ n ih =>
   intro l h
   have hne:l≠[]:=fun e=>by rw [e] at h;cases h
   rw [← List.dropLast_concat_getLast hne]
   exact h1 _ _ (ih _ (by rw [List.length_dropLast];omega))
 exact key _ l rfl
theorem lastOf_append (ws vs:List (Int × Int)) (a:Int):lastOf (ws++vs) a=match lastOf vs a with
  | some x=>some x
  | none=>lastOf ws a:=by
 refine snoc_ind' (P:=fun vs=>lastOf (ws++vs) a=match lastOf vs a with | some x=>some x | none=>lastOf ws a) ?_ (fun l p ih=>?_) vs
 ·rw [List.append_nil];rfl
 ·rw [← List.append_assoc,lastOf_snoc,lastOf_snoc,ih]
  by_cases e:a=p.1
  ·rw [if_pos e,if_pos e]
  ·rw [if_neg e,if_neg e]
theorem inst_over (t:Int) (ws:List (Int × Int)):(∀ p∈ws,0≤p.1∧p.1<10)→(instP t ws (List.replicate 10 [])).length=10∧∀ a:Nat,a<10→(instP t ws (List.replicate 10 []))[a]?=some (match lastOf ws a with | some x=>[(t,x)] | none=>[]):=by
 refine snoc_ind' (P:=fun ws=>(∀ p∈ws,0≤p.1∧p.1<10)→(instP t ws (List.replicate 10 [])).length=10∧∀ a:Nat,a<10→(instP t ws (List.replicate 10 []))[a]?=some (match lastOf ws a with | some x=>[(t,x)] | none=>[])) ?_ (fun l p ih=>?_) ws
 ·intro _
  refine⟨rfl,fun a ha=>?_⟩
  have:instP t [] (List.replicate 10 [])=List.replicate 10 []:=rfl
  rw [this,List.getElem?_replicate,if_pos ha]
  rfl
 ·intro h
  obtain⟨h1,h2⟩:=ih (fun q hq=>h q (List.mem_append_left _ hq))
  have hp:=h p (List.mem_append_right _ (List.mem_singleton.2 rfl))
  obtain⟨k,v⟩:=p
  simp only at hp
  rw [instP_snoc]
  refine⟨by rw [List.length_set];exact h1,fun a ha=>?_⟩
  rw [lastOf_snoc]
  by_cases e:(a:Int)=k
  ·have ea:k.toNat=a:=by omega
   rw [ea,List.getElem?_set_self (by rw [h1];exact ha),h2 a ha,if_pos e]
   simp only [Option.getD_some]
   cases lastOf l (a:Int) with
   | none=>rw [putP_nil]
   | some x =>
    have:=putP_same t v x []
    simp only [List.nil_append] at this
    rw [this]
  ·rw [if_neg e,List.getElem?_set_ne (by omega)]
   exact h2 a ha
def engO (t:Int) (ws:List (Int × Int)):Eng:={ eng0 with last:=t,ks:=instP t ws (List.replicate 10 []) }
theorem mid_engO {t:Int} (ht:0≤t∧t≤1000) {ws:List (Int × Int)} (hw:∀ p∈ws,0≤p.1∧p.1<10):Mid t (lastOf ws) (engO t ws).ce noQ:=by
 have h0:=mid0_eng0
 have hi:=inst_over t ws hw
 refine⟨h0.loc,h0.reg,?_⟩
 have hC:=h0.com
 refine⟨hC.comn,hC.coms,fun i u hu=>by simp [engO,Eng.ce,eng0] at hu,by omega,?_,hC.nwc,fun c=>?_,hi.1,fun a ha=>?_,fun i j u a c hu=>by simp [engO,Eng.ce,eng0] at hu⟩
 ·show t=t+((engO t ws).ce.cw.length:Int)
  have:(engO t ws).ce.cw=[]:=rfl
  rw [this]
  simp
 ·have:(engO t ws).ce.cw=[]:=rfl
  rw [this]
  show (none:Option Int)=_
  split<;>rfl
 ·have hf:full t (lastOf ws) (engO t ws).ce (a:Int)=match lastOf ws (a:Int) with | some x=>[(t,x)] | none=>[]:=by
   unfold full
   have:(engO t ws).ce.cw=[]:=rfl
   rw [this]
   cases lastOf ws (a:Int)<;>rfl
  refine⟨0,Nat.zero_le _,?_,fun u _=>.inl rfl⟩
  rw [hf,List.drop_zero]
  exact hi.2 a ha
set_option maxRecDepth 100000 in
set_option maxHeartbeats 1000000 in
theorem over_any (t:Nat) (ws:List (Int × Int)) (v:Value) (w:World) (ht:t≤1000) (h0:t=0↔ws=[]) (hn:ws.length≤100000) (hf:∀ p∈ws,Fine p) {base:Nat} (hrow:w.ownsRow base 122 2 v ws.length (vrow ws)) :
  Calls Tryz.prog 193 #[.int .i64 (t:Int),v] w fun e w'=>∃ L,e=.returned (.tuple #[.pointer (some ⟨L.s,0,none⟩),.nilIface])∧EnAt w' L (engO t ws)∧Below w.heap.size w w'∧∀ g,L.own g→w.heap.size≤g:=by
 have HN:=hid (new_any w)
 obtain⟨ad,cap,rfl⟩:=row_form hrow
 by_cases hz:t=0
 ·have hws:=h0.1 hz
  subst hz hws
  have he:engO ((0:Nat):Int) []=eng0:=rfl
  rw [he]
  clear hrow
  go_enter Tryz.func193,Tryz.ntmps193
  go_wp2_with fail
  refine HN.out.mono ?_
  rintro e w1 ⟨L,rfl,hE,hB,hO⟩
  have HF:=hid (And.intro hE (And.intro hB hO))
  clear hE hB hO HN
  go_wp2
  go_ret2
  exact⟨L,rfl,HF.out⟩
 ·have hne:ws≠[]:=fun e=>hz (h0.2 e)
  have gt:((t:Int)==0)=false:=beq_false_of_ne (by omega)
  rcases row_slice hrow with ⟨_,e0⟩ | ⟨g,c,e,hg,hc⟩
  ·exact (hne (List.eq_nil_of_length_eq_zero e0)).elim
  ·injection e with e1 e2 e3
   subst e1 e3
   have hwr:=vrow_wrow hc
   have HIN:=hid (fun (w1:World) (L:EnL) (hE:EnAt w1 L eng0) (hB:Below w.heap.size w w1) (hO:∀ g,L.own g→w.heap.size≤g)=>install_good (L.s+1) L.s g 0 cap 0 (t:Int) L.vs (List.replicate 10 []) ws w1 hE.sto (by have:=hE.sto.lt;omega) (hwr.same (hB.block g hg)) (fun hr=>by have:=hO g (.inr (.inl hr));omega) (fun e=>by have:=hO L.s (.inl rfl);omega) (Nat.lt_of_lt_of_le hg hB.size) hf (by omega) (by omega) hn (fun l hl=>by simp at hl;rw [hl];simp))
   clear hrow hc hwr
   go_enter Tryz.func193,Tryz.ntmps193
   go_wp2_with fail
   refine HN.out.mono ?_
   rintro e w1 ⟨L,rfl,hE,hB,hO⟩
   have HF:=hid (And.intro hE (And.intro hB hO))
   clear hE hB hO HN
   go_wp2_with fail
   refine (HIN.out w1 L HF.out.1 HF.out.2.1 HF.out.2.2).mono ?_
   rintro e w2 ⟨rfl,vs',hS,hK⟩
   obtain⟨h3,k3⟩:=HF.out.1.setSto hS hK
   have HE:=hid (show EnAt w2 { L with vs:=vs' } (engO t ws) from h3)
   have HB:=hid (show Below w.heap.size w w2 from ⟨k3.os.trans HF.out.2.1.os,k3.tape.trans HF.out.2.1.tape,k3.output.trans HF.out.2.1.output,Nat.le_trans HF.out.2.1.size k3.size,fun k hk=>(k3.block k (Nat.lt_of_lt_of_le hk HF.out.2.1.size) (fun ho=>by have:=HF.out.2.2 k ho;omega)).trans (HF.out.2.1.block k hk)⟩)
   have HO:=hid (show ∀ g,({ L with vs:=vs' }:EnL).own g→w.heap.size≤g from fun k hk=>by
    rcases k3.sub k hk with h5 | h5
    ·exact HF.out.2.2 k h5
    ·have:=HF.out.2.1.size
     omega)
   clear hS hK h3 k3
   go_wp2
   go_ret2
   exact⟨{ L with vs:=vs' },rfl,HE.out,HB.out,HO.out⟩
end Go.Proofs.YtjefgmeejhakbabGreatDoor
namespace Go.Proofs.YtjefgmeejhakbabGreatDoor
open Go.RowKit
def basCells (d s:Nat) (used torn:Int) (down:Bool):Array Value:=#[.pointer (some ⟨d,0,none⟩),.pointer (some ⟨s,0,none⟩),.int .i64 used,.int .i64 torn,.bool down]
theorem flat_nil {recs:List (List (Int × Int))} (h:∀ ws∈recs,ws≠[]):recs.length=0↔recs.flatten=[]:=by
 constructor
 ·intro h0
  rw [List.eq_nil_of_length_eq_zero h0]
  rfl
 ·intro h0
  cases recs with
  | nil=>rfl
  | cons x r =>
   rw [List.flatten_cons,List.append_eq_nil_iff] at h0
   exact (h x (List.mem_cons_self ..) h0.1).elim
theorem flat_fine {D:Dsk} {recs:List (List (Int × Int))} (h:Recs D recs):∀ p∈recs.flatten,Fine p:=fun p hp=>by
 obtain⟨ws,h1,h2⟩:=List.mem_flatten.1 hp
 exact h.fine ws h1 p h2
theorem fine_key {p:Int × Int} (h:Fine p):0≤p.1∧p.1<10:=by
 obtain⟨n,e,hn⟩:=keyB_nat h.1
 omega
set_option maxRecDepth 100000 in
set_option maxHeartbeats 1000000 in
theorem open_any' {w:World} {d:Nat} {dv:List Value} {D:Dsk} (h:DiskAt w d dv D) {recs:List (List (Int × Int))} (hr:Recs D recs) :
  Calls Tryz.prog 118 #[.pointer (some ⟨d,0,none⟩)] w fun e w'=>∃ b L,e=.returned (.tuple #[.pointer (some ⟨b,0,none⟩),.nilIface])∧w'.heap[b]?=some (.cells (basCells d L.s recs.length 0 false) 262 (0,0))∧EnAt w' L (engO recs.length recs.flatten)∧Below w.heap.size w w'∧(∀ g,L.own g→w.heap.size≤g)∧w.heap.size≤b∧¬ L.own b:=by
 have HW:=hid (written_any h hr)
 have hfl:recs.flatten.length≤100000:=by
  have:=flat_le hr.len (Nat.le_refl recs.length)
  have:=hr.lt
  omega
 have HOV:=hid (fun (v:Value) (w1:World) (hrow:w1.ownsRow w.heap.size 122 2 v recs.flatten.length (vrow recs.flatten))=>over_any recs.length recs.flatten v w1 (by have:=hr.lt;omega) (flat_nil hr.ne) hfl (flat_fine hr) hrow)
 clear h hfl
 go_enter Tryz.func118,Tryz.ntmps118
 go_wp2_with fail
 refine HW.out.mono ?_
 rintro e w1 ⟨v,rfl,hrow,hB1⟩
 have HR1:=hid hrow
 have HB1:=hid hB1
 clear hrow hB1 HW
 go_wp2_with fail
 refine (HOV.out v w1 HR1.out).mono ?_
 rintro e w2 ⟨L,rfl,hE,hB2,hO⟩
 have HE:=hid hE
 have HB2:=hid hB2
 have HO:=hid hO
 clear hE hB2 hO HOV
 go_wp2
 go_ret2
 have hs1:=HB1.out.size
 have hs2:=HB2.out.size
 have hBa:Below w2.heap.size w2 (w2.alloc (.cells (basCells d L.s recs.length 0 false) 262)):=(Below.refl _ w2).alloc (Nat.le_refl _) _
 refine⟨w2.heap.size,L,rfl,heap_alloc_new w2 _,HE.out.below hBa,HB1.out.trans ((HB2.out.mono hs1).trans (hBa.mono (by omega))),fun g hg=>Nat.le_trans hs1 (HO.out g hg),by omega,fun ho=>by have:=HE.out.own_lt ho;omega⟩
end Go.Proofs.YtjefgmeejhakbabGreatDoor
namespace Go.Proofs.YtjefgmeejhakbabGreatDoor
open Go.RowKit
section
variable {w w':World} {L:EnL} {E:Eng}
set_option maxRecDepth 100000 in
theorem ready_shut (h:EnAt w L E) {n c:Int} (hc:(c=7∧(n<1∨(E.txs.length:Int)<n))∨(c=6∧∃ (i:Nat) (t:Tx),n=(i:Int)+1∧E.txs[i]?=some t∧t.state≠0)) :
  Calls Tryz.prog 177 #[.pointer (some ⟨L.s,0,none⟩),.int .i64 n] w fun e w'=>e=.returned (.iface 33 (.int .i64 c))∧w'=w:=by
 have HO:Hid (Calls Tryz.prog 194 #[.pointer (some ⟨L.s,0,none⟩),.int .i64 n] w fun e w'=>e=.returned (.tuple #[.pointer none,.iface 33 (.int .i64 c)])∧w'=w):=by
  rcases hc with ⟨rfl,hn⟩ | ⟨rfl,i,t,rfl,ht,hs⟩
  ·exact open_err h hn
  ·obtain⟨l,hl,_⟩:=h.get ht
   exact open_state h hl ht hs
 have hne:∀ w,(binOp .neq 27 (.iface 33 (.int .i64 c)) .nilIface).run Tryz.prog w=.ok (.bool true) w:=fun _=>by kernel_rfl
 clear h hc
 go_enter Tryz.func177,Tryz.ntmps177
 go_wp2_with fail
 refine HO.out.mono ?_
 rintro e w1 ⟨rfl,hw1⟩
 rw [hw1]
 clear hw1 w1 HO
 go_wp2
 go_ret
 exact⟨rfl,rfl⟩
set_option maxRecDepth 100000 in
theorem ready_main (h:EnAt w L E) {i:Nat} {t:Tx} (ht:E.txs[i]?=some t) (hs:t.state=0) :
  Calls Tryz.prog 177 #[.pointer (some ⟨L.s,0,none⟩),.int .i64 ((i:Int)+1)] w fun e w'=>e=.returned (if betB t.ahead t.behind=true then .iface 33 (.int .i64 13) else .nilIface)∧w'=w:=by
 obtain⟨l,hl,hA⟩:=h.get ht
 have HO:=hid (open_ok h hl ht hs)
 have HB:=hid (between_any l.b l.ab l.hb 201 201 t.ahead t.behind w hA.c20 hA.c21 hA.ah hA.be)
 cases hb:betB t.ahead t.behind with
 | true =>
  rw [hb] at HB
  clear h hl ht hs hA hb
  go_enter Tryz.func177,Tryz.ntmps177
  go_wp2_with fail
  refine HO.out.mono ?_
  rintro e w1 ⟨rfl,hw1⟩
  rw [hw1]
  clear hw1 w1 HO
  go_wp2_with fail
  refine HB.out.mono ?_
  rintro e w1 ⟨rfl,hw1⟩
  rw [hw1]
  clear hw1 w1 HB
  go_wp2
  go_ret
  exact⟨rfl,rfl⟩
 | false =>
  rw [hb] at HB
  clear h hl ht hs hA hb
  go_enter Tryz.func177,Tryz.ntmps177
  go_wp2_with fail
  refine HO.out.mono ?_
  rintro e w1 ⟨rfl,hw1⟩
  rw [hw1]
  clear hw1 w1 HO
  go_wp2_with fail
  refine HB.out.mono ?_
  rintro e w1 ⟨rfl,hw1⟩
  rw [hw1]
  clear hw1 w1 HB
  go_wp2
  go_ret
  exact⟨rfl,rfl⟩
end
end Go.Proofs.YtjefgmeejhakbabGreatDoor
namespace Go.Proofs.YtjefgmeejhakbabGreatDoor
open Go.RowKit
structure BasAt (w:World) (b d:Nat) (L:EnL) (E:Eng) (dv:List Value) (D:Dsk) (used torn:Int) (down:Bool):Prop where
 bas:w.heap[b]?=some (.cells (basCells d L.s used torn down) 262 (0,0))
 dsk:DiskAt w d dv D
 en:EnAt w L E
 sepb:¬ L.own b
 sepd:∀ g,dOwn d dv g→¬ L.own g∧g≠b
section
variable {w w':World} {b d:Nat} {L L':EnL} {E E':Eng} {dv dv':List Value} {D D':Dsk} {used torn:Int} {down:Bool}
theorem BasAt.lt (h:BasAt w b d L E dv D used torn down):b<w.heap.size:=(Array.getElem?_eq_some_iff.1 h.bas).1
theorem BasAt.cell (h:BasAt w b d L E dv D used torn down) (o:Nat):w.cell? ⟨b,o,none⟩=(basCells d L.s used torn down)[o]?:=cell_of_row w b o _ _ (0,0) h.bas
theorem BasAt.free (h:BasAt w b d L E dv D used torn down) (o:Nat):w.frozen? ⟨b,o,none⟩=false:=by simp [World.frozen?,h.bas]
theorem BasAt.below (h:BasAt w b d L E dv D used torn down) (hB:Below w.heap.size w w'):BasAt w' b d L E dv D used torn down :=
 ⟨(hB.block b h.lt).trans h.bas,h.dsk.below hB,h.en.below hB,h.sepb,h.sepd⟩
theorem BasAt.drewN (h:BasAt w b d L E dv D used torn down) (q:Nat):BasAt (w.drewN q) b d L E dv D used torn down:=h.below (below_drewN (Below.refl _ w) q)
theorem BasAt.turn (h:BasAt w b d L E dv D used torn down) (hE:EnAt w' L' E') (hK:KeptO L.own L'.own w w') (hs:L'.s=L.s):BasAt w' b d L' E' dv D used torn down:=by
 refine⟨?_,?_,hE,?_,?_⟩
 ·rw [hs];exact (hK.block b h.lt h.sepb).trans h.bas
 ·exact h.dsk.same hK.size (fun g hg=>hK.block g (h.dsk.own_lt hg) (h.sepd g hg).1)
 ·intro ho
  rcases hK.sub b ho with h1 | h1
  ·exact h.sepb h1
  ·have:=h.lt;omega
 ·intro g hg
  refine⟨fun ho=>?_,(h.sepd g hg).2⟩
  rcases hK.sub g ho with h1 | h1
  ·exact (h.sepd g hg).1 h1
  ·have:=h.dsk.own_lt hg;omega
theorem BasAt.post (h:BasAt w b d L E dv D used torn down) (hP:EnPost L E' w w'):∃ L',BasAt w' b d L' E' dv D used torn down∧KeptO L.own L'.own w w'∧L'.s=L.s:=by
 obtain⟨L',hE,hK,hs,_⟩:=hP
 exact⟨L',h.turn hE hK hs,hK,hs⟩
theorem BasAt.setOwn (h:BasAt w b d L E dv D used torn down) {o:Nat} {v:Value} {used' torn':Int} {down':Bool} (hc:(basCells d L.s used torn down).setIfInBounds o v=basCells d L.s used' torn' down'):BasAt (w.setCell ⟨b,o,none⟩ v) b d L E dv D used' torn' down':=by
 have hb:∀ k,k≠b→(w.setCell ⟨b,o,none⟩ v).heap[k]?=w.heap[k]?:=fun k hk=>heap_setCell_other _ _ _ _ hk
 refine⟨(setCell_at h.bas).trans (by rw [hc]),h.dsk.same (by simp) (fun g hg=>hb g (h.sepd g hg).2),h.en.same (fun g hg=>hb g (fun e=>h.sepb (e▸hg))),h.sepb,h.sepd⟩
theorem BasAt.setDisk (h:BasAt w b d L E dv D used torn down) (hD:DiskAt w' d dv' D') (ho:∀ g,dOwn d dv' g→dOwn d dv g∨w.heap.size≤g) (hk:∀ k,k<w.heap.size→k≠d→w'.heap[k]?=w.heap[k]?):BasAt w' b d L E dv' D' used torn down:=by
 have hbd:b≠d:=fun e=>(h.sepd d (.inl rfl)).2 e.symm
 refine⟨(hk b h.lt hbd).trans h.bas,hD,h.en.same (fun g hg=>hk g (h.en.own_lt hg) (fun e=>(h.sepd d (.inl rfl)).1 (e▸hg))),h.sepb,fun g hg=>?_⟩
 rcases ho g hg with h1 | h1
 ·exact h.sepd g h1
 ·exact⟨fun ho=>by have:=h.en.own_lt ho;omega,fun e=>by have:=h.lt;omega⟩
end
section
variable {w:World} {b d:Nat} {L:EnL} {E:Eng} {dv:List Value} {D:Dsk} {used torn:Int} {down:Bool}
set_option maxRecDepth 100000 in
theorem bengine_any (h:BasAt w b d L E dv D used torn down):Calls Tryz.prog 168 #[.pointer (some ⟨b,0,none⟩)] w fun e w'=>e=.returned (.pointer (some ⟨L.s,0,none⟩))∧w'=w:=by
 have c1:=h.cell 1
 simp only [basCells,List.getElem?_toArray,List.getElem?_cons_zero,List.getElem?_cons_succ] at c1
 clear h
 go_enter Tryz.func168,Tryz.ntmps168
 go_wp2
 go_ret
 exact⟨rfl,rfl⟩
set_option maxRecDepth 100000 in
theorem bdown_any (h:BasAt w b d L E dv D used torn down):Calls Tryz.prog 116 #[.pointer (some ⟨b,0,none⟩)] w fun e w'=>e=.returned (.bool down)∧w'=w:=by
 have c1:=h.cell 4
 simp only [basCells,List.getElem?_toArray,List.getElem?_cons_zero,List.getElem?_cons_succ] at c1
 clear h
 go_enter Tryz.func116,Tryz.ntmps116
 go_wp2
 go_ret
 exact⟨rfl,rfl⟩
set_option maxRecDepth 100000 in
theorem bused_any (h:BasAt w b d L E dv D used torn down):Calls Tryz.prog 115 #[.pointer (some ⟨b,0,none⟩)] w fun e w'=>e=.returned (.int .i64 used)∧w'=w:=by
 have c1:=h.cell 2
 simp only [basCells,List.getElem?_toArray,List.getElem?_cons_zero,List.getElem?_cons_succ] at c1
 clear h
 go_enter Tryz.func115,Tryz.ntmps115
 go_wp2
 go_ret
 exact⟨rfl,rfl⟩
set_option maxRecDepth 100000 in
theorem btorn_any (h:BasAt w b d L E dv D used torn down) (n:Int):Calls Tryz.prog 104 #[.pointer (some ⟨b,0,none⟩),.int .i64 n] w fun e w'=>e=.returned (.tuple #[])∧BasAt w' b d L E dv D used (max 0 n) down∧(w'.heap.size=w.heap.size∧w'.os=w.os∧w'.tape=w.tape∧w'.output=w.output)∧∀ k,k≠b→w'.heap[k]?=w.heap[k]?:=by
 have c1:=h.cell 3
 simp only [basCells,List.getElem?_toArray,List.getElem?_cons_zero,List.getElem?_cons_succ] at c1
 have f1:=h.free 3
 have HF:=hid h
 clear h
 go_enter Tryz.func104,Tryz.ntmps104
 go_wp2
 refine bodyPost_end (results_none rfl _ _ _) rfl ?_
 exact⟨rfl,HF.out.setOwn rfl,⟨by simp,rfl,rfl,rfl⟩,fun k hk=>heap_setCell_other _ _ _ _ hk⟩
set_option maxRecDepth 100000 in
theorem dcut_any (h:DiskAt w d dv D) (n:Int):Calls Tryz.prog 103 #[.pointer (some ⟨d,0,none⟩),.int .i64 n] w fun e w'=>e=.returned (.tuple #[])∧DiskAt w' d dv { D with cut:=decide (n≥0),left:=n }∧(w'.heap.size=w.heap.size∧w'.os=w.os∧w'.tape=w.tape∧w'.output=w.output)∧∀ k,k≠d→w'.heap[k]?=w.heap[k]?:=by
 have c1:=h.cellCut
 have f1:=h.free 250
 have h1:=h.setCut (decide (n≥0))
 have c2:=h1.cellLeft
 have f2:=h1.free 251
 have HF:=hid (h1.setLeft n)
 clear h1 h
 go_enter Tryz.func103,Tryz.ntmps103
 go_wp2
 refine bodyPost_end (results_none rfl _ _ _) rfl ?_
 exact⟨rfl,HF.out,⟨by simp,rfl,rfl,rfl⟩,fun k hk=>(heap_setCell_other _ _ _ _ hk).trans (heap_setCell_other _ _ _ _ hk)⟩
end
end Go.Proofs.YtjefgmeejhakbabGreatDoor
namespace Go.Proofs.YtjefgmeejhakbabGreatDoor
section
variable {a0:Int} {K0:Int→Option Int} {E:Eng} {i:Nat} {u:Tx} {n:Nat}
end
def DskOk (D:Dsk) (recs:List (List (Int × Int))):Prop:=Recs D recs∧D.pl.length=250∧(∀ (j:Nat) (l:List Int),recs.length≤j→D.pl[j]?=some l→wholeP l=false)∧(-1≤D.left∧D.left≤100)
end Go.Proofs.YtjefgmeejhakbabGreatDoor
namespace Go.Proofs.YtjefgmeejhakbabGreatDoor
open Go.RowKit
set_option maxRecDepth 100000 in
set_option maxHeartbeats 400000 in
theorem lineL_err (ad:Option Addr) (cap n:Nat) (c p:Int) (w:World)
  (h:Calls Tryz.prog 185 #[.slice ad n cap] w fun e w'=>∃ pb,e=.returned (.tuple #[.slice none 0 0,.iface 222 (.pointer (some ⟨pb,0,none⟩))])∧w'.heap[pb]?=some (.cells #[.int .i64 c,.int .i64 p] 224 (0,0))∧Below w.heap.size w w') :
  Calls Tryz.prog 111 #[.slice ad n cap] w fun e w'=>∃ pb,e=.returned (.tuple #[.slice none 0 0,.iface 222 (.pointer (some ⟨pb,0,none⟩))])∧w'.heap[pb]?=some (.cells #[.int .i64 c,.int .i64 p] 224 (0,0))∧Below w.heap.size w w':=by
 have HC:=hid h
 clear h
 go_enter Tryz.func111,Tryz.ntmps111
 go_wp2_with fail
 refine HC.out.mono ?_
 rintro e w1 ⟨pb,rfl,hp,hB⟩
 have HP:=hid (And.intro hp hB)
 have hne:∀ w,(binOp .neq 27 (.iface 222 (.pointer (some ⟨pb,0,none⟩))) .nilIface).run Tryz.prog w=.ok (.bool true) w:=fun _=>by kernel_rfl
 clear hp hB
 go_wp2
 go_ret2
 exact⟨pb,rfl,HP.out⟩
end Go.Proofs.YtjefgmeejhakbabGreatDoor
