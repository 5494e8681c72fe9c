/- QuietLast FeComA FeComB EnMany FeWriteM: put together for a claim. -/
import Derived.Test.YtjefgmeejhakbaaGreatDoorMgAU
import Derived.BigQuiet
import Derived.Test.YtjefgmeejhakbaaGreatDoorMgAY
import Derived.Test.YtjefgmeejhakbaaGreatDoorEnHist
import Derived.Test.YtjefgmeejhakbaaGreatDoorMgAS
import Derived.Test.YtjefgmeejhakbaaGreatDoorMgAP
import Derived.Test.YtjefgmeejhakbaaGreatDoorMgAG
import Derived.Test.YtjefgmeejhakbaaGreatDoorMgBC
/- A region that draws its order: its first operations only read; its last ones wait for all that stand ahead of them, and may do what they like. -/
namespace Go.Proofs.YtjefgmeejhakbaaGreatDoor
open Go
def guardsB (l:List Oper):Bool:=l.all (fun o=>match o.guard with
 | none=>true
 | some (j,_)=>decide (j<l.length))
def covB (ops:Array Oper) (j:Nat):Bool:=(List.range j).all (fun i=>(List.range (j-i)).any (fun d=>match ops[i+1+d]? with
 | some o=>o.after.toList.any (fun e=>Region.binds .any e&&e.on==i)
 | none=>false))
theorem cov_done {ops:Array Oper} {j:Nat} (h:covB ops j=true) {listed:Array Bool} (hc:ClosedAt ops listed) (hj:∀ o,ops[j]?=some o→∀ e∈o.after,Region.binds .any e=true→DoneAt listed e.on):∀ i,i<j→DoneAt listed i:=by
 have key:∀ (d i:Nat),i<j→j-i≤d→DoneAt listed i:=by
  intro d
  induction d with
  | zero=>intro i hi h0;omega
  | succ d ih =>
   intro i hi hd
   unfold covB at h
   have h1:=List.all_eq_true.1 h i (List.mem_range.2 hi)
   obtain⟨x,hx,h2⟩:=List.any_eq_true.1 h1
   have hx:=List.mem_range.1 hx
   cases ho:ops[i+1+x]? with
   | none=>rw [ho] at h2;cases h2
   | some o =>
    rw [ho] at h2
    simp only at h2
    obtain⟨e,he,h3⟩:=List.any_eq_true.1 h2
    simp only [Bool.and_eq_true,beq_iff_eq] at h3
    have he':e∈o.after:=by simpa using he
    rw [← h3.2]
    by_cases hij:i+1+x=j
    ·exact hj o (by rw [← hij];exact ho) e he' h3.1
    ·exact hc _ o ho (ih (i+1+x) (by omega) (by omega)) e he' h3.1
 exact fun i hi=>key (j-i) i hi (Nat.le_refl _)
section
variable {P:Program} {Q:Exit→Act→World→Prop} {C:World→Prop} {l m:List Oper}
theorem app_get {i:Nat} (hi:i<l.length):(l++m).toArray[i]?=l.toArray[i]?:=by
 simp only [List.getElem?_toArray]
 rw [List.getElem?_append_left hi]
theorem app_wanted (hg:guardsB l=true) {i:Nat} {o:Oper} (ho:l.toArray[i]?=some o) (tmps:Array Value):Region.wanted o (yielded (l++m).toArray tmps)=Region.wanted o (yielded l.toArray tmps):=by
 unfold guardsB at hg
 have hm:o∈l:=List.mem_of_getElem? (by simpa using ho)
 have h1:=List.all_eq_true.1 hg o hm
 unfold Region.wanted
 cases hgd:o.guard with
 | none=>rfl
 | some p =>
  obtain⟨j,b⟩:=p
  rw [hgd] at h1
  simp only [decide_eq_true_eq] at h1
  simp only
  unfold yielded
  rw [app_get h1]
theorem app_wpOp (hg:guardsB l=true) {i:Nat} (hi:i<l.length) {K:Act→World→Prop} {a:Act} {w:World} (h:wpOp P l.toArray Q i K a w):wpOp P (l++m).toArray Q i K a w:=by
 unfold wpOp at *
 rw [app_get hi]
 have hs:l.toArray[i]?=some l[i]:=by simp [hi]
 rw [hs] at h ⊢
 simp only at h ⊢
 rw [app_wanted hg hs]
 exact h
theorem region_quiet_last {id:Nat} {a:Act} {w:World} (hm:P.follows .mixedOrders=true) (hns:Region.noSelect l.toArray=true) (hB:Region.lexFrom .any l.toArray l.length 0 (Array.replicate (l++m).length false)=true) (hb:backB (l++m).toArray=true)
    (hc:(List.range m.length).all (fun k=>covB (l++m).toArray (l.length+k))=true) (hg:guardsB l=true) (hne:m≠[]) (hC:C w.drew)
    (h:wpQuiet P l.toArray C (fun a'=>∀ w',C w'→wpList P (l++m).toArray Q m a' w') l a):(Code.region id (l++m).toArray true).wp P Q a w:=by
  have hsz:(l++m).toArray.size=l.length+m.length:=by simp
  have hcov:∀ k,k<m.length→covB (l++m).toArray (l.length+k)=true:=fun k hk=>List.all_eq_true.1 hc k (List.mem_range.2 hk)
  have hget:∀ k o,m[k]?=some o→(l++m).toArray[l.length+k]?=some o:=fun k o ho=>by
    simp only [List.getElem?_toArray]
    rw [List.getElem?_append_right (by omega),show l.length+k-l.length=k by omega]
    exact ho
  refine region_inv hm (fun listed a w=>listed.size=l.length+m.length∧ClosedAt (l++m).toArray listed ∧
    (((∀ i,l.length≤i→¬ DoneAt listed i)∧C w∧∃ fuel,wpAnyQ P .any l.toArray C (fun a'=>∀ w',C w'→wpList P (l++m).toArray Q m a' w') fuel listed a) ∨
      ∃ k,k≤m.length∧0<k∧(∀ i,i<l.length+k→DoneAt listed i)∧(∀ i,l.length+k≤i→¬ DoneAt listed i)∧wpList P (l++m).toArray Q (m.drop k) a w)) ?start ?step ?fin
  case start =>
    refine⟨by simp,fun i o _ hd=>(not_done_replicate _ _ hd).elim,.inl ⟨fun i _=>not_done_replicate _ _,hC,l.length,?_⟩⟩
    rw [hsz,← List.length_append]
    exact wpAnyQ_lex hns l 0 _ a (by simp) hB h
  case step =>
    intro listed a w i hI hi
    obtain⟨h1,h2,h3⟩:=ready_spec hi
    obtain⟨hls,hcl,hI⟩:=hI
    rw [hsz] at h1
    have ho:(l++m).toArray[i]?=some (l++m).toArray[i]:=Array.getElem?_eq_getElem (by rw [hsz];exact h1)
    have hdeps:=h3
    have hnd:¬ DoneAt listed i:=fun hd=>by
      unfold DoneAt at hd
      have:i<listed.size:=by omega
      rw [Array.getD_eq_getD_getElem?,Array.getElem?_eq_getElem this] at h2 hd
      simp only [Option.getD_some] at h2 hd
      rw [h2] at hd
      cases hd
    have hcl':ClosedAt (l++m).toArray (listed.setIfInBounds i true):=fun j o hj hd e he hbd=>by
      rcases done_set hd with rfl | hd
      · exact done_mono (hdeps o hj e he hbd)
      · exact done_mono (hcl j o hj hd e he hbd)
    -- the last ones: number l.length+k
    have hlast:∀ k,(∀ i',l.length+k≤i'→¬ DoneAt listed i')→i=l.length+k→(∀ i',i'<l.length+k→DoneAt listed i')→wpList P (l++m).toArray Q (m.drop k) a w→wpOp P (l++m).toArray Q i (fun a' w'=>(listed.setIfInBounds i true).size=l.length+m.length∧ClosedAt (l++m).toArray (listed.setIfInBounds i true) ∧
        (((∀ i',l.length≤i'→¬ DoneAt (listed.setIfInBounds i true) i')∧C w'∧∃ fuel,wpAnyQ P .any l.toArray C (fun a'=>∀ w',C w'→wpList P (l++m).toArray Q m a' w') fuel (listed.setIfInBounds i true) a') ∨
          ∃ k,k≤m.length∧0<k∧(∀ i',i'<l.length+k→DoneAt (listed.setIfInBounds i true) i')∧(∀ i',l.length+k≤i'→¬ DoneAt (listed.setIfInBounds i true) i')∧wpList P (l++m).toArray Q (m.drop k) a' w')) a w:=by
      intro k hnk hik hdk hw
      have hk:k<m.length:=by omega
      have hmk:m[k]?=some m[k]:=List.getElem?_eq_getElem hk
      rw [List.drop_eq_getElem_cons hk] at hw
      have hgo:(l++m).toArray[i]?=some m[k]:=by rw [hik];exact hget k _ hmk
      have hnext:∀ a' w',wpList P (l++m).toArray Q (m.drop (k+1)) a' w'→((listed.setIfInBounds i true).size=l.length+m.length∧ClosedAt (l++m).toArray (listed.setIfInBounds i true) ∧
        (((∀ i',l.length≤i'→¬ DoneAt (listed.setIfInBounds i true) i')∧C w'∧∃ fuel,wpAnyQ P .any l.toArray C (fun a'=>∀ w',C w'→wpList P (l++m).toArray Q m a' w') fuel (listed.setIfInBounds i true) a') ∨
          ∃ k,k≤m.length∧0<k∧(∀ i',i'<l.length+k→DoneAt (listed.setIfInBounds i true) i')∧(∀ i',l.length+k≤i'→¬ DoneAt (listed.setIfInBounds i true) i')∧wpList P (l++m).toArray Q (m.drop k) a' w')):=fun a' w' hw'=>by
        refine⟨by simpa using hls,hcl',.inr ⟨k+1,by omega,by omega,fun i' hi'=>?_,fun i' hi' hd=>?_,hw'⟩⟩
        · by_cases e:i'=i
          · subst e;exact done_self (by omega)
          · exact done_mono (hdk i' (by omega))
        · rcases done_set hd with rfl | hd
          · omega
          · exact hnk i' (by omega) hd
      unfold wpOp
      rw [hgo]
      simp only
      simp only [wpList] at hw
      split
      · rename_i hwt
        rw [if_pos hwt] at hw
        exact hw.imp (Oper.wp_mono hnext) _root_.id
      · rename_i hwt
        rw [if_neg hwt] at hw
        exact hnext _ _ hw
    rcases hI with ⟨hno,hCw,fuel,hq⟩ | ⟨k,hk,hk0,hdk,hnk,hw⟩
    · by_cases hic:i<l.length
      · have hir:i∈Region.ready .any l.toArray listed:=by
          unfold Region.ready at hi ⊢
          obtain⟨_,p2⟩:=List.mem_filter.1 hi
          refine List.mem_filter.2 ⟨List.mem_range.2 (by simpa using hic),?_⟩
          rw [app_get hic] at p2
          exact p2
        cases fuel with
        | zero=>rw [hq.1] at hir;cases hir
        | succ fuel =>
          refine app_wpOp hg hic (wpOp_of_qOp hCw (fun a' w' hw' hK=>?_) (hq.2 i hir))
          refine⟨by simpa using hls,hcl',.inl ⟨fun i' hi' hd=>?_,hw',fuel,hK⟩⟩
          rcases done_set hd with rfl | hd
          · omega
          · exact hno i' hi' hd
      · have hall:=cov_done (hcov (i-l.length) (by omega)) hcl (fun o ho'=>hdeps o (by rw [show l.length+(i-l.length)=i by omega] at ho';exact ho'))
        rw [show l.length+(i-l.length)=i by omega] at hall
        have hie:i=l.length:=Classical.byContradiction (fun hn=>hno l.length (Nat.le_refl _) (hall l.length (by omega)))
        have hready:Region.ready .any l.toArray listed=[]:=by
          unfold Region.ready
          refine List.filter_eq_nil_iff.2 (fun x hx=>?_)
          have hx:=List.mem_range.1 hx
          have hd:=hall x (by rw [hie];simpa using hx)
          unfold DoneAt at hd
          have hx2:x<l.length:=by simpa using hx
          have hxl:x<listed.size:=by omega
          rw [Array.getD_eq_getD_getElem?,Array.getElem?_eq_getElem hxl] at hd ⊢
          simp only [Option.getD_some] at hd ⊢
          rw [hd]
          simp
        have hQ0:∀ w',C w'→wpList P (l++m).toArray Q m a w':=by
          cases fuel with
          | zero=>exact hq.2
          | succ fuel=>exact hq.1 hready
        exact hlast 0 (fun i' hi'=>hno i' (by omega)) (by omega) (fun i' hi'=>hall i' (by omega)) (by simpa using hQ0 w hCw)
    · have hik:l.length+k≤i:=Nat.le_of_not_lt (fun hlt=>hnd (hdk i hlt))
      have hall:=cov_done (hcov (i-l.length) (by omega)) hcl (fun o ho'=>hdeps o (by rw [show l.length+(i-l.length)=i by omega] at ho';exact ho'))
      rw [show l.length+(i-l.length)=i by omega] at hall
      have hie:i=l.length+k:=Classical.byContradiction (fun hn=>hnk (l.length+k) (Nat.le_refl _) (hall (l.length+k) (by omega)))
      exact hlast k hnk hie hdk hw
  case fin =>
    intro listed a w hI hr
    obtain⟨hls,hcl,hI⟩:=hI
    have hall:=all_done hb (by rw [hsz];exact hls) hr
    rw [hsz] at hall
    have hml:0<m.length:=List.length_pos_iff.2 hne
    rcases hI with ⟨hno,_,_⟩ | ⟨k,hk,hk0,hdk,hnk,hw⟩
    · exact (hno l.length (Nat.le_refl _) (hall l.length (by omega))).elim
    · have hke:k=m.length:=Classical.byContradiction (fun hn=>hnk (l.length+k) (Nat.le_refl _) (hall (l.length+k) (by omega)))
      rw [hke,List.drop_length] at hw
      exact hw
theorem region_quiet_at {L:List Oper} (c:Nat) {id:Nat} {a:Act} {w:World} (hm:P.follows .mixedOrders=true) (hns:Region.noSelect (L.take c).toArray=true) (hB:Region.lexFrom .any (L.take c).toArray (L.take c).length 0 (Array.replicate L.length false)=true) (hb:backB L.toArray=true)
  (hc:(List.range (L.drop c).length).all (fun k=>covB L.toArray ((L.take c).length+k))=true) (hg:guardsB (L.take c)=true) (hne:(L.drop c).isEmpty=false)
  (h:wpQuiet P (L.take c).toArray (fun w'=>∃ n,w'=w.drewN n) (fun a'=>∀ w',(∃ n,w'=w.drewN n)→wpList P L.toArray Q (L.drop c) a' w') (L.take c) a):(Code.region id L.toArray true).wp P Q a w:=by
 have e:L=L.take c++L.drop c:=(List.take_append_drop c L).symm
 have:=region_quiet_last (P:=P) (Q:=Q) (C:=fun w'=>∃ n,w'=w.drewN n) (l:=L.take c) (m:=L.drop c) (id:=id) (a:=a) (w:=w) hm hns (by rw [← e];exact hB) (by rw [← e];exact hb) (by rw [← e];exact hc) hg (fun e'=>by rw [e'] at hne;cases hne) ⟨1,rfl⟩ (by rw [← e];exact h)
 rw [← e] at this
 exact this
end
end Go.Proofs.YtjefgmeejhakbaaGreatDoor
/- The document's engine: what Commit does to its history. -/
namespace Go.Proofs.YtjefgmeejhakbaaGreatDoor
open Go.RowKit
set_option maxRecDepth 100000 in
theorem step_app_row {w:World} {ops:Array Oper} {o:Oper} {a:Act} {K:Act→World→Prop} {Q:Exit→Act→World→Prop} {X:Prop} (hgd:o.guard=none) (s x:Operand)
  (ho:o.op=.call { callee:=.builtin .append,args:=#[s,x],argTypes:=#[22,22] }) (base:Nat) (v:Value) (n:Nat) (xs:List Value) (hs:a.eval s=v) (hown:w.ownsRow base 90 4 v n xs)
  (sv:Value) (m:Nat) (news:List Value) (hx:a.eval x=sv) (hsrc:w.ownsRow 0 90 4 sv m news) (h1:∀ u∈news,u.oneCell'=true) (hn:n+m≤4000000000000) (hbase:base≤w.heap.size)
  (h:∀ v' w',w'.ownsRow base 90 4 v' (n+m) (xs++news)→Below base w w'→K (a.put o.dst v') w'):if Region.wanted o (yielded ops a.tmps)=true then Oper.wp Tryz.prog o a w K Q else X:=by
 obtain⟨i0,hi0,hz0,hz1,hz2⟩:=info_parts info90
 have hw:Region.wanted o (yielded ops a.tmps)=true:=by simp [Region.wanted,hgd]
 rw [if_pos hw]
 by_cases hm:m=0
 ·subst hm
  have hne:news=[]:=List.eq_nil_of_length_eq_zero (by rw [hsrc.1])
  subst hne
  have hrun:(Builtin.append_ #[22,22] o.type #[v,sv]).run Tryz.prog w=.ok v w:=by
   rcases row_slice hsrc with ⟨rfl,_⟩ | ⟨g,c,rfl,_⟩
   ·exact run_append_owned_none (P:=Tryz.prog) (w:=w) base 22 o.type 90 i0 4 Tryz.underlying22 hi0 v n xs hown
   ·exact run_append_zero Tryz.underlying22 hi0 hown _ c
  unfold Oper.wp
  simp [execOp,ho,resolve,invoke,builtin,hs,hx,hrun,Result.andThen]
  exact h v w (by simpa using hown) (Below.refl _ _)
 ·rcases row_slice hsrc with ⟨_,e0⟩ | ⟨g,c,rfl,hg,hc⟩
  ·exact (hm e0).elim
  ·refine wp_append_lies w s x _ ho base 90 i0 _ 4 32 Tryz.underlying22 hi0 hz0 hz1 hz2 rfl (by omega) v n xs hs hown ⟨g,0,none⟩ m c news hx hsrc.1 (fun j u hu=>by rw [addr_add];exact hc j u hu) h1 (by omega) (by unfold maxLen;omega) (by omega) hbase w.heap.size rfl ?_
   intro g' cap w' h2 h3 h4 h5
   refine h _ w' h2 ⟨h3.os,h3.tape,h3.output,h3.size,fun b hb=>h3.block b (by omega) (fun e=>?_)⟩
   have:=(hown.lt b e.symm).1
   omega
section
variable {w w1 w':World} {L:REnL} {B:Nat} {E:Eng} {R:REng} {i:Nat} {t:Tx} {r:RTx}
theorem flat_len {α β:Type} (f:α→List β) (M:Nat):∀ l:List α,(∀ x∈l,(f x).length≤M)→(l.flatMap f).length≤l.length*M
 | [],_=>by simp
 | a::q,h=>by
  have h1:=flat_len f M q (fun x hx=>h x (List.mem_cons_of_mem _ hx))
  have h2:=h a (List.mem_cons_self ..)
  rw [List.flatMap_cons,List.length_append,List.length_cons,Nat.succ_mul]
  omega
theorem Rel.comB (h:Rel B E R):E.com.length≤200:=by
 refine nodup_lt 200 E.com h.comn (fun j hj=>?_)
 obtain⟨t,ht,_⟩:=h.comE hj
 have h1:=(List.getElem?_eq_some_iff.1 ht).1
 have h2:=h.le
 omega
theorem Rel.histB (h:Rel B E R):R.hist.length≤200*(B+10):=by
 rw [h.hist]
 unfold histP histTo
 rw [List.take_length]
 refine Nat.le_trans (flat_len _ (B+10) E.com (fun j hj=>?_)) (Nat.mul_le_mul_right _ h.comB)
 obtain⟨t,ht,hs⟩:=h.comE hj
 obtain⟨r,hr,hx⟩:=h.getR ht
 have h1:=(h.szR hr).1
 rw [hx.reads (by omega)] at h1
 have h2:=writesP_len t.vals
 rw [ht]
 simp only [histOf,List.length_append,List.length_map]
 omega
theorem REnAt.hist8 (h:REnAt w L R) {v:Value} (ho:w1.ownsRow w.heap.size 90 4 v (R.hist.length+r.reads.length) (opsV R.hist++opsV r.reads)) (hB:Below w.heap.size w w1) :
  (∃ hv,w1.cell? ⟨L.R,15,none⟩=some hv)∧w1.frozen? ⟨L.R,15,none⟩=false∧REnAt (w1.setCell ⟨L.R,15,none⟩ v) { L with hv:=v } { R with hist:=R.hist++r.reads }∧KeptO L.own ({ L with hv:=v }:REnL).own w (w1.setCell ⟨L.R,15,none⟩ v):=by
 have h1:=h.below hB
 refine⟨⟨_,h1.c15⟩,h1.freeR 15,?_⟩
 refine h.setHist (hist':=R.hist++r.reads) (by rw [List.length_append,opsV_append];exact⟨ho.1,ho.2.imp id (fun ⟨g,c,cur,a,b,q⟩=>⟨g,c,cur,a,Nat.le_trans h.lt b,q⟩)⟩) ⟨hB.os,hB.tape,hB.output⟩ hB.size (fun g hg _=>hB.block g hg) (fun g hg=>.inr (ho.lt g hg).1)
theorem REnAt.hist12 (h:REnAt w L R) {o:Int × Int × Bool × Int} {W:World} (hW:Below w.heap.size w W) {gg cap:Nat} (ho:w1.ownsRow (L.R+1) 90 4 (.slice (some ⟨gg,0,none⟩) (R.hist.length+1) cap) (R.hist.length+1) (opsV R.hist++opsV [o])) (hg:W.grownBy w1 L.hv.ownBlock) (hat:L.hv.ownBlock=some gg∨w.heap.size≤gg) :
  (∃ hv,w1.cell? ⟨L.R,15,none⟩=some hv)∧w1.frozen? ⟨L.R,15,none⟩=false∧REnAt (w1.setCell ⟨L.R,15,none⟩ (.slice (some ⟨gg,0,none⟩) (R.hist.length+1) cap)) { L with hv:=.slice (some ⟨gg,0,none⟩) (R.hist.length+1) cap } { R with hist:=R.hist++[o] } ∧
   KeptO L.own ({ L with hv:=.slice (some ⟨gg,0,none⟩) (R.hist.length+1) cap }:REnL).own w (w1.setCell ⟨L.R,15,none⟩ (.slice (some ⟨gg,0,none⟩) (R.hist.length+1) cap)):=by
 have hsz:=hW.size
 have hsz2:=hg.size
 have hlt:=h.lt
 have hb:∀ g,g<w.heap.size→L.hv.ownBlock≠some g→w1.heap[g]?=w.heap[g]?:=fun g h1 h2=>(hg.block g (by omega) (fun e=>h2 e.symm)).trans (hW.block g h1)
 obtain⟨ρ,T⟩:=h.tag
 have hne:L.hv.ownBlock≠some L.R:=fun e=>by have h1:=T.hist _ e;rw [T.eng] at h1;cases h1
 have hblk:=(hb L.R hlt hne).trans h.blk
 refine⟨⟨L.hv,?_⟩,by simp [World.frozen?,hblk],?_⟩
 ·rw [World.cell?_of_block (a:=⟨L.R,15,none⟩) (hb L.R hlt hne)]
  exact h.c15
 ·exact h.setHist (hist':=R.hist++[o]) (by rw [List.length_append,opsV_append];exact ho) ⟨hg.os.trans hW.os,hg.tape.trans hW.tape,hg.output.trans hW.output⟩ (by omega) hb (fun g hg'=>by
   have e:gg=g:=by simpa [Value.ownBlock] using hg'
   rw [← e]
   exact hat)
end
end Go.Proofs.YtjefgmeejhakbaaGreatDoor
/- The document's engine: the end of a commit. -/
namespace Go.Proofs.YtjefgmeejhakbaaGreatDoor
open Go.RowKit
section
variable {w w1 w':World} {L:REnL} {B:Nat} {E E':Eng} {R S:REng} {i:Nat} {t:Tx} {r:RTx} {l:RTxL}
theorem com_end (hd:DropsOk 6) (hz:REnAt w L S) (hli:L.txs[i]?=some l) (hr:S.txs[i]?=some r) (hS:({ S with step:=S.step+1 }:REng).setTx i (doneR S r)=insR E R i r t) (hRel:Rel (B+10000) (insE E i t) (insR E R i r t)) (hB:B+10000≤10000000)
  (hM:Mid2 E.ce noQ) (ht:E.txs[i]?=some t) (hl:liveB t.state=true) (he:endF 7 { (installE E i) with com:=E.com++[i] } i 2=some E') :
  w.cell? ⟨L.R,13,none⟩=some (.int .i64 S.step)∧w.frozen? ⟨L.R,13,none⟩=false∧w.cell? ⟨l.b,1,none⟩=some (.int .i64 r.state)∧w.frozen? ⟨l.b,1,none⟩=false∧w.cell? ⟨l.b,5,none⟩=some (.int .i64 r.over)∧w.frozen? ⟨l.b,5,none⟩=false∧l.b≠L.R ∧
  Calls Tryz.prog 142 #[.pointer (some ⟨L.R,0,none⟩),.int .i64 ((i:Int)+1)] (((w.setCell ⟨L.R,13,none⟩ (.int .i64 (S.step+1))).setCell ⟨l.b,1,none⟩ (.int .i64 2)).setCell ⟨l.b,5,none⟩ (.int .i64 (S.step+1))) fun e w'=>e=.returned (.tuple #[])∧RefPost L (B+10000) E' w w':=by
 have hTi:=hz.txs i l r hli hr
 have hne:l.b≠L.R:=by
  obtain⟨ρ,T⟩:=hz.tag
  intro e
  have h1:=T.txb i l hli
  rw [e,T.eng] at h1
  cases h1
 obtain⟨h1,k1⟩:=hz.setStep (S.step+1)
 obtain⟨h2,k2⟩:=h1.setCell (o:=1) (v:=.int .i64 2) (t':={ r with state:=2 }) hli hr rfl rfl rfl rfl rfl
 obtain⟨h4,k4⟩:=h2.setCell (o:=5) (v:=.int .i64 (S.step+1)) (t':={ r with state:=2,over:=S.step+1 }) hli (rsetTx_get (E:={ S with step:=S.step+1 }) hr) rfl rfl rfl rfl rfl
 rw [rsetTx_twice] at h4
 have e4:({ S with step:=S.step+1 }:REng).setTx i { r with state:=2,over:=S.step+1 }=insR E R i r t:=hS
 rw [e4] at h4
 obtain⟨hM1,hl1⟩:=hM.commitE (i:=i) (fun h=>h) ht hl
 obtain⟨eo,eT⟩:=insE_over (E:=E) (i:=i) ht
 have he2:goR (endF 6) (outP (installE E i).T ((i:Int)+1)) (overE { (installE E i) with com:=E.com++[i] } i 2)=some E':=he
 clear he
 rw [inst_T,eo] at he2
 rw [eo] at hM1 hl1
 rw [noQ_or] at hM1
 have h7:=hM.live7
 have hdr:=hd _ L (B+10000) (insE E i t) E' i (outQ E.T i) ⟨_,h4,hRel⟩ hB (by rw [eT];exact hM1) (by have:(insE E i t).ce.live=({ insE E i t with T:=dropP E.T ((i:Int)+1) }:Eng).ce.live:=rfl;omega) (by
  rw [eT]
  intro p hp'
  obtain⟨k',x'⟩:=p
  have h5:=out_tail hp' (by omega)
  obtain⟨m,u',e,_⟩:=hM.loc.mem k' x' (List.mem_of_mem_tail h5.1)
  subst e
  exact⟨m,rfl,k',hp'⟩) (by rw [eT];exact out_nodup hM.loc.good.tidy (by omega)) (by rw [eT];exact he2)
 refine⟨hz.c13,hz.freeR 13,(hTi.cell 1).trans rfl,REnAt.free (L:=L) hTi 1,(hTi.cell 5).trans rfl,REnAt.free (L:=L) hTi 5,hne,hdr.mono ?_⟩
 rintro e w' ⟨rfl,L',a1,a2,a3,a4⟩
 exact⟨rfl,L',a1,((k1.trans k2).trans k4).trans a2,a3,a4⟩
theorem insR_nil (hn:writesP t.vals=[]):({ { R with hist:=R.hist++histOf ((i:Int)+1) t } with step:=R.step+1 }:REng).setTx i (doneR R r)=insR E R i r t:=by
 unfold insR
 rw [if_pos hn]
 rfl
theorem insR_full (hn:writesP t.vals≠[]) (hf:1099511627776<E.last+1):({ { R with hist:=R.hist++histOf ((i:Int)+1) t,wr:=updT R.wr (E.last+1) (some ((i:Int)+1)),nb:=R.nb+1 } with step:=R.step+1 }:REng).setTx i (doneR R r)=insR E R i r t:=by
 unfold insR
 rw [if_neg hn,if_pos hf]
 rfl
theorem insR_in (hn:writesP t.vals≠[]) (hf:¬ 1099511627776<E.last+1):({ { R with hist:=R.hist++histOf ((i:Int)+1) t,wr:=updT R.wr (E.last+1) (some ((i:Int)+1)),nb:=R.nb+1,last:=E.last+1,kept:=R.kept++addTo (E.last+1) (writesP t.vals) 10 } with step:=R.step+1 }:REng).setTx i (doneR R r)=insR E R i r t:=by
 unfold insR
 rw [if_neg hn,if_neg hf]
 rfl
end
end Go.Proofs.YtjefgmeejhakbaaGreatDoor
/- engine.Many; engine.Begin at a level that there is none. -/
namespace Go.Proofs.YtjefgmeejhakbaaGreatDoor
open Go.RowKit
variable {w w':World} {L:EnL} {E:Eng}
set_option maxRecDepth 100000 in
set_option maxHeartbeats 1000000 in
theorem manyE_any (h:EnAt w L E) (hks:∀ l∈E.ks,l.length≤1000000) :
  Calls Tryz.prog 87 #[.pointer (some ⟨L.s,0,none⟩)] w fun e w'=>e=.returned (.int .i64 (manyP E.ks:Nat))∧w'=w:=by
 have HL:=hid (many_any _ _ _ _ _ w h.sto hks)
 clear h
 go_enter Tryz.func87,Tryz.ntmps87
 go_wp2_with fail
 refine HL.out.mono ?_
 rintro e w1 ⟨rfl,rfl⟩
 go_wp2
 go_ret
 exact⟨rfl,rfl⟩
set_option maxRecDepth 100000 in
set_option maxHeartbeats 2000000 in
theorem begin_arg {level:Int} {s:Nat} (h0:level≠0) (h1:level≠1) (h2:level≠2) :
  Calls Tryz.prog 51 #[.pointer (some ⟨s,0,none⟩),.int .i64 level] w fun e w'=>e=.returned (.tuple #[.int .i64 0,errV 1])∧w'=w:=by
 have n0:(level != 0)=true:=by simpa using h0
 have n1:(level != 1)=true:=by simpa using h1
 have n2:(level != 2)=true:=by simpa using h2
 rw [show errV 1=Value.iface 24 (.int .i64 1) from rfl]
 clear h0 h1 h2
 go_enter Tryz.func51,Tryz.ntmps51
 go_wp2
 go_ret2
 exact⟨rfl,rfl⟩
end Go.Proofs.YtjefgmeejhakbaaGreatDoor
/- The document's engine: Write, by one that may. -/
namespace Go.Proofs.YtjefgmeejhakbaaGreatDoor
open Go.RowKit
section
variable {w w':World} {L:REnL} {B:Nat} {E E':Eng} {i:Nat} {t:Tx}
set_option maxRecDepth 100000 in
set_option maxHeartbeats 4000000 in
theorem rwrite_main (hg:GoneOk 7) (hp:PutsOk 7) (h:RefAt w L B E) (hB:B+5000≤10000000) (hM:Mid2 E.ce noQ) {q:Int→Nat} (hq:Ranked E.T q) (ht:E.txs[i]?=some t) (hs:t.state=0) {key val:Int} (hk:0≤key∧key<10) (hv:-1099511627776≤val∧val≤1099511627776)
  {RR:(Bool × Int) × Eng} (hR:writeE 7 q E i key val=some RR) :
  Calls Tryz.prog 79 #[.pointer (some ⟨L.R,0,none⟩),.int .i64 ((i:Int)+1),.int .i64 key,.int .i64 val] w fun e w'=>e=.returned (.tuple #[.bool RR.1.1,.int .i64 RR.1.2])∧RefPost L (B+2000) RR.2 w w':=by
 obtain⟨b,hb⟩:=h.place ht
 have HF:=hid (of_ok h true ht (fun _=>hs) hb)
 have hI1:=in_any key 0 9 w
 have hI2:=in_any val (-1099511627776) 1099511627776 w
 rw [show inB key 0 9=true by simp only [inB,decide_eq_true_eq];omega] at hI1
 rw [show inB val (-1099511627776) 1099511627776=true by simp only [inB,decide_eq_true_eq];omega] at hI2
 have HI1:=hid hI1
 have HI2:=hid hI2
 obtain⟨_,_,c8,c9,_,_,hfr⟩:=h.cells ht hb
 have f8:=hfr 8
 have f9:=hfr 9
 obtain⟨h2,k2⟩:=h.want ht hs hb key val
 obtain⟨w2,hw2⟩:∃ w2,(w.setCell ⟨b,8,none⟩ (.int .i64 key)).setCell ⟨b,9,none⟩ (.int .i64 val)=w2:=⟨_,rfl⟩
 rw [hw2] at h2 k2
 have hil:i<(E.setTx i { t with wk:=key,wv:=val }).txs.length:=by rw [setTx_len];exact (List.getElem?_eq_some_iff.1 ht).1
 have hask:=h2.ask (q:=q) hq hil key
 rw [show (E.setTx i { t with wk:=key,wv:=val }).T=E.T from rfl] at hask
 have hwa:=hM.loc.open_waits (cs_get ht) hs
 have hcases:=ask_cases (T:=E.T) (q:=q) (tx:=(i:Int)+1) hk (by omega) hwa
 have hlt200:i<200:=by
  have h1:=(List.getElem?_eq_some_iff.1 ht).1
  have h2:=hM.reg.len
  have h3:E.ce.cs.length=E.txs.length:=by simp [Eng.ce]
  omega
 have hgd:Good (askP E.T q ((i:Int)+1) key).2.2:=hM.loc.good.ask hq ((i:Int)+1) key (by omega)
 unfold writeE at hR
 rw [ht] at hR
 simp only at hR
 rw [if_neg (by omega),if_neg (by omega)] at hR
 have hwy:=h.wy ht (by omega)
 obtain⟨ab,ac,aT,haq⟩:∃ ab ac aT,askP E.T q ((i:Int)+1) key=(ab,ac,aT):=⟨_,_,_,rfl⟩
 rw [haq] at hask hR hcases hgd
 simp only at hask hR hgd
 obtain⟨E2,hE2⟩:∃ E2:Eng,({ (E.setTx i { t with wk:=key,wv:=val }) with T:=aT }:Eng)=E2:=⟨_,rfl⟩
 have htx2:E2.txs[i]?=some { t with wk:=key,wv:=val }:=by rw [← hE2];exact setTx_get ht
 have hEw:E2=wantE E i t key val aT:=hE2.symm
 rw [hE2] at hR hask
 have HASK:=hid hask
 have HK:=hid k2
 have HTX:=hid htx2
 have HB:=hid hb
 by_cases hc:ac=0
 ·subst hc
  rw [if_neg (by simp)] at hR
  cases ab with
  | false =>
   rw [if_pos rfl] at hR
   injection hR with hR
   have HR1:=hid (show RR.1=(false,0) from by rw [← hR])
   have HR2:=hid (show RR.2=E2.setTx i { t with wk:=key,wv:=val,state:=1 } from by rw [← hR])
   have HS:=hid hs
   clear h hI1 hI2 hM hq ht hs hR h2 k2 hask hcases hgd hE2 htx2 hEw haq hwa hwy hil hfr hg hp
   go_enter Tryz.func79,Tryz.ntmps79
   go_wp2_with fail
   refine HF.out.mono ?_
   rintro e w1 ⟨rfl,hw1⟩
   rw [hw1]
   clear hw1 w1
   go_wp2_with fail
   refine HI1.out.mono ?_
   rintro e w1 ⟨rfl,hw1⟩
   rw [hw1]
   clear hw1 w1
   go_wp2_with fail
   refine HI2.out.mono ?_
   rintro e w1 ⟨rfl,hw1⟩
   rw [hw1]
   clear hw1 w1
   go_wp2_with fail
   try rw [hw2]
   refine HASK.out.mono ?_
   rintro e w3 ⟨rfl,L3,hA3,hK3,hH3,hb3⟩
   have hb':L3.bs[i]?=some b:=by rw [hb3];exact HB.out
   obtain⟨z1,_,_,_,_,_,zfr⟩:=hA3.cells HTX.out hb'
   have zf:=zfr 1
   obtain⟨hA4,hK4⟩:=hA3.stand HTX.out HS.out hb'
   have HP:=hid (show RefPost L (B+2000) RR.2 w _ from by
    rw [HR2.out]
    exact⟨L3,hA4.mono (by omega),(HK.out.trans hK3).trans hK4,hH3,hb3⟩)
   clear hA3 hK3 hH3 hb3 hA4 hK4 hb' zfr HASK
   go_wp2
   go_ret2
   rw [HR1.out]
   exact⟨rfl,HP.out⟩
  | true =>
   rw [if_neg (by simp)] at hR
   rcases hwr:writeR (endF 7) E2 i with _ | ⟨why,E5⟩
   ·rw [hwr] at hR;cases hR
   rw [hwr] at hR
   simp only [Option.map_some,Option.some.injEq] at hR
   have hMh:Mid2 E2.ce noQ∧holdsP E2.T key=(i:Int)+1:=by
    rcases hcases with ⟨h1,e⟩ | ⟨h1,h2',e⟩ | ⟨_,_,e⟩ | ⟨_,_,e⟩
    ·injection e with _ e;injection e with _ e
     subst e
     refine⟨by rw [hEw];exact want2_mid hM ht hs hk hv (.inl rfl),by rw [← hE2];exact h1⟩
    ·injection e with _ e;injection e with _ e
     subst e
     refine⟨by rw [hEw];exact want2_mid hM ht hs hk hv (.inr ⟨h2',rfl,hgd⟩),?_⟩
     rw [← hE2]
     show holdsP (updT E.T key [(i:Int)+1]) key=_
     unfold holdsP;rw [updT_same];rfl
    ·injection e with e _;cases e
    ·injection e with e _;cases e
   have hMp:=put2_mid hMh.1 htx2 hs hMh.2
   have HPU:=hid (fun (W:World) (L3:REnL) (hA:RefAt W L3 (B+1) E2)=>hp W L3 (B+1) E2 i { t with wk:=key,wv:=val } noQ (why,E5) hA (by omega) htx2 hs hk (fun h=>h) hMp hMp.live7 hwr)
   have HRES:=hid (show ∃ t5,E5.txs[i]?=some t5∧t5.why=why∧(t5.state==0)=decide (why=0) from by
    unfold writeR at hwr
    rcases hpp:putE E2 i with ⟨why2,E3⟩
    rw [hpp] at hwr hMp
    simp only at hwr hMp
    obtain⟨t3,ht3,hs3,hw3⟩:=put_self hpp htx2
    split at hwr
    ·injection hwr with hwr
     injection hwr with e1 e2
     subst e1 e2
     exact⟨t3,ht3,hw3.trans hwy,by rw [hs3];show (t.state==0)=_;rw [hs];rfl⟩
    ·rename_i hne
     obtain⟨E6,hE6,hEq⟩:=Option.map_eq_some_iff.1 hwr
     injection hEq with e1 e2
     subst e1 e2
     have hs3':t3.state=0:=hs3.trans hs
     obtain⟨_,t5,ht5,h3,hw5⟩:=lose2_gone hMp ht3 (by rw [hs3'];rfl) hE6
     exact⟨t5,ht5,hw5,by rw [h3];simp [hne]⟩)
   have HR1:=hid (show RR.1=(decide (why=0),why) from by rw [← hR])
   have HR2:=hid (show RR.2=E5 from by rw [← hR])
   clear h hI1 hI2 hM hq ht hs hR h2 k2 hask hcases hgd hE2 htx2 hEw haq hwa hwy hil hfr hg hp hMh hMp hwr
   go_enter Tryz.func79,Tryz.ntmps79
   go_wp2_with fail
   refine HF.out.mono ?_
   rintro e w1 ⟨rfl,hw1⟩
   rw [hw1]
   clear hw1 w1
   go_wp2_with fail
   refine HI1.out.mono ?_
   rintro e w1 ⟨rfl,hw1⟩
   rw [hw1]
   clear hw1 w1
   go_wp2_with fail
   refine HI2.out.mono ?_
   rintro e w1 ⟨rfl,hw1⟩
   rw [hw1]
   clear hw1 w1
   go_wp2_with fail
   try rw [hw2]
   refine HASK.out.mono ?_
   rintro e w3 ⟨rfl,L3,hA3,hK3,hH3,hb3⟩
   have hb':L3.bs[i]?=some b:=by rw [hb3];exact HB.out
   obtain⟨_,_,z8,z9,_,_,_⟩:=hA3.cells HTX.out hb'
   have hpu:=HPU.out w3 L3 hA3
   rw [hH3.1] at hpu
   have HPC:=hid hpu
   have HK3:=hid (HK.out.trans hK3)
   have HH3:=hid (And.intro hH3 hb3)
   clear hA3 hK3 hH3 hb3 hb' hpu HASK HPU
   go_wp2_with fail
   refine HPC.out.mono ?_
   rintro e w4 ⟨rfl,L4,hA4,hK4,hH4,hb4⟩
   have hb'':L4.bs[i]?=some b:=by rw [hb4,HH3.out.2];exact HB.out
   obtain⟨t5,ht5,hw5,hs5⟩:=HRES.out
   obtain⟨z1,z2,_,_,_,_,_⟩:=hA4.cells ht5 hb''
   rw [hw5] at z2
   have HP:=hid (show RefPost L (B+2000) RR.2 w w4 from by
    rw [HR2.out]
    exact⟨L4,hA4.mono (by omega),HK3.out.trans hK4,hH4.trans HH3.out.1,hb4.trans HH3.out.2⟩)
   have HS5:=hid hs5
   clear hA4 hK4 hH4 hb4 hb'' ht5 hw5 hs5 HPC
   go_wp2
   go_quiet (fail)
   go_wp2
   go_ret2
   rw [HR1.out]
   obtain⟨L6,a1,a2,a3⟩:=HP.out
   refine⟨by rw [← HS5.out];rfl,L6,a1.below (below_drewN (Below.refl _ _) _),a2.trans (KeptO.of_below (below_drewN (Below.refl _ _) _)),a3⟩
 ·rw [if_pos hc] at hR
  obtain⟨E6,hE6,rfl⟩:=Option.map_eq_some_iff.1 hR
  have hMh:Mid2 E2.ce noQ:=by
   rcases hcases with ⟨h1,e⟩ | ⟨h1,h2',e⟩ | ⟨_,_,e⟩ | ⟨_,_,e⟩
   ·injection e with _ e;injection e with e _;exact (hc e).elim
   ·injection e with _ e;injection e with e _;exact (hc e).elim
   ·injection e with _ e;injection e with _ e
    subst e
    rw [hEw]
    exact want2_mid hM ht hs hk hv (.inl rfl)
   ·injection e with _ e;injection e with e _;exact (hc e).elim
  have HG:=hid (fun (W:World) (L3:REnL) (hA:RefAt W L3 (B+1) E2)=>hg W L3 (B+1) E2 E6 i { t with wk:=key,wv:=val } 11 noQ hA (by omega) hMh hMh.live7 htx2 (by show liveB t.state=true;rw [hs];rfl) (fun h=>h) hE6)
  have gc:(ac != 0)=true:=by simpa using hc
  clear h hI1 hI2 hM hq ht hs hR h2 k2 hask hcases hgd hE2 htx2 hEw haq hwa hwy hil hfr hg hp hMh hE6 hc
  go_enter Tryz.func79,Tryz.ntmps79
  go_wp2_with fail
  refine HF.out.mono ?_
  rintro e w1 ⟨rfl,hw1⟩
  rw [hw1]
  clear hw1 w1
  go_wp2_with fail
  refine HI1.out.mono ?_
  rintro e w1 ⟨rfl,hw1⟩
  rw [hw1]
  clear hw1 w1
  go_wp2_with fail
  refine HI2.out.mono ?_
  rintro e w1 ⟨rfl,hw1⟩
  rw [hw1]
  clear hw1 w1
  go_wp2_with fail
  try rw [hw2]
  refine HASK.out.mono ?_
  rintro e w3 ⟨rfl,L3,hA3,hK3,hH3,hb3⟩
  have hgn:=HG.out w3 L3 hA3
  rw [hH3.1] at hgn
  have HGN:=hid hgn
  have HK3:=hid (HK.out.trans hK3)
  have HH3:=hid (And.intro hH3 hb3)
  clear hA3 hK3 hH3 hb3 hgn HASK HG
  go_wp2_with fail
  refine HGN.out.mono ?_
  rintro e w4 ⟨rfl,L4,hA4,hK4,hH4,hb4⟩
  have HP:=hid (show RefPost L (B+2000) E6 w w4 from ⟨L4,hA4.mono (by omega),HK3.out.trans hK4,hH4.trans HH3.out.1,hb4.trans HH3.out.2⟩)
  clear hA4 hK4 hH4 hb4 HGN
  go_wp2
  go_ret2
  exact⟨rfl,HP.out⟩
end
end Go.Proofs.YtjefgmeejhakbaaGreatDoor
