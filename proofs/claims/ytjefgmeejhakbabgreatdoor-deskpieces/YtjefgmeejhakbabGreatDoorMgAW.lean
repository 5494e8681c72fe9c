/- EnBeginE EnCore EnCoreB EnCoreC EnRun: put together for a claim. -/
import Derived.Test.YtjefgmeejhakbabGreatDoorMgAV
import Derived.Test.YtjefgmeejhakbabGreatDoorMgAJ
import Derived.Test.YtjefgmeejhakbabGreatDoorEnRead
import Derived.Test.YtjefgmeejhakbabGreatDoorMgAU
namespace Go.Proofs.YtjefgmeejhakbabGreatDoor
open Go.RowKit
variable {w w':World} {L:EnL} {E:Eng}
set_option maxRecDepth 100000 in
set_option maxHeartbeats 2000000 in
theorem begin_full (h:EnAt w L E) {level:Int} (hlv:level=0∨level=1∨level=2) (hl:200≤E.txs.length) :
  Calls Tryz.prog 101 #[.pointer (some ⟨L.s,0,none⟩),.int .i64 level] w fun e w'=>e=.returned (.tuple #[.int .i64 0,errV 12])∧w'=w:=by
 have c14:=h.c14
 obtain⟨ad,cap,hav⟩:=row_form h.all
 rw [h.len] at hav
 rw [hav] at c14
 obtain⟨m,hm⟩:∃ m,E.txs.length=m:=⟨_,rfl⟩
 rw [hm] at c14 hl
 have g1:(200:Int)≤(m:Int):=by omega
 rw [show errV 12=Value.iface 33 (.int .i64 12) from rfl]
 clear h hav hm
 rcases lvl_cases hlv with rfl | ⟨n0,rfl⟩ | ⟨n0,n1,rfl⟩
 all_goals
  clear hlv
  go_enter Tryz.func101,Tryz.ntmps101
  go_wp2
  go_ret2
  exact⟨rfl,rfl⟩
set_option maxRecDepth 100000 in
set_option maxHeartbeats 2000000 in
theorem begin_limit (h:EnAt w L E) {level:Int} (hlv:level=0∨level=1∨level=2) (hl:E.txs.length<200) (ho:6≤(liveOnes E).length) :
  Calls Tryz.prog 101 #[.pointer (some ⟨L.s,0,none⟩),.int .i64 level] w fun e w'=>e=.returned (.tuple #[.int .i64 0,errV 4])∧Below w.heap.size w w':=by
 have hT:=those_lives h (fun _ t=>liveB t.state) (fun W hW i l t hl ht=>(lives_any l.b t.state W ((h.below hW).txs i l t hl ht).c3).mono (fun e w' hh=>⟨hh.1,0,hh.2⟩))
 rw [show thoseP E (fun _ t=>liveB t.state)=liveOnes E from rfl] at hT
 have HT:=hid hT
 have c14:=h.c14
 obtain⟨ad,cap,hav⟩:=row_form h.all
 rw [h.len] at hav
 rw [hav] at c14
 obtain⟨m,hm⟩:∃ m,E.txs.length=m:=⟨_,rfl⟩
 rw [hm] at c14 hl
 obtain⟨q,hq⟩:∃ q,(liveOnes E).length=q:=⟨_,rfl⟩
 rw [hq] at HT ho
 have g1:¬ (200:Int)≤(m:Int):=by omega
 have g2:(6:Int)≤(q:Int):=by omega
 rw [show errV 4=Value.iface 33 (.int .i64 4) from rfl]
 clear h hav hm hT hq
 rcases lvl_cases hlv with rfl | ⟨n0,rfl⟩ | ⟨n0,n1,rfl⟩
 all_goals
  clear hlv
  go_enter Tryz.func101,Tryz.ntmps101
  go_wp2_with fail
  refine HT.out.mono ?_
  rintro e w1 ⟨v,rfl,hv,hB1⟩
  obtain⟨ad1,cap1,rfl⟩:=row_form hv
  have HB1:=hid hB1
  clear hv hB1 HT
  go_wp2
  go_ret2
  exact⟨rfl,HB1.out⟩
end Go.Proofs.YtjefgmeejhakbabGreatDoor
namespace Go.Proofs.YtjefgmeejhakbabGreatDoor
structure Cor where
 level:Int
 start:Int
 state:Int
 wk:Int
 wv:Int
 vals:Int→Option Int
def cor (t:Tx):Cor:=⟨t.level,t.start,t.state,t.wk,t.wv,t.vals⟩
structure CE where
 last:Int
 ks:List (List (Int × Int))
 T:Tab
 cs:List Cor
 wr:Int→Option Int
 com:List Nat
 nw:Nat
def Eng.ce (E:Eng):CE:=⟨E.last,E.ks,E.T,E.txs.map cor,E.wr,E.com,E.nw⟩
def CE.v (C:CE) (i:Nat):Int→Option Int:=match C.cs[i]? with
 | some t=>t.vals
 | none=>fun _=>none
theorem CE.v_some {C:CE} {i:Nat} {t:Cor} (h:C.cs[i]?=some t):C.v i=t.vals:=by simp [CE.v,h]
def CE.cw (C:CE):List Nat:=C.com.filter (fun i=>decide (writesP (C.v i)≠[]))
def fullFrom (V:Nat→Int→Option Int) (a c:Int):List Nat→List (Int × Int)
 | []=>[]
 | i::r=>(match V i a with | some x=>[(c,x)] | none=>[])++fullFrom V a (c+1) r
def full (a0:Int) (K0:Int→Option Int) (C:CE) (a:Int):List (Int × Int):=(match K0 a with | some x=>[(a0,x)] | none=>[])++fullFrom C.v a (a0+1) C.cw
theorem fullFrom_append (V:Nat→Int→Option Int) (a:Int):∀ (l m:List Nat) (c:Int),fullFrom V a c (l++m)=fullFrom V a c l++fullFrom V a (c+l.length) m
 | [],m,c=>by simp [fullFrom]
 | i::r,m,c=>by
  simp only [List.cons_append,fullFrom,fullFrom_append V a r m (c+1),List.append_assoc,List.length_cons]
  rw [show c+1+(r.length:Int)=c+((r.length+1:Nat):Int) from by omega]
theorem fullFrom_mem (V:Nat→Int→Option Int) (a:Int):∀ (l:List Nat) (c c' x:Int),(c',x)∈fullFrom V a c l↔∃ (j i:Nat),l[j]?=some i∧c'=c+j∧V i a=some x
 | [],c,c',x=>by simp [fullFrom]
 | i::r,c,c',x=>by
  rw [fullFrom,List.mem_append,fullFrom_mem V a r (c+1)]
  constructor
  ·rintro (h | ⟨j,i',h1,h2,h3⟩)
   ·cases hv:V i a with
    | none=>rw [hv] at h;cases h
    | some y =>
     rw [hv] at h
     simp only [List.mem_singleton,Prod.mk.injEq] at h
     exact⟨0,i,rfl,by simp [h.1],by rw [hv,h.2]⟩
   ·exact⟨j+1,i',by simpa using h1,by omega,h3⟩
  ·rintro⟨j,i',h1,h2,h3⟩
   cases j with
   | zero =>
    simp only [List.getElem?_cons_zero,Option.some.injEq] at h1
    subst h1
    left
    rw [h3]
    simp [h2]
   | succ j=>exact .inr ⟨j,i',by simpa using h1,by omega,h3⟩
theorem fullFrom_congr (V V':Nat→Int→Option Int) (a:Int):∀ (l:List Nat) (c:Int),(∀ i∈l,V i a=V' i a)→fullFrom V a c l=fullFrom V' a c l
 | [],_,_=>rfl
 | i::r,c,h=>by
  rw [fullFrom,fullFrom,h i (List.mem_cons_self ..),fullFrom_congr V V' a r (c+1) (fun j hj=>h j (List.mem_cons_of_mem _ hj))]
theorem fullFrom_sorted (V:Nat→Int→Option Int) (a:Int):∀ (l:List Nat) (c:Int),(fullFrom V a c l).Pairwise (fun p q=>p.1<q.1)
 | [],_=>List.Pairwise.nil
 | i::r,c=>by
  rw [fullFrom]
  refine List.pairwise_append.2 ⟨?_,fullFrom_sorted V a r (c+1),fun p hp q hq=>?_⟩
  ·cases V i a<;>simp
  ·obtain⟨j,i',h1,h2,h3⟩:=(fullFrom_mem V a r (c+1) q.1 q.2).1 hq
   have:p.1=c:=by
    cases hv:V i a with
    | none=>rw [hv] at hp;cases hp
    | some y=>rw [hv] at hp;simp at hp;simp [hp]
   omega
def CE.Sees (C:CE) (u:Int):Prop:=C.last≤u∨∃ (i:Nat) (t:Cor),C.cs[i]?=some t∧liveB t.state=true∧t.level≠0∧t.start≤u
def CE.live (C:CE):Nat:=C.cs.countP (fun t=>liveB t.state)
theorem live_iff {s:Int}:liveB s=true↔s=0∨s=1:=by simp [liveB]
structure Loc (T:Tab) (cs:List Cor) (Q:Nat→Prop):Prop where
 good:Good T
 mem:∀ k x,x∈T k→∃ (i:Nat) (t:Cor),x=(i:Int)+1∧cs[i]?=some t∧liveB t.state=true
 tail:∀ (k:Int) (i:Nat),(i:Int)+1∈(T k).tail→∃ t,cs[i]?=some t∧t.state=1∧t.wk=k∧¬ Q i
 wait:∀ (i:Nat) (t:Cor),cs[i]?=some t→t.state=1→Q i∨(i:Int)+1∈(T t.wk).tail
 pend:∀ i,Q i→∃ t,cs[i]?=some t∧t.state=1∧holdsP T t.wk=(i:Int)+1
 hold:∀ (i:Nat) (t:Cor) (k:Int),cs[i]?=some t→liveB t.state=true→t.vals k≠none→holdsP T k=(i:Int)+1
structure Fair (t:Cor):Prop where
 lev:t.level=0∨t.level=1∨t.level=2
 sta:0≤t.state∧t.state≤3
 vk:∀ k,t.vals k≠none→0≤k∧k<10
 fin:∀ k v,t.vals k=some v→-1099511627776≤v∧v≤1099511627776
 wan:(0≤t.wk∧t.wk<10)∧-1099511627776≤t.wv∧t.wv≤1099511627776
structure Reg (cs:List Cor):Prop where
 fair:∀ (i:Nat) (t:Cor),cs[i]?=some t→Fair t
 num:cs.countP (fun t=>liveB t.state)≤6
 len:cs.length≤200
structure Com (a0:Int) (K0:Int→Option Int) (C:CE):Prop where
 comn:C.com.Nodup
 coms:∀ i,i∈C.com↔∃ t,C.cs[i]?=some t∧t.state=2
 start:∀ (i:Nat) (t:Cor),C.cs[i]?=some t→a0≤t.start∧t.start≤C.last
 zero:0≤a0∧a0≤1099511000000
 lastc:C.last=a0+C.cw.length
 nwc:C.nw=C.cw.length
 wrc:∀ c,C.wr c=if a0<c then (C.cw[(c-a0-1).toNat]?).map (fun (i:Nat)=>(i:Int)+1) else none
 ksl:C.ks.length=10
 kss:∀ a:Nat,a<10→∃ d,d≤(full a0 K0 C a).length∧C.ks[a]?=some ((full a0 K0 C a).drop d)∧∀ u,C.Sees u→d=0∨∃ p∈(full a0 K0 C a).drop d,p.1≤u
 fuw:∀ (i j:Nat) (t:Cor) (a c:Int),C.cs[i]?=some t→t.level≠0→t.state≠3→t.vals a≠none→C.wr c=some ((j:Int)+1)→j≠i→C.v j a≠none→t.start<c→∃ c',C.wr c'=some ((i:Int)+1)∧c'<c
structure Mid (a0:Int) (K0:Int→Option Int) (C:CE) (Q:Nat→Prop):Prop where
 loc:Loc C.T C.cs Q
 reg:Reg C.cs
 com:Com a0 K0 C
section
variable {a0:Int} {K0:Int→Option Int} {C:CE} {Q:Nat→Prop} {T:Tab} {cs:List Cor} {i:Nat} {t t':Cor}
theorem set_cases {cs:List Cor} {i j:Nat} {t' u:Cor} (h:(cs.set i t')[j]?=some u):(j=i∧u=t')∨(j≠i∧cs[j]?=some u):=by
 rw [List.getElem?_set] at h
 split at h
 ·rename_i e
  split at h
  ·injection h with h
   exact .inl ⟨e.symm,h.symm⟩
  ·cases h
 ·rename_i e
  exact .inr ⟨fun h=>e h.symm,h⟩
theorem set_same {cs:List Cor} {i:Nat} {t t':Cor} (h:cs[i]?=some t):(cs.set i t')[i]?=some t':=by
 have:=(List.getElem?_eq_some_iff.1 h).1
 simp [this]
theorem set_ne {cs:List Cor} {i j:Nat} {t':Cor} (h:j≠i):(cs.set i t')[j]?=cs[j]?:=by
 rw [List.getElem?_set,if_neg (fun e=>h e.symm)]
theorem Reg.set (h:Reg cs) (ht:cs[i]?=some t) (hl:liveB t.state=true) (hf:Fair t'):Reg (cs.set i t'):=by
 have hi:=(List.getElem?_eq_some_iff.1 ht)
 refine⟨fun j u hu=>?_,?_,by simpa using h.len⟩
 ·rcases set_cases hu with ⟨_,rfl⟩ | ⟨_,hu⟩
  ·exact hf
  ·exact h.fair j u hu
 ·rw [List.countP_set hi.1,hi.2,hl,if_pos rfl]
  have h1:=h.num
  have h2:0<cs.countP (fun t=>liveB t.state):=List.countP_pos_iff.2 ⟨t,List.mem_of_getElem? ht,hl⟩
  split<;>simp<;>omega
theorem count_over (ht:cs[i]?=some t) (hl:liveB t.state=true) (hl':liveB t'.state=false):(cs.set i t').countP (fun t=>liveB t.state)+1=cs.countP (fun t=>liveB t.state):=by
 have hi:=(List.getElem?_eq_some_iff.1 ht)
 have h2:0<cs.countP (fun t=>liveB t.state):=List.countP_pos_iff.2 ⟨t,List.mem_of_getElem? ht,hl⟩
 rw [List.countP_set hi.1,hi.2,hl,hl']
 simp
 omega
theorem count_live (ht:cs[i]?=some t) (hl:liveB t.state=true) (hl':liveB t'.state=true):(cs.set i t').countP (fun t=>liveB t.state)=cs.countP (fun t=>liveB t.state):=by
 have hi:=(List.getElem?_eq_some_iff.1 ht)
 have h2:0<cs.countP (fun t=>liveB t.state):=List.countP_pos_iff.2 ⟨t,List.mem_of_getElem? ht,hl⟩
 rw [List.countP_set hi.1,hi.2,hl,hl']
 simp
 omega
theorem v_set (C:CE) {i:Nat} {t':Cor} {T':Tab} {j:Nat} (h:j≠i):({ C with cs:=C.cs.set i t',T:=T' }:CE).v j=C.v j:=by
 unfold CE.v
 simp only
 rw [set_ne h]
theorem Com.set (h:Com a0 K0 C) (ht:C.cs[i]?=some t) (hl:liveB t.state=true) (h2:t'.state≠2) (hlev:t'.level=t.level) (hst:t'.start=t.start) (T':Tab)
  (hf:∀ (a c:Int) (j:Nat),t'.level≠0→t'.state≠3→t'.vals a≠none→C.wr c=some ((j:Int)+1)→C.v j a≠none→t.start<c→False):Com a0 K0 { C with cs:=C.cs.set i t',T:=T' }:=by
 have hs2:t.state≠2:=by rcases live_iff.1 hl with e | e<;>omega
 have hni:i∉C.com:=fun hc=>by obtain⟨u,hu,h3⟩:=(h.coms i).1 hc;rw [ht] at hu;cases hu;exact hs2 h3
 have hv:∀ j∈C.com,({ C with cs:=C.cs.set i t',T:=T' }:CE).v j=C.v j:=fun j hj=>v_set C (fun e=>hni (e▸hj))
 have hcw:({ C with cs:=C.cs.set i t',T:=T' }:CE).cw=C.cw:=by
  unfold CE.cw
  exact List.filter_congr (fun j hj=>by rw [hv j hj])
 have hful:∀ a,full a0 K0 { C with cs:=C.cs.set i t',T:=T' } a=full a0 K0 C a:=fun a=>by
  unfold full
  rw [hcw,fullFrom_congr _ _ a _ _ (fun j hj=>by rw [hv j (List.mem_filter.1 hj).1])]
 have hwi:∀ c (j:Nat),C.wr c=some ((j:Int)+1)→j∈C.com:=fun c j hc=>by
  rw [h.wrc] at hc
  split at hc
  ·obtain⟨m,hm,e⟩:=Option.map_eq_some_iff.1 hc
   have:m=j:=by omega
   subst this
   exact (List.mem_filter.1 (List.mem_of_getElem? hm)).1
  ·cases hc
 refine⟨h.comn,fun j=>?_,fun j u hu=>?_,h.zero,by rw [hcw];exact h.lastc,by rw [hcw];exact h.nwc,fun c=>by rw [hcw];exact h.wrc c,h.ksl,fun a ha=>?_,fun j m u a c hu hlv hs hva hc hjm hvm hlt=>?_⟩
 ·rw [h.coms j]
  by_cases e:j=i
  ·subst e
   constructor
   ·rintro⟨u,hu,h3⟩;rw [ht] at hu;cases hu;exact (hs2 h3).elim
   ·rintro⟨u,hu,h3⟩;simp only [set_same ht] at hu;cases hu;exact (h2 h3).elim
  ·simp only [set_ne e]
 ·rcases set_cases hu with ⟨_,rfl⟩ | ⟨_,hu⟩
  ·rw [hst];exact h.start i t ht
  ·exact h.start j u hu
 ·rw [hful]
  obtain⟨d,h1,h3,h4⟩:=h.kss a ha
  refine⟨d,h1,h3,fun u hu=>h4 u ?_⟩
  rcases hu with hu | ⟨j,x,hx,hxl,hxv,hxs⟩
  ·exact .inl hu
  ·rcases set_cases hx with ⟨_,rfl⟩ | ⟨_,hx⟩
   ·exact .inr ⟨i,t,ht,hl,by rw [← hlev];exact hxv,by rw [← hst];exact hxs⟩
   ·exact .inr ⟨j,x,hx,hxl,hxv,hxs⟩
 ·have hmc:=hwi c m hc
  rw [hv m hmc] at hvm
  rcases set_cases hu with ⟨_,rfl⟩ | ⟨_,hu⟩
  ·rw [hst] at hlt
   exact (hf a c m hlv hs hva hc hvm hlt).elim
  ·exact h.fuw j m u a c hu hlv hs hva hc hjm hvm hlt
theorem Com.none_since (h:Com a0 K0 C) (ht:C.cs[i]?=some t) (hl:liveB t.state=true) (a c:Int) (j:Nat) (hlv:t.level≠0) (hva:t.vals a≠none) (hc:C.wr c=some ((j:Int)+1)) (hvj:C.v j a≠none) (hlt:t.start<c):False:=by
 have hs2:t.state≠2∧t.state≠3:=by rcases live_iff.1 hl with e | e<;>omega
 have hwi:∀ c (j:Nat),C.wr c=some ((j:Int)+1)→j∈C.com:=fun c j hc=>by
  rw [h.wrc] at hc
  split at hc
  ·obtain⟨m,hm,e⟩:=Option.map_eq_some_iff.1 hc
   have:m=j:=by omega
   subst this
   exact (List.mem_filter.1 (List.mem_of_getElem? hm)).1
  ·cases hc
 have hni:i∉C.com:=fun hc=>by obtain⟨u,hu,h3⟩:=(h.coms i).1 hc;rw [ht] at hu;cases hu;exact hs2.1 h3
 obtain⟨c',h1,_⟩:=h.fuw i j t a c ht hlv hs2.2 hva hc (fun e=>hni (e▸hwi c j hc)) hvj hlt
 exact hni (hwi c' i h1)
end
end Go.Proofs.YtjefgmeejhakbabGreatDoor
namespace Go.Proofs.YtjefgmeejhakbabGreatDoor
section
variable {a0:Int} {K0:Int→Option Int} {C:CE} {Q:Nat→Prop} {T:Tab} {cs:List Cor} {i:Nat} {t t':Cor}
theorem holds_ne {T:Tab} {k x:Int} (h:holdsP T k=x) (h0:x≠0):∃ l,T k=x::l:=by
 unfold holdsP at h
 cases hT:T k with
 | nil=>rw [hT] at h;exact (h0 h.symm).elim
 | cons a l=>rw [hT] at h;simp only [List.headD_cons] at h;exact⟨l,by rw [h]⟩
theorem head_drop {T:Tab} {k x tx:Int} (h:holdsP T k=x) (h0:x≠0) (hx:x≠tx):holdsP (dropP T tx) k=x:=by
 obtain⟨l,hl⟩:=holds_ne h h0
 unfold holdsP dropP
 rw [hl,List.filter_cons,if_pos (by simpa using hx)]
 rfl
theorem out_iff {T:Tab} {tx k x:Int} (h:(k,x)∈outP T tx):holdsP T k=tx∧dropP T tx k≠[]∧x=holdsP (dropP T tx) k∧k∈keysP:=by
 unfold outP at h
 obtain⟨j,hj,hk⟩:=List.mem_flatMap.1 h
 unfold outOf at hk
 split at hk
 ·rename_i hc
  rw [List.mem_singleton] at hk
  injection hk with h1 h2
  subst h1
  exact⟨hc.1,hc.2,h2,hj⟩
 ·cases hk
theorem out_mem {T:Tab} {tx k:Int} (hk:k∈keysP) (h1:holdsP T k=tx) (h2:dropP T tx k≠[]):(k,holdsP (dropP T tx) k)∈outP T tx:=by
 unfold outP
 refine List.mem_flatMap.2 ⟨k,hk,?_⟩
 unfold outOf
 rw [if_pos ⟨h1,h2⟩]
 simp
theorem out_tail {T:Tab} {tx k x:Int} (h:(k,x)∈outP T tx) (h0:tx≠0):x∈(T k).tail∧x≠tx:=by
 obtain⟨h1,h2,h3,_⟩:=out_iff h
 obtain⟨l,hl⟩:=holds_ne h1 h0
 have hx:x∈dropP T tx k:=by rw [h3];exact head_mem h2
 unfold dropP at hx
 rw [List.mem_filter] at hx
 have hne:x≠tx:=by simpa using hx.2
 refine⟨?_,hne⟩
 rw [hl] at hx ⊢
 rcases List.mem_cons.1 hx.1 with e | e
 ·exact (hne e).elim
 ·exact e
theorem Loc.over (h:Loc T cs Q) (hq:¬ Q i) (hs:liveB t'.state=false):Loc (dropP T ((i:Int)+1)) (cs.set i t') (fun j=>Q j∨∃ k,(k,(j:Int)+1)∈outP T ((i:Int)+1)):=by
 have hT:=h.good.tidy
 have htx:((i:Int)+1)≠0:=by omega
 have hsub:∀ k,(dropP T ((i:Int)+1) k).Sublist (T k):=fun k=>List.filter_sublist
 have hne:∀ (k:Int) (j:Nat),(j:Int)+1∈dropP T ((i:Int)+1) k→j≠i:=fun k j hj e=>by
  unfold dropP at hj
  have:=(List.mem_filter.1 hj).2
  simp [e] at this
 have hs1:t'.state≠1:=fun e=>by rw [e] at hs;exact absurd hs (by decide)
 refine⟨h.good.drop _,fun k x hx=>?_,fun k j hj=>?_,fun j u hu h1=>?_,fun j hj=>?_,fun j u k hu hl hv=>?_⟩
 ·obtain⟨j,u,rfl,hu,hl⟩:=h.mem k x ((hsub k).subset hx)
  exact⟨j,u,rfl,by rw [set_ne (hne k j hx)];exact hu,hl⟩
 ·have h1:=(hsub k).tail.subset hj
  obtain⟨u,hu,hst,hw,hnq⟩:=h.tail k j h1
  refine⟨u,by rw [set_ne (hne k j (List.mem_of_mem_tail hj))];exact hu,hst,hw,?_⟩
  rintro (hq' | ⟨k',hk'⟩)
  ·exact hnq hq'
  ·have h2:=(out_tail hk' htx).1
   have e:=hT.one _ _ _ h1 h2
   subst e
   obtain⟨_,hne',h3,_⟩:=out_iff hk'
   rcases head_not_tail ((h.good.drop ((i:Int)+1)).tidy.nod k) with h4 | h4
   ·exact h4 (by rw [show (dropP T ((i:Int)+1) k).headD 0=(j:Int)+1 from h3.symm];exact hj)
   ·exact hne' h4
 ·rcases set_cases hu with ⟨_,rfl⟩ | ⟨hji,hu⟩
  ·exact (hs1 h1).elim
  ·rcases h.wait j u hu h1 with hq' | hw
   ·exact .inl (.inl hq')
   ·have hmem:(j:Int)+1∈dropP T ((i:Int)+1) u.wk:=by
     unfold dropP
     refine List.mem_filter.2 ⟨List.mem_of_mem_tail hw,?_⟩
     simp only [bne_iff_ne,ne_eq]
     omega
    have hne':dropP T ((i:Int)+1) u.wk≠[]:=fun e=>by rw [e] at hmem;cases hmem
    obtain⟨a,l,hal⟩:∃ a l,dropP T ((i:Int)+1) u.wk=a::l:=by
     cases hd:dropP T ((i:Int)+1) u.wk with
     | nil=>exact (hne' hd).elim
     | cons a l=>exact⟨a,l,rfl⟩
    rw [hal] at hmem
    rcases List.mem_cons.1 hmem with e | e
    ·by_cases hh:holdsP T u.wk=(i:Int)+1
     ·left
      right
      refine⟨u.wk,?_⟩
      have:=out_mem (mem_keysP.2 (hT.key hw)) hh hne'
      rw [show holdsP (dropP T ((i:Int)+1)) u.wk=a from by unfold holdsP;rw [hal];rfl,← e] at this
      exact this
     ·have h0:=holds_pos hT (tail_ne hw)
      have h2:=head_drop rfl (by omega) hh
      have h3:holdsP (dropP T ((i:Int)+1)) u.wk=a:=by unfold holdsP;rw [hal];rfl
      rw [h3,e.symm] at h2
      rcases head_not_tail (hT.nod u.wk) with h4 | h4
      ·exact (h4 (by rw [show (T u.wk).headD 0=(j:Int)+1 from h2.symm];exact hw)).elim
      ·rw [h4] at hw;cases hw
    ·right
     rw [hal]
     exact e
 ·rcases hj with hj | ⟨k,hk⟩
  ·obtain⟨u,hu,h1,h2⟩:=h.pend j hj
   have hji:j≠i:=fun e=>hq (e▸hj)
   exact⟨u,by rw [set_ne hji];exact hu,h1,head_drop h2 (by omega) (by omega)⟩
  ·have h1:=out_tail hk htx
   obtain⟨u,hu,h2,h3,_⟩:=h.tail k j h1.1
   have hji:j≠i:=fun e=>h1.2 (by rw [e])
   refine⟨u,by rw [set_ne hji];exact hu,h2,?_⟩
   rw [h3]
   exact (out_iff hk).2.2.1.symm
 ·rcases set_cases hu with ⟨_,rfl⟩ | ⟨hji,hu⟩
  ·rw [hs] at hl;cases hl
  ·exact head_drop (h.hold j u k hu hl hv) (by omega) (by omega)
theorem Loc.wake (h:Loc T cs Q) {j:Nat} (hq:Q j) (ht:cs[j]?=some t) (hs:t'.state=0) (hv:∀ k,t'.vals k≠none→t.vals k≠none∨k=t.wk):Loc T (cs.set j t') (fun m=>Q m∧m≠j):=by
 obtain⟨u,hu,h1,h2⟩:=h.pend j hq
 rw [ht] at hu
 cases hu
 refine⟨h.good,fun k x hx=>?_,fun k m hm=>?_,fun m u hu hs1=>?_,fun m hm=>?_,fun m u k hu hl hvk=>?_⟩
 ·obtain⟨m,u,rfl,hu,hl⟩:=h.mem k x hx
  by_cases e:m=j
  ·subst e
   exact⟨m,t',rfl,set_same ht,by rw [hs];rfl⟩
  ·exact⟨m,u,rfl,by rw [set_ne e];exact hu,hl⟩
 ·obtain⟨u,hu,h3,h4,h5⟩:=h.tail k m hm
  have e:m≠j:=fun e=>h5 (e▸hq)
  exact⟨u,by rw [set_ne e];exact hu,h3,h4,fun hc=>h5 hc.1⟩
 ·rcases set_cases hu with ⟨_,rfl⟩ | ⟨e,hu⟩
  ·omega
  ·exact (h.wait m u hu hs1).imp (fun hq=>⟨hq,e⟩) id
 ·obtain⟨u,hu,h3,h4⟩:=h.pend m hm.1
  exact⟨u,by rw [set_ne hm.2];exact hu,h3,h4⟩
 ·rcases set_cases hu with ⟨rfl,rfl⟩ | ⟨e,hu⟩
  ·rcases hv k hvk with h3 | rfl
   ·exact h.hold m t k ht (live_iff.2 (.inr h1)) h3
   ·exact h2
  ·exact h.hold m u k hu hl hvk
theorem Loc.notQ (h:Loc T cs Q) (ht:cs[i]?=some t) (hs:t.state=0):¬ Q i:=fun hq=>by
 obtain⟨u,hu,h1,_⟩:=h.pend i hq
 rw [ht] at hu
 cases hu
 omega
theorem Loc.put (h:Loc T cs Q) (ht:cs[i]?=some t) (hs:t.state=0) (hs':t'.state=0) {k0:Int} (hv:∀ k,t'.vals k≠none→t.vals k≠none∨(k=k0∧holdsP T k0=(i:Int)+1)):Loc T (cs.set i t') Q:=by
 have hq:=h.notQ ht hs
 refine⟨h.good,fun k x hx=>?_,fun k m hm=>?_,fun m u hu hs1=>?_,fun m hm=>?_,fun m u k hu hl hvk=>?_⟩
 ·obtain⟨m,u,rfl,hu,hl⟩:=h.mem k x hx
  by_cases e:m=i
  ·subst e
   exact⟨m,t',rfl,set_same ht,by rw [hs'];rfl⟩
  ·exact⟨m,u,rfl,by rw [set_ne e];exact hu,hl⟩
 ·obtain⟨u,hu,h3,h4,h5⟩:=h.tail k m hm
  have e:m≠i:=fun e=>by subst e;rw [ht] at hu;cases hu;omega
  exact⟨u,by rw [set_ne e];exact hu,h3,h4,h5⟩
 ·rcases set_cases hu with ⟨_,rfl⟩ | ⟨e,hu⟩
  ·omega
  ·exact h.wait m u hu hs1
 ·obtain⟨u,hu,h3,h4⟩:=h.pend m hm
  have e:m≠i:=fun e=>hq (e▸hm)
  exact⟨u,by rw [set_ne e];exact hu,h3,h4⟩
 ·rcases set_cases hu with ⟨rfl,rfl⟩ | ⟨e,hu⟩
  ·rcases hv k hvk with h3 | ⟨rfl,h3⟩
   ·exact h.hold m t k ht (live_iff.2 (.inl hs)) h3
   ·exact h3
  ·exact h.hold m u k hu hl hvk
theorem Loc.take (h:Loc T cs Q) (ht:cs[i]?=some t) (hl:liveB t.state=true) {k0:Int} (hk:T k0=[]) (hg:Good (updT T k0 [(i:Int)+1])):Loc (updT T k0 [(i:Int)+1]) cs Q:=by
 have h0:holdsP T k0=0:=by unfold holdsP;rw [hk];rfl
 have hh:∀ k x,holdsP T k=x→x≠0→holdsP (updT T k0 [(i:Int)+1]) k=x:=fun k x e hx=>by
  have:k≠k0:=fun e'=>by subst e';omega
  unfold holdsP at e ⊢
  rw [updT_other _ _ this]
  exact e
 have htl:∀ k x,x∈(updT T k0 [(i:Int)+1] k).tail→x∈(T k).tail:=fun k x hx=>by
  by_cases e:k=k0
  ·subst e;rw [updT_same] at hx;cases hx
  ·rw [updT_other _ _ e] at hx;exact hx
 refine⟨hg,fun k x hx=>?_,fun k m hm=>h.tail k m (htl k _ hm),fun m u hu hs1=>?_,fun m hm=>?_,fun m u k hu hl hvk=>hh k _ (h.hold m u k hu hl hvk) (by omega)⟩
 ·by_cases e:k=k0
  ·subst e;rw [updT_same] at hx;simp at hx;exact⟨i,t,hx,ht,hl⟩
  ·rw [updT_other _ _ e] at hx;exact h.mem k x hx
 ·rcases h.wait m u hu hs1 with h1 | h1
  ·exact .inl h1
  ·right
   have:u.wk≠k0:=fun e=>by rw [e,hk] at h1;cases h1
   rw [updT_other _ _ this]
   exact h1
 ·obtain⟨u,hu,h3,h4⟩:=h.pend m hm
  exact⟨u,hu,h3,hh _ _ h4 (by omega)⟩
theorem Loc.stand (h:Loc T cs Q) (ht:cs[i]?=some t) (hs:t.state=0) {k0:Int} (hk:T k0≠[]) (hg:Good (updT T k0 (T k0++[(i:Int)+1]))) (hs':t'.state=1) (hw:t'.wk=k0) (hv:t'.vals=t.vals):Loc (updT T k0 (T k0++[(i:Int)+1])) (cs.set i t') Q:=by
 have hq:=h.notQ ht hs
 obtain⟨a,l,hal⟩:∃ a l,T k0=a::l:=by
  cases hT:T k0 with
  | nil=>exact (hk hT).elim
  | cons a l=>exact⟨a,l,rfl⟩
 have hh:∀ k,holdsP (updT T k0 (T k0++[(i:Int)+1])) k=holdsP T k:=fun k=>by
  unfold holdsP
  by_cases e:k=k0
  ·subst e;rw [updT_same,hal];rfl
  ·rw [updT_other _ _ e]
 have htl:∀ k x,x∈(updT T k0 (T k0++[(i:Int)+1]) k).tail↔x∈(T k).tail∨(k=k0∧x=(i:Int)+1):=fun k x=>by
  by_cases e:k=k0
  ·subst e;rw [updT_same,hal];simp
  ·rw [updT_other _ _ e];simp [e]
 refine⟨hg,fun k x hx=>?_,fun k m hm=>?_,fun m u hu hs1=>?_,fun m hm=>?_,fun m u k hu hl hvk=>?_⟩
 ·have hx':x∈T k∨x=(i:Int)+1:=by
   by_cases e:k=k0
   ·subst e;rw [updT_same] at hx;simpa using hx
   ·rw [updT_other _ _ e] at hx;exact .inl hx
  rcases hx' with hx' | rfl
  ·obtain⟨m,u,rfl,hu,hl⟩:=h.mem k x hx'
   by_cases e:m=i
   ·subst e;exact⟨m,t',rfl,set_same ht,by rw [hs'];rfl⟩
   ·exact⟨m,u,rfl,by rw [set_ne e];exact hu,hl⟩
  ·exact⟨i,t',rfl,set_same ht,by rw [hs'];rfl⟩
 ·rcases (htl k _).1 hm with h1 | ⟨rfl,h1⟩
  ·obtain⟨u,hu,h3,h4,h5⟩:=h.tail k m h1
   have e:m≠i:=fun e=>by subst e;rw [ht] at hu;cases hu;omega
   exact⟨u,by rw [set_ne e];exact hu,h3,h4,h5⟩
  ·have e:m=i:=by omega
   subst e
   exact⟨t',set_same ht,hs',hw,hq⟩
 ·rcases set_cases hu with ⟨rfl,rfl⟩ | ⟨e,hu⟩
  ·right
   rw [hw]
   exact (htl _ _).2 (.inr ⟨rfl,rfl⟩)
  ·exact (h.wait m u hu hs1).imp id (fun h1=>(htl _ _).2 (.inl h1))
 ·obtain⟨u,hu,h3,h4⟩:=h.pend m hm
  have e:m≠i:=fun e=>hq (e▸hm)
  exact⟨u,by rw [set_ne e];exact hu,h3,by rw [hh];exact h4⟩
 ·rw [hh]
  rcases set_cases hu with ⟨rfl,rfl⟩ | ⟨e,hu⟩
  ·exact h.hold m t k ht (live_iff.2 (.inl hs)) (by rw [← hv];exact hvk)
  ·exact h.hold m u k hu hl hvk
theorem Loc.more (h:Loc T cs Q) (hs:t'.state=0) (hv:∀ k,t'.vals k=none):Loc T (cs++[t']) Q:=by
 have hget:∀ {m:Nat} {u:Cor},cs[m]?=some u→(cs++[t'])[m]?=some u:=fun {m u} hu=>by
  rw [List.getElem?_append_left (List.getElem?_eq_some_iff.1 hu).1];exact hu
 have hcs:∀ {m:Nat} {u:Cor},(cs++[t'])[m]?=some u→cs[m]?=some u∨u=t':=fun {m u} hu=>by
  rw [List.getElem?_append] at hu
  split at hu
  ·exact .inl hu
  ·right
   rw [List.getElem?_singleton] at hu
   split at hu
   ·injection hu with hu;exact hu.symm
   ·cases hu
 refine⟨h.good,fun k x hx=>?_,fun k m hm=>?_,fun m u hu hs1=>?_,fun m hm=>?_,fun m u k hu hl hvk=>?_⟩
 ·obtain⟨m,u,rfl,hu,hl⟩:=h.mem k x hx
  exact⟨m,u,rfl,hget hu,hl⟩
 ·obtain⟨u,hu,h3⟩:=h.tail k m hm
  exact⟨u,hget hu,h3⟩
 ·rcases hcs hu with hu | rfl
  ·exact h.wait m u hu hs1
  ·omega
 ·obtain⟨u,hu,h3⟩:=h.pend m hm
  exact⟨u,hget hu,h3⟩
 ·rcases hcs hu with hu | rfl
  ·exact h.hold m u k hu hl hvk
  ·exact (hvk (hv k)).elim
end
end Go.Proofs.YtjefgmeejhakbabGreatDoor
namespace Go.Proofs.YtjefgmeejhakbabGreatDoor
theorem keysOf_pos {α:Type} (f:Int→Option α) {k:Int} (h:k∈keysOf f):0≤k∧k<10:=by
 unfold keysOf at h
 exact mem_keysP.1 (List.mem_filter.1 h).1
theorem instP_len (c:Int):∀ (ws:List (Int × Int)) (ks:List (List (Int × Int))),(instP c ws ks).length=ks.length
 | [],_=>rfl
 | (b,v)::r,ks=>by
  show (instP c r (ks.set b.toNat (putP c v (ks[b.toNat]?.getD [])))).length=_
  rw [instP_len c r]
  simp
theorem instP_other (c:Int):∀ (ws:List (Int × Int)) (ks:List (List (Int × Int))) (a:Nat),(∀ p∈ws,p.1.toNat≠a)→(instP c ws ks)[a]?=ks[a]?
 | [],_,_,_=>rfl
 | (b,v)::r,ks,a,h=>by
  show (instP c r (ks.set b.toNat (putP c v (ks[b.toNat]?.getD []))))[a]?=_
  rw [instP_other c r _ a (fun p hp=>h p (List.mem_cons_of_mem _ hp)),List.getElem?_set,if_neg (h (b,v) (List.mem_cons_self ..))]
theorem instP_get (c:Int) (V:Int→Option Int):∀ (l:List Int) (ks:List (List (Int × Int))) (a:Nat) (L:List (Int × Int)),l.Nodup→(∀ k∈l,0≤k)→ks[a]?=some L →
  (instP c (l.map fun k=>(k,(V k).getD 0)) ks)[a]?=some (if (a:Int)∈l then putP c ((V a).getD 0) L else L)
 | [],ks,a,L,_,_,h=>by simpa [instP] using h
 | b::r,ks,a,L,hn,h0,h=>by
  show (instP c (r.map fun k=>(k,(V k).getD 0)) (ks.set b.toNat (putP c ((V b).getD 0) (ks[b.toNat]?.getD []))))[a]?=_
  have hb0:=h0 b (List.mem_cons_self ..)
  have hn':=List.nodup_cons.1 hn
  by_cases e:(a:Int)=b
  ·have e':b.toNat=a:=by omega
   rw [instP_other c _ _ a (fun p hp e2=>by
    obtain⟨k,hk,rfl⟩:=List.mem_map.1 hp
    have:=h0 k (List.mem_cons_of_mem _ hk)
    simp only at e2
    exact hn'.1 (by rwa [show b=k from by omega])),List.getElem?_set,if_pos e',if_pos (by have:=(List.getElem?_eq_some_iff.1 h).1;omega),if_pos (by rw [e];exact List.mem_cons_self ..),e',h,e]
   rfl
  ·rw [instP_get c V r _ a L hn'.2 (fun k hk=>h0 k (List.mem_cons_of_mem _ hk)) (by rw [List.getElem?_set,if_neg (by omega)];exact h)]
   simp [e]
theorem instP_writes (c:Int) (V:Int→Option Int) (hV:∀ k,V k≠none→0≤k∧k<10) (ks:List (List (Int × Int))) (a:Nat) (L:List (Int × Int)) (h:ks[a]?=some L):(instP c (writesP V) ks)[a]?=some (match V a with | some x=>putP c x L | none=>L):=by
 unfold writesP
 rw [instP_get c V _ ks a L (keysOf_nodup V) (fun k hk=>(keysOf_pos V hk).1) h]
 congr 1
 cases hv:V a with
 | none=>rw [if_neg (fun hm=>by rw [mem_keysOf hV,hv] at hm;cases hm)]
 | some x=>rw [if_pos ((mem_keysOf hV a).2 (by rw [hv];rfl))];rfl
section
variable {a0:Int} {K0:Int→Option Int} {C:CE} {i:Nat} {t t':Cor}
theorem full_le (h:Com a0 K0 C) {a:Int} {p:Int × Int} (hp:p∈full a0 K0 C a):a0≤p.1∧p.1≤C.last:=by
 unfold full at hp
 rcases List.mem_append.1 hp with hp | hp
 ·cases hk:K0 a with
  | none=>rw [hk] at hp;cases hp
  | some x=>rw [hk] at hp;simp at hp;have:=h.lastc;subst hp;simp;omega
 ·obtain⟨j,m,h1,h2,_⟩:=(fullFrom_mem _ a _ _ p.1 p.2).1 hp
  have:=(List.getElem?_eq_some_iff.1 h1).1
  have:=h.lastc
  omega
theorem Com.wr_le (h:Com a0 K0 C) {c x:Int} (hc:C.wr c=some x):a0<c∧c≤C.last:=by
 rw [h.wrc] at hc
 split at hc
 ·obtain⟨m,hm,_⟩:=Option.map_eq_some_iff.1 hc
  have:=(List.getElem?_eq_some_iff.1 hm).1
  have:=h.lastc
  omega
 ·cases hc
theorem Com.wr_com (h:Com a0 K0 C) {c:Int} {j:Nat} (hc:C.wr c=some ((j:Int)+1)):j∈C.cw:=by
 rw [h.wrc] at hc
 split at hc
 ·obtain⟨m,hm,e⟩:=Option.map_eq_some_iff.1 hc
  have:m=j:=by omega
  subst this
  exact List.mem_of_getElem? hm
 ·cases hc
theorem Com.com_wr (h:Com a0 K0 C) {j:Nat} (hj:j∈C.cw):∃ c,a0<c∧c≤C.last∧C.wr c=some ((j:Int)+1):=by
 obtain⟨m,hm,e⟩:=List.mem_iff_getElem.1 hj
 refine⟨a0+1+m,by omega,by have:=h.lastc;omega,?_⟩
 rw [h.wrc,if_pos (by omega),show (a0+1+(m:Int)-a0-1).toNat=m from by omega,List.getElem?_eq_getElem hm,e]
 rfl
theorem wrote_of {V:Int→Option Int} (hV:∀ k,V k≠none→0≤k∧k<10) {a:Int} (h:V a≠none):writesP V≠[]:=fun e=>h ((writesP_nil hV).1 e a)
theorem Com.commit0 (h:Com a0 K0 C) (ht:C.cs[i]?=some t) (hl:liveB t.state=true) (h2:t'.state=2) (hlev:t'.level=t.level) (hst:t'.start=t.start) (hv:t'.vals=t.vals) (hw:writesP t.vals=[]) (hV:∀ k,t.vals k≠none→0≤k∧k<10) (T':Tab) :
  Com a0 K0 { C with cs:=C.cs.set i t',T:=T',com:=C.com++[i] }:=by
 have hs2:t.state≠2:=by rcases live_iff.1 hl with e | e<;>omega
 have hni:i∉C.com:=fun hc=>by obtain⟨u,hu,h3⟩:=(h.coms i).1 hc;rw [ht] at hu;cases hu;exact hs2 h3
 have hv0:=(writesP_nil hV).1 hw
 have hve:∀ j,({ C with cs:=C.cs.set i t',T:=T',com:=C.com++[i] }:CE).v j=C.v j:=fun j=>by
  by_cases e:j=i
  ·subst e
   rw [CE.v_some ht,CE.v_some (C:={ C with cs:=C.cs.set j t',T:=T',com:=C.com++[j] }) (t:=t') (set_same ht),hv]
  ·unfold CE.v;simp only;rw [set_ne e]
 have hcw:({ C with cs:=C.cs.set i t',T:=T',com:=C.com++[i] }:CE).cw=C.cw:=by
  unfold CE.cw
  simp only [List.filter_append,hve]
  rw [List.filter_cons,if_neg (by rw [CE.v_some ht,hw];simp)]
  simp
 have hful:∀ a,full a0 K0 { C with cs:=C.cs.set i t',T:=T',com:=C.com++[i] } a=full a0 K0 C a:=fun a=>by
  unfold full
  rw [hcw,fullFrom_congr _ _ a _ _ (fun j _=>by rw [hve j])]
 refine⟨?_,fun j=>?_,fun j u hu=>?_,h.zero,by rw [hcw];exact h.lastc,by rw [hcw];exact h.nwc,fun c=>by rw [hcw];exact h.wrc c,h.ksl,fun a ha=>?_,fun j m u a c hu hlv hs hva hc hjm hvm hlt=>?_⟩
 ·exact List.nodup_append.2 ⟨h.comn,by simp,fun a ha b hb e=>hni (by rw [List.mem_singleton] at hb;subst hb;subst e;exact ha)⟩
 ·rw [List.mem_append,h.coms j,List.mem_singleton]
  by_cases e:j=i
  ·subst e
   exact⟨fun _=>⟨t',set_same ht,h2⟩,fun _=>.inr rfl⟩
  ·simp only [set_ne e,e,or_false]
 ·rcases set_cases hu with ⟨_,rfl⟩ | ⟨_,hu⟩
  ·rw [hst];exact h.start i t ht
  ·exact h.start j u hu
 ·rw [hful]
  obtain⟨d,h1,h3,h4⟩:=h.kss a ha
  refine⟨d,h1,h3,fun u hu=>h4 u ?_⟩
  rcases hu with hu | ⟨j,x,hx,hxl,hxv,hxs⟩
  ·exact .inl hu
  ·rcases set_cases hx with ⟨_,rfl⟩ | ⟨_,hx⟩
   ·rw [h2] at hxl;cases hxl
   ·exact .inr ⟨j,x,hx,hxl,hxv,hxs⟩
 ·rw [hve m] at hvm
  rcases set_cases hu with ⟨_,rfl⟩ | ⟨_,hu⟩
  ·rw [hv] at hva
   exact (hva (hv0 a)).elim
  ·exact h.fuw j m u a c hu hlv hs hva hc hjm hvm hlt
theorem Com.commitW (h:Com a0 K0 C) (hL:∀ (j:Nat) (u:Cor) (k:Int),C.cs[j]?=some u→liveB u.state=true→u.vals k≠none→holdsP C.T k=(j:Int)+1) (ht:C.cs[i]?=some t) (hl:liveB t.state=true) (h2:t'.state=2) (hlev:t'.level=t.level) (hst:t'.start=t.start) (hv:t'.vals=t.vals) (hw:writesP t.vals≠[])
  (hF:∀ (j:Nat) (u:Cor),C.cs[j]?=some u→Fair u) (T':Tab) :
  Com a0 K0 { C with cs:=C.cs.set i t',T:=T',com:=C.com++[i],last:=C.last+1,ks:=instP (C.last+1) (writesP t.vals) C.ks,wr:=updT C.wr (C.last+1) (some ((i:Int)+1)),nw:=C.nw+1 }:=by
 have hs2:t.state≠2∧t.state≠3:=by rcases live_iff.1 hl with e | e<;>omega
 have hni:i∉C.com:=fun hc=>by obtain⟨u,hu,h3⟩:=(h.coms i).1 hc;rw [ht] at hu;cases hu;exact hs2.1 h3
 have hV:=(hF i t ht).vk
 generalize hC':({ C with cs:=C.cs.set i t',T:=T',com:=C.com++[i],last:=C.last+1,ks:=instP (C.last+1) (writesP t.vals) C.ks,wr:=updT C.wr (C.last+1) (some ((i:Int)+1)),nw:=C.nw+1 }:CE)=C'
 have ecs:C'.cs=C.cs.set i t':=by rw [← hC']
 have ecom:C'.com=C.com++[i]:=by rw [← hC']
 have elast:C'.last=C.last+1:=by rw [← hC']
 have eks:C'.ks=instP (C.last+1) (writesP t.vals) C.ks:=by rw [← hC']
 have ewr:C'.wr=updT C.wr (C.last+1) (some ((i:Int)+1)):=by rw [← hC']
 have enw:C'.nw=C.nw+1:=by rw [← hC']
 clear hC'
 have hve:∀ j,C'.v j=C.v j:=fun j=>by
  by_cases e:j=i
  ·subst e
   rw [CE.v_some ht,CE.v_some (C:=C') (t:=t') (by rw [ecs];exact set_same ht),hv]
  ·unfold CE.v;rw [ecs,set_ne e]
 have hcw:C'.cw=C.cw++[i]:=by
  unfold CE.cw
  rw [ecom]
  simp only [List.filter_append,hve]
  rw [List.filter_cons (x:=i),if_pos (by rw [CE.v_some ht];simpa using hw)]
  simp
 have hlastc:=h.lastc
 have hful:∀ a,full a0 K0 C' a=full a0 K0 C a++(match t.vals a with | some x=>[(C.last+1,x)] | none=>[]):=fun a=>by
  unfold full
  rw [hcw,fullFrom_congr _ C.v a _ _ (fun j _=>by rw [hve j]),fullFrom_append,← List.append_assoc]
  congr 1
  rw [fullFrom,fullFrom,CE.v_some ht,List.append_nil,show a0+1+(C.cw.length:Int)=C.last+1 from by omega]
  try (cases t.vals a<;>rfl)
 have hwr:∀ {c x:Int},C'.wr c=some x→(c=C.last+1∧x=(i:Int)+1)∨C.wr c=some x:=fun {c x} hc=>by
  rw [ewr] at hc
  unfold updT at hc
  split at hc
  ·rename_i e
   injection hc with hc
   exact .inl ⟨e,hc.symm⟩
  ·exact .inr hc
 have hwr':∀ {c x:Int},C.wr c=some x→C'.wr c=some x:=fun {c x} hc=>by
  have:=(h.wr_le hc).2
  rw [ewr,updT_other _ _ (by omega)]
  exact hc
 refine⟨?_,fun j=>?_,fun j u hu=>?_,h.zero,?_,?_,fun c=>?_,?_,fun a ha=>?_,fun j m u a c hu hlv hs hva hc hjm hvm hlt=>?_⟩
 ·rw [ecom]
  exact List.nodup_append.2 ⟨h.comn,by simp,fun a ha b hb e=>hni (by rw [List.mem_singleton] at hb;subst hb;subst e;exact ha)⟩
 ·rw [ecom,List.mem_append,h.coms j,List.mem_singleton,ecs]
  by_cases e:j=i
  ·subst e
   exact⟨fun _=>⟨t',set_same ht,h2⟩,fun _=>.inr rfl⟩
  ·simp only [set_ne e,e,or_false]
 ·rw [ecs] at hu
  rw [elast]
  rcases set_cases hu with ⟨_,rfl⟩ | ⟨_,hu⟩
  ·rw [hst];have:=h.start i t ht;omega
  ·have:=h.start j u hu;omega
 ·rw [elast,hcw];simp;omega
 ·rw [enw,hcw,h.nwc];simp
 ·rw [ewr,hcw]
  unfold updT
  by_cases e:c=C.last+1
  ·rw [if_pos e,if_pos (by have:=h.start i t ht;omega),e,show (C.last+1-a0-1).toNat=C.cw.length from by omega]
   simp
  ·rw [if_neg e,h.wrc]
   split
   ·rename_i h0
    congr 1
    by_cases e2:c≤C.last
    ·rw [List.getElem?_append_left (by omega)]
    ·rw [List.getElem?_eq_none (by omega),List.getElem?_eq_none (by simp;omega)]
   ·rfl
 ·rw [eks,instP_len];exact h.ksl
 ·obtain⟨d,h1,h3,h4⟩:=h.kss a ha
  refine⟨d,by rw [hful];simp;omega,?_,fun u hu=>?_⟩
  ·rw [eks,instP_writes _ _ hV _ a _ h3,hful]
   congr 1
   cases hva:t.vals a with
   | none=>simp
   | some x =>
    simp only
    rw [List.drop_append_of_le_length h1]
    unfold putP
    rw [if_neg]
    intro e
    cases hg:((full a0 K0 C a).drop d).getLast? with
    | none=>rw [hg] at e;cases e
    | some p =>
     rw [hg] at e
     injection e with e
     have:=(full_le h (List.mem_of_mem_drop (List.mem_of_getLast? hg))).2
     omega
  ·have hu':C.Sees u:=by
    rcases hu with hu | ⟨j,x,hx,hxl,hxv,hxs⟩
    ·exact .inl (by omega)
    ·rw [ecs] at hx
     rcases set_cases hx with ⟨_,rfl⟩ | ⟨_,hx⟩
     ·rw [h2] at hxl;cases hxl
     ·exact .inr ⟨j,x,hx,hxl,hxv,hxs⟩
   rcases h4 u hu' with e | ⟨p,hp,hpu⟩
   ·exact .inl e
   ·right
    rw [hful,List.drop_append_of_le_length h1]
    exact⟨p,List.mem_append_left _ hp,hpu⟩
 ·rw [hve m] at hvm
  rw [ecs] at hu
  rcases set_cases hu with ⟨rfl,rfl⟩ | ⟨hji,hu2⟩
  ·rw [hv] at hva
   rw [hlev] at hlv
   rw [hst] at hlt
   rcases hwr hc with ⟨_,e⟩ | hc
   ·exact (hjm (by omega)).elim
   ·exact (h.none_since ht hl a c m hlv hva hc hvm hlt).elim
  ·rcases hwr hc with ⟨e,e2⟩ | hc
   ·have hmi:m=i:=by omega
    subst hmi
    rw [CE.v_some ht] at hvm
    by_cases hlu:liveB u.state=true
    ·have e1:=hL j u a hu2 hlu hva
     have e3:=hL m t a ht hl hvm
     exact (hji (by omega)).elim
    ·have hs0:=(hF j u hu2).sta
     have hsu:u.state=2:=by
      have:¬ (u.state=0∨u.state=1):=fun e=>hlu (live_iff.2 e)
      omega
     have hjc:j∈C.cw:=by
      unfold CE.cw
      refine List.mem_filter.2 ⟨(h.coms j).2 ⟨u,hu2,hsu⟩,?_⟩
      rw [CE.v_some hu2]
      simpa using wrote_of (hF j u hu2).vk hva
     obtain⟨c',_,h6,h7⟩:=h.com_wr hjc
     exact⟨c',hwr' h7,by omega⟩
   ·obtain⟨c',h6,h7⟩:=h.fuw j m u a c hu2 hlv hs hva hc hjm hvm hlt
    exact⟨c',hwr' h6,h7⟩
theorem Com.more (h:Com a0 K0 C) (hs:t'.state=0) (hv:∀ k,t'.vals k=none) (hst:t'.start=C.last):Com a0 K0 { C with cs:=C.cs++[t'] }:=by
 have hget:∀ {m:Nat} {u:Cor},C.cs[m]?=some u→(C.cs++[t'])[m]?=some u:=fun {m u} hu=>by
  rw [List.getElem?_append_left (List.getElem?_eq_some_iff.1 hu).1];exact hu
 have hcs:∀ {m:Nat} {u:Cor},(C.cs++[t'])[m]?=some u→C.cs[m]?=some u∨u=t':=fun {m u} hu=>by
  rw [List.getElem?_append] at hu
  split at hu
  ·exact .inl hu
  ·right
   rw [List.getElem?_singleton] at hu
   split at hu
   ·injection hu with hu;exact hu.symm
   ·cases hu
 have hve:∀ j a,({ C with cs:=C.cs++[t'] }:CE).v j a=C.v j a:=fun j a=>by
  cases hj:C.cs[j]? with
  | some u=>rw [CE.v_some hj,CE.v_some (C:={ C with cs:=C.cs++[t'] }) (hget hj)]
  | none =>
   rw [show C.v j a=none from by unfold CE.v;rw [hj]]
   cases hj2:(C.cs++[t'])[j]? with
   | none=>unfold CE.v;simp only;rw [hj2]
   | some u =>
    rw [CE.v_some (C:={ C with cs:=C.cs++[t'] }) hj2]
    rcases hcs hj2 with h3 | rfl
    ·rw [hj] at h3;cases h3
    ·exact hv a
 have hve2:∀ j,({ C with cs:=C.cs++[t'] }:CE).v j=C.v j:=fun j=>funext (hve j)
 have hcw:({ C with cs:=C.cs++[t'] }:CE).cw=C.cw:=by
  unfold CE.cw
  simp only [hve2]
 have hful:∀ a,full a0 K0 { C with cs:=C.cs++[t'] } a=full a0 K0 C a:=fun a=>by
  unfold full
  rw [hcw,fullFrom_congr _ _ a _ _ (fun j _=>hve j a)]
 have hlc:=h.lastc
 refine⟨h.comn,fun j=>?_,fun j u hu=>?_,h.zero,by rw [hcw];exact h.lastc,by rw [hcw];exact h.nwc,fun c=>by rw [hcw];exact h.wrc c,h.ksl,fun a ha=>?_,fun j m u a c hu hlv hs3 hva hc hjm hvm hlt=>?_⟩
 ·rw [h.coms j]
  constructor
  ·rintro⟨u,hu,h3⟩;exact⟨u,hget hu,h3⟩
  ·rintro⟨u,hu,h3⟩
   rcases hcs hu with hu | rfl
   ·exact⟨u,hu,h3⟩
   ·omega
 ·rcases hcs hu with hu | rfl
  ·exact h.start j u hu
  ·show a0≤u.start∧u.start≤C.last
   omega
 ·rw [hful]
  obtain⟨d,h1,h3,h4⟩:=h.kss a ha
  refine⟨d,h1,h3,fun u hu=>h4 u ?_⟩
  rcases hu with hu | ⟨j,x,hx,hxl,hxv,hxs⟩
  ·exact .inl hu
  ·rcases hcs hx with hx | rfl
   ·exact .inr ⟨j,x,hx,hxl,hxv,hxs⟩
   ·exact .inl (by omega)
 ·rw [hve2 m] at hvm
  rcases hcs hu with hu | rfl
  ·exact h.fuw j m u a c hu hlv hs3 hva hc hjm hvm hlt
  ·exact (hva (hv a)).elim
theorem Com.sweep (h:Com a0 K0 C) {u:Int} (hu:∀ v,C.Sees v→u≤v):Com a0 K0 { C with ks:=C.ks.map (sweepL u) }:=by
 refine⟨h.comn,h.coms,h.start,h.zero,h.lastc,h.nwc,h.wrc,by simpa using h.ksl,fun a ha=>?_,h.fuw⟩
 obtain⟨d,h1,h3,h4⟩:=h.kss a ha
 show ∃ d,d≤(full a0 K0 C a).length∧(C.ks.map (sweepL u))[a]?=some ((full a0 K0 C a).drop d)∧∀ v,C.Sees v→d=0∨∃ p∈(full a0 K0 C a).drop d,p.1≤v
 have hb:=lat_bounds ((full a0 K0 C a).drop d) u
 rw [List.length_drop] at hb
 refine⟨d+(lat ((full a0 K0 C a).drop d) u).toNat,by omega,?_,fun v hv=>?_⟩
 ·rw [List.getElem?_map,h3]
  simp only [Option.map_some,sweepL,List.drop_drop]
 ·by_cases h0:lat ((full a0 K0 C a).drop d) u≤0
  ·rw [show (lat ((full a0 K0 C a).drop d) u).toNat=0 from by omega,Nat.add_zero]
   exact h4 v hv
  ·right
   have hrd:∃ p,((full a0 K0 C a).drop d)[(lat ((full a0 K0 C a).drop d) u).toNat]?=some p∧p.1≤u:=by
    have key:∀ (l:List (Int × Int)) (m:Nat),m≤l.length→0≤latN l u m→∃ p,l[(latN l u m).toNat]?=some p∧p.1≤u:=by
     intro l m
     induction m with
     | zero=>intro _ h;simp [latN] at h
     | succ m ih =>
      intro hm h
      have hget:l[m]?=some l[m]:=List.getElem?_eq_getElem (by omega)
      by_cases hc:(l[m]?.getD (0,0)).1≤u
      ·simp only [latN,if_pos hc]
       rw [hget] at hc
       exact⟨l[m],by simp,hc⟩
      ·simp only [latN,if_neg hc] at h ⊢
       exact ih (by omega) h
    exact key _ _ (Nat.le_refl _) (by unfold lat at h0;omega)
   obtain⟨p,hp,hpu⟩:=hrd
   refine⟨p,?_,Int.le_trans hpu (hu v hv)⟩
   rw [← List.drop_drop]
   refine List.mem_iff_getElem?.2 ⟨0,?_⟩
   rw [List.getElem?_drop]
   exact hp
end
end Go.Proofs.YtjefgmeejhakbabGreatDoor
namespace Go.Proofs.YtjefgmeejhakbabGreatDoor
theorem cs_get {E:Eng} {i:Nat} {t:Tx} (h:E.txs[i]?=some t):E.ce.cs[i]?=some (cor t):=by simp [Eng.ce,h]
theorem cs_of {E:Eng} {i:Nat} {u:Cor} (h:E.ce.cs[i]?=some u):∃ t,E.txs[i]?=some t∧cor t=u:=by
 simp only [Eng.ce,List.getElem?_map,Option.map_eq_some_iff] at h
 exact h
theorem ce_set (E:Eng) (i:Nat) (t:Tx):(E.setTx i t).ce={ E.ce with cs:=E.ce.cs.set i (cor t) }:=by simp [Eng.setTx,Eng.ce,List.map_set]
theorem set_id {cs:List Cor} {i:Nat} {t:Cor} (h:cs[i]?=some t):cs.set i t=cs:=by
 refine List.ext_getElem? (fun j=>?_)
 rw [List.getElem?_set]
 split
 ·rename_i e
  subst e
  have:=(List.getElem?_eq_some_iff.1 h).1
  rw [if_pos this,h]
 ·rfl
theorem ce_set_id {E:Eng} {i:Nat} {t t':Tx} (h:E.txs[i]?=some t) (he:cor t'=cor t):(E.setTx i t').ce=E.ce:=by
 rw [ce_set,he,set_id (cs_get h)]
theorem ce_putAhead (E:Eng) (i j:Nat):(putAheadP E i j).2.ce=E.ce:=by
 unfold putAheadP
 split
 ·rename_i t u ht hu
  by_cases e:i=j
  ·subst e
   rw [ht] at hu
   cases hu
   simp only [setTx_twice]
   exact ce_set_id ht (by rfl)
  ·exact (ce_set_id (t:=u) (by rw [setTx_get_ne e];exact hu) (by rfl)).trans (ce_set_id ht (by rfl))
 ·rfl
theorem ce_aheadAll (f:Nat→Nat × Nat):∀ (js:List Nat) (E:Eng),(aheadAll f js E).2.ce=E.ce
 | [],E=>rfl
 | j::r,E=>by
  have h1:=ce_putAhead E (f j).1 (f j).2
  unfold aheadAll
  rcases hp:putAheadP E (f j).1 (f j).2 with ⟨b,E'⟩
  rw [hp] at h1
  cases b with
  | true=>exact (ce_aheadAll f r E').trans h1
  | false=>exact h1
theorem ce_aheadEach (i:Nat):∀ (js:List Nat) (E:Eng),(aheadEach i js E).ce=E.ce
 | [],E=>rfl
 | j::r,E=>by
  unfold aheadEach
  exact (ce_aheadEach i r _).trans (ce_putAhead E i j)
theorem ce_aheadTimes (i:Nat):∀ (ts:List Int) (E:Eng),(aheadTimes i ts E).2.ce=E.ce
 | [],E=>rfl
 | a::r,E=>by
  unfold aheadTimes
  split
  ·rename_i j _
   have h1:=ce_putAhead E i j
   rcases hp:putAheadP E i j with ⟨b,E'⟩
   rw [hp] at h1
   cases b with
   | true=>exact (ce_aheadTimes i r E').trans h1
   | false=>exact h1
  ·exact ce_aheadTimes i r E
theorem ce_aow (E:Eng) (i:Nat) (key:Int):(aowP E i key).2.ce=E.ce:=by
 unfold aowP
 split
 ·rename_i t _
  have h1:=ce_aheadTimes i (newerP E key t.start) E
  rcases hp:aheadTimes i (newerP E key t.start) E with ⟨b,E'⟩
  rw [hp] at h1
  cases b with
  | true=>exact (ce_aheadEach i _ E').trans h1
  | false=>exact h1
 ·rfl
theorem ce_upd {E:Eng} {i:Nat} {t:Tx} (h:E.txs[i]?=some t) (f:Tx→Tx):(E.upd i f).ce={ E.ce with cs:=E.ce.cs.set i (cor (f t)) }:=by rw [Eng.upd_some h,ce_set]
theorem map_free (n:Int) (l:List Tx):(l.map (freeOf n)).map cor=l.map cor:=by
 rw [List.map_map]
 rfl
theorem ce_lose (E:Eng) (i:Nat) (why:Int):(loseE E i why).ce=E.ce:=by
 unfold loseE
 split
 ·rename_i t ht
  have hi:=(List.getElem?_eq_some_iff.1 ht).1
  have h1:({ E with txs:=(E.txs.set i { t with why:=why }).map (freeOf ((i:Int)+1)) }:Eng).ce=E.ce:=by
   unfold Eng.ce
   simp only [map_free,List.map_set]
   congr 1
   exact set_id (t:=cor t) (by simp [ht])
  have h2:({ E with txs:=(E.txs.set i { t with why:=why }).map (freeOf ((i:Int)+1)) }:Eng).txs[i]?=some (freeOf ((i:Int)+1) { t with why:=why }):=by
   simp [hi]
  rw [Eng.upd_some h2]
  exact (ce_set_id h2 (by rfl)).trans h1
 ·rfl
theorem ce_over {E:Eng} {i:Nat} {t:Tx} (h:E.txs[i]?=some t) (st:Int):(overE E i st).ce={ E.ce with cs:=E.ce.cs.set i { cor t with state:=st },T:=dropP E.T ((i:Int)+1) }:=by
 unfold overE
 rw [Eng.upd_some h]
 simp [Eng.setTx,Eng.ce,List.map_set,cor]
theorem ce_put {E:Eng} {j:Nat} {t:Tx} (h:E.txs[j]?=some t) {why:Int} {E2:Eng} (hp:putE E j=(why,E2)) :
  (why=10∧E2=E∧t.level≠0∧newerP E t.wk t.start≠[])∨((why=0∨why=13)∧¬ (t.level≠0∧newerP E t.wk t.start≠[])∧E2.ce={ E.ce with cs:=E.ce.cs.set j { cor t with vals:=updT t.vals t.wk (some t.wv) } }):=by
 unfold putE at hp
 rw [h] at hp
 simp only at hp
 split at hp
 ·rename_i hc
  injection hp with h1 h2
  exact .inl ⟨h1.symm,h2.symm,hc.1,hc.2⟩
 ·rename_i hc
  right
  have hset:(E.setTx j { t with vals:=updT t.vals t.wk (some t.wv) }).ce={ E.ce with cs:=E.ce.cs.set j { cor t with vals:=updT t.vals t.wk (some t.wv) } }:=by rw [ce_set];rfl
  split at hp
  ·rename_i hl
   rcases hb:behindP (E.setTx j { t with vals:=updT t.vals t.wk (some t.wv) }) j t.wk with ⟨b,E3⟩
   have hbe:E3.ce=(E.setTx j { t with vals:=updT t.vals t.wk (some t.wv) }).ce:=by
    have:=ce_aheadAll (fun m=>(m,j)) (thoseP (E.setTx j { t with vals:=updT t.vals t.wk (some t.wv) }) (hasReadB t.wk j)) (E.setTx j { t with vals:=updT t.vals t.wk (some t.wv) })
    unfold behindP at hb
    rw [hb] at this
    exact this
   rw [hb] at hp
   cases b with
   | true =>
    injection hp with h1 h2
    exact⟨.inl h1.symm,hc,by rw [← h2,hbe,hset]⟩
   | false =>
    injection hp with h1 h2
    exact⟨.inr h1.symm,hc,by rw [← h2,hbe,hset]⟩
  ·injection hp with h1 h2
   exact⟨.inl h1.symm,hc,by rw [← h2,hset]⟩
section
variable {a0:Int} {K0:Int→Option Int} {C:CE} {Q:Nat→Prop} {i:Nat} {t t':Cor}
theorem Mid.gone (h:Mid a0 K0 C Q) (ht:C.cs[i]?=some t) (hl:liveB t.state=true) (hq:¬ Q i) :
  Mid a0 K0 { C with cs:=C.cs.set i { t with state:=3 },T:=dropP C.T ((i:Int)+1) } (fun j=>Q j∨∃ k,(k,(j:Int)+1)∈outP C.T ((i:Int)+1)):=by
 have hf:=h.reg.fair i t ht
 exact⟨h.loc.over hq (by rfl),h.reg.set ht hl ⟨hf.lev,(by show (0:Int)≤3∧(3:Int)≤3;omega),hf.vk,hf.fin,hf.wan⟩,h.com.set ht hl (by show (3:Int)≠2;omega) (by rfl) (by rfl) _ (fun _ _ _ _ h3=>(h3 rfl).elim)⟩
theorem Com.newer (h:Com a0 K0 C) {a:Nat} (ha:a<10) {u:Int} (hu:C.Sees u) (hn:((C.ks[a]?.getD []).drop (lat (C.ks[a]?.getD []) u+1).toNat).map (·.1)=[]):∀ p∈full a0 K0 C a,p.1≤u:=by
 obtain⟨d,h1,h3,h4⟩:=h.kss a ha
 rw [h3] at hn
 simp only [Option.getD_some,List.map_eq_nil_iff,List.drop_eq_nil_iff] at hn
 intro p hp
 have hsort:(full a0 K0 C a).Pairwise (fun p q=>p.1<q.1):=by
  unfold full
  refine List.pairwise_append.2 ⟨by cases K0 a<;>simp,fullFrom_sorted _ _ _ _,fun p hp q hq=>?_⟩
  obtain⟨j,m,_,e,_⟩:=(fullFrom_mem _ _ _ _ q.1 q.2).1 hq
  cases hk:K0 a with
  | none=>rw [hk] at hp;cases hp
  | some x=>rw [hk] at hp;simp at hp;rw [hp];simp;omega
 have hlast:∀ q∈(full a0 K0 C a).drop d,q.1≤u:=by
  intro q hq
  have hb:=lat_bounds ((full a0 K0 C a).drop d) u
  have hpos:0<((full a0 K0 C a).drop d).length:=List.length_pos_of_mem hq
  have hle:lat ((full a0 K0 C a).drop d) u=(((full a0 K0 C a).drop d).length:Int)-1:=by omega
  obtain⟨m,hm⟩:∃ m,((full a0 K0 C a).drop d).length=m+1:=⟨((full a0 K0 C a).drop d).length-1,by omega⟩
  have hget:((full a0 K0 C a).drop d)[m]?=some (((full a0 K0 C a).drop d)[m]'(by omega)):=List.getElem?_eq_getElem _
  have hlm:(((full a0 K0 C a).drop d)[m]'(by omega)).1≤u:=by
   unfold lat at hle
   rw [hm] at hle
   simp only [latN,hget,Option.getD_some] at hle
   split at hle
   ·assumption
   ·have:=(lat_lt ((full a0 K0 C a).drop d) u m).1
    omega
  obtain⟨n,hn',e⟩:=List.mem_iff_getElem.1 hq
  have hs2:=hsort.sublist (List.drop_sublist d _)
  by_cases hnm:n=m
  ·subst hnm;rw [← e];exact hlm
  ·have:=List.pairwise_iff_getElem.1 hs2 n m hn' (by omega) (by omega)
   rw [e] at this
   omega
 rcases h4 u hu with e | ⟨q,hq,hqu⟩
 ·subst e
  rw [List.drop_zero] at hlast
  exact hlast p hp
 ·rw [← List.take_append_drop d (full a0 K0 C a)] at hp hsort
  rcases List.mem_append.1 hp with h5 | h5
  ·have:=(List.pairwise_append.1 hsort).2.2 p h5 q hq
   omega
  ·exact hlast p h5
theorem Com.full_of (h:Com a0 K0 C) {c:Int} {j:Nat} {a x:Int} (hc:C.wr c=some ((j:Int)+1)) (hx:C.v j a=some x):(c,x)∈full a0 K0 C a:=by
 unfold full
 refine List.mem_append_right _ ((fullFrom_mem _ _ _ _ _ _).2 ?_)
 rw [h.wrc] at hc
 split at hc
 ·rename_i h0
  obtain⟨m,hm,e⟩:=Option.map_eq_some_iff.1 hc
  have:m=j:=by omega
  subst this
  exact⟨_,m,hm,by omega,hx⟩
 ·cases hc
theorem Com.put (h:Com a0 K0 C) (ht:C.cs[i]?=some t) (hl:liveB t.state=true) (hl':liveB t'.state=true) (hlev:t'.level=t.level) (hst:t'.start=t.start) {k0 x0:Int} (hk0:0≤k0∧k0<10) (hv:t'.vals=updT t.vals k0 (some x0)) (T':Tab)
  (hn:¬ (t.level≠0∧((C.ks[k0.toNat]?.getD []).drop (lat (C.ks[k0.toNat]?.getD []) t.start+1).toNat).map (·.1)≠[])):Com a0 K0 { C with cs:=C.cs.set i t',T:=T' }:=by
 refine h.set ht hl (by rcases live_iff.1 hl' with e | e<;>omega) hlev hst T' (fun a c j hlv _ hva hc hvj hlt=>?_)
 rw [hlev] at hlv
 by_cases e:a=k0
 ·subst e
  have hn':((C.ks[a.toNat]?.getD []).drop (lat (C.ks[a.toNat]?.getD []) t.start+1).toNat).map (·.1)=[]:=Classical.byContradiction (fun h'=>hn ⟨hlv,h'⟩)
  cases hx:C.v j a with
  | none=>exact hvj hx
  | some x =>
   have h1:=h.newer (a:=a.toNat) (by omega) (.inr ⟨i,t,ht,hl,hlv,Int.le_refl _⟩) hn' (c,x) (by rw [show ((a.toNat:Nat):Int)=a from by omega];exact h.full_of hc hx)
   simp only at h1
   omega
 ·rw [hv,updT_other _ _ e] at hva
  exact h.none_since ht hl a c j hlv hva hc hvj hlt
theorem Mid.wakePut (h:Mid a0 K0 C Q) {j:Nat} (hq:Q j) (ht:C.cs[j]?=some t) (hn:¬ (t.level≠0∧((C.ks[t.wk.toNat]?.getD []).drop (lat (C.ks[t.wk.toNat]?.getD []) t.start+1).toNat).map (·.1)≠[])) :
  Mid a0 K0 { C with cs:=C.cs.set j { t with state:=0,vals:=updT t.vals t.wk (some t.wv) } } (fun m=>Q m∧m≠j):=by
 have hf:=h.reg.fair j t ht
 obtain⟨u,hu,h1,_⟩:=h.loc.pend j hq
 rw [ht] at hu
 cases hu
 have hl:liveB t.state=true:=live_iff.2 (.inr h1)
 refine⟨h.loc.wake hq ht rfl (fun k hk=>?_),h.reg.set ht hl ⟨hf.lev,(by show (0:Int)≤0∧(0:Int)≤3;omega),fun k hk=>?_,fun k v hk=>?_,hf.wan⟩,h.com.put ht hl (by rfl) (by rfl) (by rfl) hf.wan.1 (by rfl) C.T hn⟩
 ·by_cases e:k=t.wk
  ·exact .inr e
  ·left
   simpa [updT_other _ _ e] using hk
 ·by_cases e:k=t.wk
  ·rw [e];exact hf.wan.1
  ·exact hf.vk k (by simpa [updT_other _ _ e] using hk)
 ·by_cases e:k=t.wk
  ·subst e
   simp only [updT_same] at hk
   injection hk with hk
   rw [← hk]
   exact hf.wan.2
  ·exact hf.fin k v (by simpa [updT_other _ _ e] using hk)
theorem Mid.wake (h:Mid a0 K0 C Q) {j:Nat} (hq:Q j) (ht:C.cs[j]?=some t):Mid a0 K0 { C with cs:=C.cs.set j { t with state:=0 } } (fun m=>Q m∧m≠j):=by
 have hf:=h.reg.fair j t ht
 obtain⟨u,hu,h1,_⟩:=h.loc.pend j hq
 rw [ht] at hu
 cases hu
 have hl:liveB t.state=true:=live_iff.2 (.inr h1)
 exact⟨h.loc.wake hq ht rfl (fun k hk=>.inl hk),h.reg.set ht hl ⟨hf.lev,(by show (0:Int)≤0∧(0:Int)≤3;omega),hf.vk,hf.fin,hf.wan⟩,h.com.set ht hl (by show (0:Int)≠2;omega) (by rfl) (by rfl) _ (fun a c m hlv _ hva hc hvm hlt=>h.com.none_since ht hl a c m hlv hva hc hvm hlt)⟩
end
def wakeE (E:Eng) (j:Nat):Eng:=E.upd j (fun t=>{ t with state:=0 })
def outQ (T:Tab) (i:Nat) (j:Nat):Prop:=∃ k,(k,(j:Int)+1)∈outP T ((i:Int)+1)
section
variable {a0:Int} {K0:Int→Option Int} {E E2:Eng} {Q:Nat→Prop} {i j:Nat} {t:Tx} {why:Int}
theorem Mid.putE (h:Mid a0 K0 E.ce Q) (hq:Q j) (hp:putE (wakeE E j) j=(why,E2)):Mid a0 K0 E2.ce (fun m=>Q m∧m≠j)∧E2.ce.live=E.ce.live∧E2.T=E.T∧(∃ u,E2.txs[j]?=some u∧u.state=0)∧(why=0∨why=10∨why=13):=by
 obtain⟨u,hu,h1,h2⟩:=h.loc.pend j hq
 obtain⟨t,ht,rfl⟩:=cs_of hu
 have hl:liveB (cor t).state=true:=live_iff.2 (.inr h1)
 have hw:(wakeE E j).txs[j]?=some { t with state:=0 }:=by unfold wakeE;rw [Eng.upd_some ht];exact setTx_get ht
 have hwc:(wakeE E j).ce={ E.ce with cs:=E.ce.cs.set j { cor t with state:=0 } }:=by unfold wakeE;rw [ce_upd ht];rfl
 have hwT:(wakeE E j).T=E.T:=by unfold wakeE;rw [Eng.upd_some ht];rfl
 have hwk:(wakeE E j).ks=E.ks:=by unfold wakeE;rw [Eng.upd_some ht];rfl
 rcases ce_put hw hp with ⟨rfl,rfl,_,_⟩ | ⟨hy,hn,he⟩
 ·refine⟨by rw [hwc];exact h.wake hq hu,?_,hwT,⟨_,hw,rfl⟩,.inr (.inl rfl)⟩
  rw [hwc]
  exact count_live hu hl rfl
 ·have hce:E2.ce={ E.ce with cs:=E.ce.cs.set j { cor t with state:=0,vals:=updT t.vals t.wk (some t.wv) } }:=by
   rw [he,hwc]
   simp [cor]
  have hn':¬ (t.level≠0∧((E.ce.ks[t.wk.toNat]?.getD []).drop (lat (E.ce.ks[t.wk.toNat]?.getD []) t.start+1).toNat).map (·.1)≠[]):=by
   unfold newerP at hn
   rw [hwk] at hn
   exact hn
  refine⟨by rw [hce];exact h.wakePut hq hu hn',?_,?_,?_,by omega⟩
  ·rw [hce]
   exact count_live hu hl rfl
  ·have:=congrArg CE.T hce
   exact this
  ·have h3:E2.ce.cs[j]?=some { cor t with state:=0,vals:=updT t.vals t.wk (some t.wv) }:=by rw [hce];exact set_same hu
   obtain⟨u,hu,e⟩:=cs_of h3
   exact⟨u,hu,by have:=congrArg Cor.state e;exact this⟩
theorem lose_get {t:Tx} (ht:E.txs[i]?=some t):∃ u,(loseE E i why).txs[i]?=some u∧cor u=cor t:=by
 have:=cs_get ht
 rw [← ce_lose E i why] at this
 exact cs_of this
theorem lose_T (E:Eng) (i:Nat) (why:Int):(loseE E i why).T=E.T:=congrArg CE.T (ce_lose E i why)
theorem Mid.goneE (h:Mid a0 K0 E.ce Q) (ht:E.txs[i]?=some t) (hl:liveB t.state=true) (hq:¬ Q i):Mid a0 K0 (overE (loseE E i why) i 3).ce (fun j=>Q j∨outQ E.T i j)∧(overE (loseE E i why) i 3).ce.live+1=E.ce.live:=by
 obtain⟨u,hu,e⟩:=lose_get (why:=why) ht
 rw [ce_over hu,e,ce_lose,lose_T]
 exact⟨h.gone (cs_get ht) hl hq,count_over (cs_get ht) hl (by rfl)⟩
theorem out_nodup {T:Tab} (hT:Tidy0 T) {tx:Int} (h0:tx≠0):((outP T tx).map (·.2)).Nodup:=by
 have key:∀ (ks:List Int),ks.Nodup→(∀ k∈ks,k∈keysP)→((ks.flatMap (outOf T tx)).map (·.2)).Nodup:=by
  intro ks
  induction ks with
  | nil=>intro _ _;exact List.Pairwise.nil
  | cons k r ih =>
   intro hn hk
   have hn':=List.nodup_cons.1 hn
   rw [List.flatMap_cons,List.map_append]
   refine List.nodup_append.2 ⟨?_,ih hn'.2 (fun k hk'=>hk k (List.mem_cons_of_mem _ hk')),?_⟩
   ·unfold outOf
    split<;>simp
   ·intro a ha b hb e
    subst e
    obtain⟨p,hp,rfl⟩:=List.mem_map.1 ha
    obtain⟨q,hq,e⟩:=List.mem_map.1 hb
    obtain⟨k',hk',hq⟩:=List.mem_flatMap.1 hq
    have hp1:p.1=k:=by unfold outOf at hp;split at hp<;>simp at hp;rw [hp]
    have hq1:q.1=k':=by unfold outOf at hq;split at hq<;>simp at hq;rw [hq]
    have hpo:(p.1,p.2)∈outP T tx:=List.mem_flatMap.2 ⟨k,hk k (List.mem_cons_self ..),hp⟩
    have hqo:(q.1,q.2)∈outP T tx:=List.mem_flatMap.2 ⟨k',hk k' (List.mem_cons_of_mem _ hk'),hq⟩
    have h1:=(out_tail hpo h0).1
    have h2:=(out_tail hqo h0).1
    rw [e] at h2
    have:=hT.one _ _ _ h1 h2
    exact hn'.1 (by rw [← hp1,this,hq1];exact hk')
 exact key keysP (by decide) (fun k hk=>hk)
theorem Loc.out_not {T:Tab} {cs:List Cor} (h:Loc T cs Q) (ho:outQ T i j):¬ Q j:=by
 obtain⟨k,hk⟩:=ho
 obtain⟨u,_,_,_,h5⟩:=h.tail k j (out_tail hk (by omega)).1
 exact h5
theorem go_ok {Φ:Eng→(Nat→Prop)→Prop} (hok:∀ (E:Eng) (Q:Nat→Prop) (j:Nat) (E2:Eng),Mid a0 K0 E.ce Q→Φ E Q→Q j→putE (wakeE E j) j=(0,E2)→Φ E2 (fun m=>Q m∧m≠j))
  (hbad:∀ (E:Eng) (Q:Nat→Prop) (j:Nat) (why:Int) (E2:Eng),Mid a0 K0 E.ce Q→Φ E Q→Q j→putE (wakeE E j) j=(why,E2)→(why=10∨why=13)→Φ (overE (loseE E2 j why) j 3) (fun m=>(Q m∧m≠j)∨outQ E.T j m)) :
  ∀ (f:Nat) (l:List (Int × Int)) (E:Eng) (Q:Nat→Prop),Mid a0 K0 E.ce Q→Φ E Q→E.ce.live≤f→(∀ p∈l,∃ j:Nat,p.2=(j:Int)+1∧Q j)→(l.map (·.2)).Nodup →
   ∃ E',goR (endF f) l E=some E'∧Mid a0 K0 E'.ce (fun m=>Q m∧((m:Int)+1)∉l.map (·.2))∧Φ E' (fun m=>Q m∧((m:Int)+1)∉l.map (·.2))∧E'.ce.live≤E.ce.live:=by
 intro f
 induction f with
 | zero =>
  intro l E Q hM hP hf hl _
  cases l with
  | nil=>exact⟨E,rfl,by simpa using hM,by simpa using hP,Nat.le_refl _⟩
  | cons p r =>
   obtain⟨j,_,hq⟩:=hl p (List.mem_cons_self ..)
   obtain⟨u,hu,h1,_⟩:=hM.loc.pend j hq
   have:0<E.ce.live:=List.countP_pos_iff.2 ⟨u,List.mem_of_getElem? hu,by rw [h1];rfl⟩
   omega
 | succ f ihf =>
  intro l
  induction l with
  | nil=>intro E Q hM hP hf hl _;exact⟨E,rfl,by simpa using hM,by simpa using hP,Nat.le_refl _⟩
  | cons p r ihl =>
   intro E Q hM hP hf hl hn
   obtain⟨k,x⟩:=p
   obtain⟨j,hx,hq⟩:=hl _ (List.mem_cons_self ..)
   simp only at hx
   subst hx
   simp only [List.map_cons,List.nodup_cons] at hn
   obtain⟨u,hu,h1,h2⟩:=hM.loc.pend j hq
   have hlen:j<E.txs.length:=by have:=(List.getElem?_eq_some_iff.1 hu).1;simpa [Eng.ce] using this
   have hc:1≤(j:Int)+1∧(j:Int)+1≤E.txs.length:=by omega
   have hj:((j:Int)+1-1).toNat=j:=by omega
   rcases hp:putE (wakeE E j) j with ⟨why,E2⟩
   obtain⟨hM2,hl2,hT2,⟨u2,hu2,hs2⟩,hy⟩:=hM.putE hq hp
   have hrest:∀ p∈r,∃ m:Nat,p.2=(m:Int)+1∧(Q m∧m≠j):=fun p hp'=>by
    obtain⟨m,e,hm⟩:=hl p (List.mem_cons_of_mem _ hp')
    exact⟨m,e,hm,fun e'=>hn.1 (by rw [← e',← e];exact List.mem_map_of_mem hp')⟩
   have hQ:(fun m=>(Q m∧m≠j)∧((m:Int)+1)∉r.map (·.2))=(fun m=>Q m∧((m:Int)+1)∉((j:Int)+1)::r.map (·.2)):=by
    funext m
    simp only [eq_iff_iff,List.mem_cons,not_or]
    constructor
    ·rintro⟨⟨a,b⟩,c⟩;exact⟨a,by omega,c⟩
    ·rintro⟨a,b,c⟩;exact⟨⟨a,by omega⟩,c⟩
   rw [goR,if_pos hc,hj]
   show ∃ E',(match writeR (endF (f+1)) (wakeE E j) j with | some (_,E')=>goR (endF (f+1)) r E' | none=>none)=some E'∧_
   by_cases h0:why=0
   ·subst h0
    have hw:writeR (endF (f+1)) (wakeE E j) j=some (0,E2):=by unfold writeR;rw [hp];simp
    rw [hw]
    obtain⟨E',e1,e2,e3,e4⟩:=ihl E2 _ hM2 (hok E Q j E2 hM hP hq hp) (by omega) hrest hn.2
    rw [hQ] at e2 e3
    exact⟨E',e1,e2,e3,by omega⟩
   ·have hy':why=10∨why=13:=by omega
    have hnq:¬ (fun m=>Q m∧m≠j) j:=fun h=>h.2 rfl
    obtain⟨hM3,hl3⟩:=hM2.goneE (why:=why) hu2 (by rw [hs2];rfl) hnq
    have hP3:=hbad E Q j why E2 hM hP hq hp hy'
    rw [hT2] at hM3
    obtain⟨E4,e1,e2,e3,e4⟩:=ihf (outP E.T ((j:Int)+1)) (overE (loseE E2 j why) j 3) _ hM3 hP3 (by omega) (fun p hp'=>by
      obtain⟨k',x'⟩:=p
      have h5:=out_tail hp' (by omega)
      obtain⟨m,u',e,_⟩:=hM.loc.mem k' x' (List.mem_of_mem_tail h5.1)
      subst e
      exact⟨m,rfl,.inr ⟨k',hp'⟩⟩) (out_nodup hM.loc.good.tidy (by omega))
    have hend:endF (f+1) (loseE E2 j why) j 3=some E4:=by
     rw [endF,lose_T,hT2]
     exact e1
    have hw:writeR (endF (f+1)) (wakeE E j) j=some (why,E4):=by unfold writeR;rw [hp];simp only [h0,if_false,hend,Option.map_some]
    have hQ4:(fun m=>((Q m∧m≠j)∨outQ E.T j m)∧((m:Int)+1)∉(outP E.T ((j:Int)+1)).map (·.2))=(fun m=>Q m∧m≠j):=by
     funext m
     simp only [eq_iff_iff]
     constructor
     ·rintro⟨h5 | ⟨k',h5⟩,h6⟩
      ·exact h5
      ·exact (h6 (List.mem_map.2 ⟨_,h5,rfl⟩)).elim
     ·intro h5
      refine⟨.inl h5,fun h6=>?_⟩
      obtain⟨p,hp',e⟩:=List.mem_map.1 h6
      exact hM.loc.out_not (i:=j) (j:=m) ⟨p.1,by rw [← e];exact hp'⟩ h5.1
    rw [hQ4] at e2 e3
    rw [hw]
    obtain⟨E',d1,d2,d3,d4⟩:=ihl E4 _ e2 e3 (by omega) hrest hn.2
    rw [hQ] at d2 d3
    exact⟨E',d1,d2,d3,by omega⟩
theorem end_ok' {Φ:Eng→(Nat→Prop)→Prop} (hok:∀ (E:Eng) (Q:Nat→Prop) (j:Nat) (E2:Eng),Mid a0 K0 E.ce Q→Φ E Q→Q j→putE (wakeE E j) j=(0,E2)→Φ E2 (fun m=>Q m∧m≠j))
  (hbad:∀ (E:Eng) (Q:Nat→Prop) (j:Nat) (why:Int) (E2:Eng),Mid a0 K0 E.ce Q→Φ E Q→Q j→putE (wakeE E j) j=(why,E2)→(why=10∨why=13)→Φ (overE (loseE E2 j why) j 3) (fun m=>(Q m∧m≠j)∨outQ E.T j m))
  {E:Eng} {st:Int} {T:Tab} {cs:List Cor} (hT:E.T=T) (hL:Loc T cs (fun _=>False)) (hM:Mid a0 K0 (overE E i st).ce (outQ T i)) (hP:Φ (overE E i st) (outQ T i)) :
  ∃ E',endF 7 E i st=some E'∧Mid a0 K0 E'.ce (fun _=>False)∧Φ E' (fun _=>False)∧E'.ce.live≤(overE E i st).ce.live:=by
 obtain⟨E',e1,e2,e3,e4⟩:=go_ok hok hbad 6 (outP T ((i:Int)+1)) (overE E i st) _ hM hP hM.reg.num (fun p hp'=>by
   obtain⟨k',x'⟩:=p
   have h5:=out_tail hp' (by omega)
   obtain⟨m,u',e,_⟩:=hL.mem k' x' (List.mem_of_mem_tail h5.1)
   subst e
   exact⟨m,rfl,k',hp'⟩) (out_nodup hL.good.tidy (by omega))
 have hQ4:(fun m:Nat=>outQ T i m∧((m:Int)+1)∉(outP T ((i:Int)+1)).map (·.2))=(fun _=>False):=by
  funext m
  simp only [eq_iff_iff,iff_false]
  rintro⟨⟨k',h5⟩,h6⟩
  exact h6 (List.mem_map.2 ⟨_,h5,rfl⟩)
 rw [hQ4] at e2 e3
 exact⟨E',by rw [endF,hT];exact e1,e2,e3,e4⟩
end
end Go.Proofs.YtjefgmeejhakbabGreatDoor
