/- EsMany EsSweep EkDropP OrHeap: put together for a claim. -/
import Derived.Test.YtjefgmeejhakbabGreatDoorMgAG
import Derived.Deep.MidRow
import Derived.WalkLawsBesides
import Derived.Sort.LotB
namespace Go.Proofs.YtjefgmeejhakbabGreatDoor
open Go.RowKit
variable {P:Tail}
theorem info24:(Tryz.prog.info? 245).map (·.size)=some 10:=by kernel_rfl
theorem info23:(Tryz.prog.info? 244).map (·.size)=some 1:=by kernel_rfl
theorem run_key {vs:List Value} {k:Nat} {v:Value} (hv:vs[k]?=some v) (hk:k<10) (w:World) :
  (Instr.index 245 (.agg vs.toArray) (.int .i64 (k:Int))).run Tryz.prog w=.ok v w:=by
 have hk0:(0:Int)≤(k:Int)∧(k:Int)<10:=by omega
 cases hq:Tryz.prog.info? 244 with
 | none=>have:=info23;simp [hq] at this
 | some i =>
  have hs:i.size=1:=by have:=info23;simpa [hq] using this
  simp [Instr.index,asIntOf,run_underlying Tryz.underlying245,sizeOf,typeInfo,hq,hs,hk0]
  rw [if_pos hk]
  simp [part,isAgg,run_underlying Tryz.underlying244,hv]
def manyP (ks:List (List (Int × Int))):Nat:=(ks.map List.length).sum
theorem manyP_snoc (ks:List (List (Int × Int))) (l:List (Int × Int)):manyP (ks++[l])=manyP ks+l.length:=by simp [manyP]
theorem manyP_bound:∀ (ks:List (List (Int × Int))) (N:Nat),(∀ l∈ks,l.length≤N)→manyP ks≤ks.length*N
 | [],_,_=>by simp [manyP]
 | l::r,N,h=>by
  have h1:=manyP_bound r N (fun m hm=>h m (List.mem_cons_of_mem _ hm))
  have h2:=h l (List.mem_cons_self ..)
  simp only [manyP,List.map_cons,List.sum_cons,List.length_cons,Nat.add_mul] at *
  omega
theorem Sto.slice {w:World} {base s:Nat} {last:Int} {vs:List Value} {ks:List (List (Int × Int))} (h:Sto P w base s last vs ks) {k:Nat} (hk:k<10) :
  ∃ ad cap l,vs[k]?=some (.slice ad l.length cap)∧ks[k]?=some l∧w.ownsRow base 198 2 (.slice ad l.length cap) l.length (vrow l):=by
 obtain⟨v,hv⟩:∃ v,vs[k]?=some v:=⟨vs[k]'(by have:=h.lv;omega),List.getElem?_eq_getElem _⟩
 obtain⟨l,hl⟩:∃ v,ks[k]?=some v:=⟨ks[k]'(by have:=h.lk;omega),List.getElem?_eq_getElem _⟩
 have ho:=h.own k v l hv hl
 obtain⟨ad,cap,rfl⟩:∃ ad cap,v=.slice ad l.length cap:=by
  rcases ho.2 with ⟨e,e0⟩ | ⟨g,cap,cur,e,_⟩
  ·exact⟨_,_,by rw [e0];exact e⟩
  ·exact⟨_,_,e⟩
 exact⟨ad,cap,l,hv,hl,ho⟩
set_option maxRecDepth 100000 in
set_option maxHeartbeats 1000000 in
theorem many_any (base s:Nat) (last:Int) (vs:List Value) (ks:List (List (Int × Int))) (w:World) (h:Sto P w base s last vs ks) (hks:∀ l∈ks,l.length≤1000000) :
  Calls Tryz.prog 191 #[.pointer (some ⟨s,0,none⟩)] w fun e w'=>e=.returned (.int .i64 (manyP ks:Nat))∧w'=w:=by
 have hld:w.rangeAt s 1 vs:=fun j v hv=>h.cell hv
 have hin:(Tryz.prog.info? 245).map (·.size)=some vs.length:=by rw [info24,h.lv]
 go_enter Tryz.func191,Tryz.ntmps191
 go_wp2_with (refine wpList_load_mid (by rfl) 245 _ (by rfl) s 1 (by rfl) vs (.array 10 244) hld Tryz.underlying245 rfl hin ?_)
 clear hld hin
 go_loop [3,10] (fun n i=>∃ k:Nat,k≤10∧i=.int .i64 k∧n=.int .i64 (manyP (ks.take k):Nat)) (fun _ i=>10-(intOf i).toNat)
 case atStart=>exact⟨0,by omega,rfl,by simp [manyP]⟩
 case round =>
  obtain⟨k,hk,rfl,rfl⟩:=hrel
  have hb:=manyP_bound (ks.take k) 1000000 (fun l hl=>hks l (List.mem_of_mem_take hl))
  have hb2:(ks.take k).length≤10:=by simp;omega
  have hb3:manyP (ks.take k)≤10000000:=by omega
  clear hb hb2
  by_cases hlt:k<10
  ·obtain⟨ad,cap,l,hv,hl,_⟩:=h.slice hlt
   have hix:=run_key hv hlt w
   have hll:=hks l (List.mem_of_getElem? hl)
   have hst:Hid (manyP (ks.take (k+1))=manyP (ks.take k)+l.length):=by
    show _=_
    rw [List.take_add_one,hl]
    exact manyP_snoc _ _
   clear hl hv
   have hk1:(k:Int)<10:=by omega
   go_wp2
   go_round
   case rel=>exact⟨k+1,by omega,by go_num,by rw [hst.out];go_num⟩
   case measure=>simp [intOf];omega
  ·have e:ks.take k=ks:=List.take_of_length_le (by rw [h.lk];omega)
   rw [e]
   clear e
   go_wp2
   go_ret
   exact⟨rfl,rfl⟩
end Go.Proofs.YtjefgmeejhakbabGreatDoor
namespace Go.Proofs.YtjefgmeejhakbabGreatDoor
open Go.RowKit
variable {P:Tail}
theorem run_eql_nil (w:World) (a:Option Addr) (l c:Nat):(binOp .eql 244 (.slice a l c) (.slice none 0 0)).run Tryz.prog w=.ok (.bool a.isNone) w:=by
 simp [binOp,run_equal_slice_nil w 244 198 a l c Tryz.underlying244]
attribute [local go_sem] run_eql_nil
set_option maxRecDepth 100000 in
set_option maxHeartbeats 1000000 in
theorem clone_any (base:Nat) (ad:Addr) (m c:Nat) (news:List Value) (w:World) (hbase:base≤w.heap.size) (hm:0<m) (hm2:m≤1000000) (hl:news.length=m*2)
  (hnews:∀ j u,news[j]?=some u→w.cell? (ad.add j)=some u) (h1:∀ u∈news,u.oneCell'=true) :
  Calls Tryz.prog 263 #[.slice (some ad) m c] w fun e w'=>∃ gg cap,e=.returned (.slice (some ⟨gg,0,none⟩) m cap)∧w'.ownsRow base 198 2 (.slice (some ⟨gg,0,none⟩) m cap) m news∧Below w.heap.size w w'∧w.heap.size≤gg:=by
 obtain⟨i0,hi0,hz0,hz1,hz2⟩:=info_parts info44
 have hown:(w.alloc (.cells #[] 198)).ownsRow base 198 2 (.slice (some ⟨w.heap.size,0,none⟩) 0 0) 0 []:=World.ownsRow_made w #[] 0 hbase (by simp [maxLen]) rfl
 have hn2:∀ j u,news[j]?=some u→(w.alloc (.cells #[] 198)).cell? (ad.add j)=some u:=fun j u hu=>by
  have:=hnews j u hu
  exact ((World.grownBy_alloc w (.cells #[] 198) none).cell this (by simp))
 go_enter Tryz.func263,Tryz.ntmps263
 go_wp2_with (at_builtin;refine wpList_append_lies _ rfl _ _ _ rfl base 198 i0 _ 2 16 Tryz.underlying244 hi0 hz0 hz1 hz2 rfl (by omega) _ 0 [] rfl hown ad m c news rfl hl hn2 h1 hm (by unfold maxLen;omega) (by omega) (by simp;omega) (w.heap.size+1) (by simp) ?_;intro g cap w1 ho hgrow hat hlt)
 go_ret
 rw [Nat.zero_add] at ho
 have hgrow2:(w.alloc (.cells #[] 198)).grownBy w1 (some w.heap.size):=hgrow
 have hat2:some w.heap.size=some g∨g=w.heap.size+1:=hat
 refine⟨g,cap,rfl,ho,?_,?_⟩
 ·exact ((Below.refl _ w).alloc (Nat.le_refl _) _).grown hgrow2 (by simp) (fun k e=>by cases e;exact Nat.le_refl _)
 ·rcases hat2 with e | e
  ·cases e;exact Nat.le_refl _
  ·omega
def sweepL (t:Int) (l:List (Int × Int)):List (Int × Int):=l.drop (lat l t).toNat
def sweepN (t:Int) (ks:List (List (Int × Int))):Nat:=(ks.map fun l=>(lat l t).toNat).sum
theorem sweepN_snoc (t:Int) (ks:List (List (Int × Int))) (l:List (Int × Int)):sweepN t (ks++[l])=sweepN t ks+(lat l t).toNat:=by simp [sweepN]
theorem sweepN_bound (t:Int):∀ (ks:List (List (Int × Int))) (N:Nat),(∀ l∈ks,l.length≤N)→sweepN t ks≤ks.length*N
 | [],_,_=>by simp [sweepN]
 | l::r,N,h=>by
  have h1:=sweepN_bound t r N (fun m hm=>h m (List.mem_cons_of_mem _ hm))
  have h2:=h l (List.mem_cons_self ..)
  have h3:=(lat_lt l t l.length).1
  simp only [sweepN,lat,List.map_cons,List.sum_cons,List.length_cons,Nat.add_mul] at *
  omega
def swept (t:Int) (k:Nat) (ks:List (List (Int × Int))):List (List (Int × Int)):=(ks.take k).map (sweepL t)++ks.drop k
theorem swept_step (t:Int) (k:Nat) (ks:List (List (Int × Int))) (l:List (Int × Int)) (h:ks[k]?=some l):swept t (k+1) ks=(swept t k ks).set k (sweepL t l):=by
 have hk:k<ks.length:=(List.getElem?_eq_some_iff.1 h).1
 unfold swept
 rw [List.take_add_one,h,List.set_append_right _ _ (by simp;omega),List.drop_eq_getElem_cons hk]
 simp only [List.length_map,List.length_take]
 rw [show k-min k ks.length=0 from by omega,List.set_cons_zero]
 simp
set_option maxRecDepth 100000 in
set_option maxHeartbeats 2000000 in
theorem sweep_any (base s:Nat) (last t:Int) (vs:List Value) (ks:List (List (Int × Int))) (w:World) (h:Sto P w base s last vs ks) (hbase:base≤w.heap.size) (hks:∀ l∈ks,l.length≤1000000) :
  Calls Tryz.prog 199 #[.pointer (some ⟨s,0,none⟩),.int .i64 t] w fun e w'=>e=.returned (.int .i64 (sweepN t ks:Nat)) ∧
   ∃ vs',Sto P w' base s last vs' (ks.map (sweepL t))∧Kept s vs vs' w w':=by
 have hld:w.rangeAt s 1 vs:=fun j v hv=>h.cell hv
 have hin:(Tryz.prog.info? 245).map (·.size)=some vs.length:=by rw [info24,h.lv]
 go_enter Tryz.func199,Tryz.ntmps199
 go_wp2_with (refine wpList_load_mid (by rfl) 245 _ (by rfl) s 1 (by rfl) vs (.array 10 244) hld Tryz.underlying245 rfl hin ?_)
 clear hld hin
 go_loopw [5,13] (fun n i wr=>∃ (k:Nat) (us:List Value),k≤10∧i=.int .i64 k∧n=.int .i64 (sweepN t (ks.take k):Nat)∧Sto P wr base s last us (swept t k ks)∧Kept s vs us w wr∧us.drop k=vs.drop k) (fun _ i _=>10-(intOf i).toNat)
 case atStart=>exact⟨0,vs,by omega,rfl,by simp [sweepN],by simpa [swept] using h,Kept.refl _ _ _,rfl⟩
 case round =>
  obtain⟨k,us,hk,rfl,rfl,hS,hK,hud⟩:=hrel
  have hsb:sweepN t (ks.take k)≤10000000:=by
   have h1:=sweepN_bound t (ks.take k) 1000000 (fun l hl=>hks l (List.mem_of_mem_take hl))
   have h2:(ks.take k).length≤10:=by simp;omega
   omega
  by_cases hlt:k<10
  ·obtain⟨ad,cap,l,hv,hl,ho⟩:=hS.slice hlt
   have hv0:vs[k]?=some (.slice ad l.length cap):=by
    have h1:(us.drop k)[0]?=(vs.drop k)[0]?:=by rw [hud]
    simp only [List.getElem?_drop,Nat.add_zero] at h1
    rw [← h1];exact hv
   have hl0:ks[k]?=some l:=by
    have:ks.length=10:=h.lk
    rw [← hl,swept,List.getElem?_append_right (by simp;omega)]
    simp
    rw [show k-min k ks.length=0 from by omega,Nat.add_zero]
   have hix:=run_key hv0 hlt
   have hll:=hks l (List.mem_of_getElem? hl0)
   have hk1:(k:Int)<10:=by omega
   have hk0:(0:Int)≤(k:Int):=by omega
   have hvers:=vers_of_owns ho
   have hlat:=lat_lt l t l.length
   have hc:=hS.cell hv
   have hf:=hS.free (1+k)
   have hslt:=hS.lt
   have hsz:=hK.size
   have hst:Hid (sweepN t (ks.take (k+1))=sweepN t (ks.take k)+(lat l t).toNat):=by
    show _=_
    rw [List.take_add_one,hl0]
    exact sweepN_snoc _ _ _
   have hsw:Hid (swept t (k+1) ks=(swept t k ks).set k (sweepL t l)):=swept_step t k ks l hl0
   by_cases hpos:0<lat l t
   ·obtain⟨m,hm⟩:∃ m:Nat,lat l t=m:=⟨(lat l t).toNat,by omega⟩
    have hml:m<l.length:=by unfold lat at hm;omega
    have hm0:0<m:=by omega
    obtain⟨g,rfl⟩:∃ g,ad=some ⟨g,0,none⟩:=by
     rcases hvers with ⟨_,e⟩ | ⟨b,c,e,_⟩
     ·subst e;simp at hml
     ·simp at e;exact⟨b,e.1⟩
    have HM:Hid (lat l t=m):=hm
    clear hm hpos hlat
    have hmi:(m:Int)≤(l.length:Int):=by omega
    have hmi0:(0:Int)<(m:Int):=by omega
    have hcap:l.length≤cap:=by
     rcases ho.2 with ⟨e,_⟩ | ⟨_,_,_,e,_,_,h3,_⟩
     ·simp at e
     ·simp at e;omega
    have hlk:=hl
    clear hl hl0 hv0
    have HUD:Hid (us.drop k=vs.drop k):=hud
    clear hud
    have HLK:Hid ((swept t k ks)[k]?=some l):=hlk
    clear hlk
    go_wp2_with (first | (go_at_call 229;refine (latest_any _ _ _ t l hll _ hvers).mono ?_;rintro e w1 ⟨rfl,hb1⟩;rw [HM.out]))
    have hS1:=hS.below hb1
    have hc1:=hS1.cell hv
    have hf1:=hS1.free (1+k)
    have hs1:=hS1.lt
    have hz1:=hb1.size
    have hcm:¬ cap=m:=by omega
    have ho1:=hS1.own k _ l hv HLK.out
    have hnews:∀ j u,(vrow (l.drop m))[j]?=some u→w1.drew.cell? ((⟨g,m*2,none⟩:Addr).add j)=some u:=fun j u hu=>by
     rw [← vrow_drop,List.getElem?_drop] at hu
     have:=ho1.cells (g:=g) rfl (m*2+j) u hu
     rw [addr_add] at this
     rw [Addr.add_mid]
     exact this
    have hone:=vrow_one (l.drop m)
    have hnl:(vrow (l.drop m)).length=(l.length-m)*2:=by rw [vrow_length,List.length_drop]
    have hpos:0<l.length-m:=by omega
    have hle:l.length-m≤1000000:=by omega
    have hbw:base≤w1.heap.size:=by omega
    clear hc hf hslt hix hvers
    go_region_held3 (fun _=>True) (trivial) ((go_at_call 263;refine (clone_any base ⟨g,m*2,none⟩ _ _ (vrow (l.drop m)) w1.drew hbw hpos hle hnl hnews hone).mono ?_;rintro e w2 ⟨gg,cap',rfl,hown2,hb2,hgg⟩;have hc2:w2.cell? ⟨s,1+k,none⟩=some (.slice (some ⟨g,0,none⟩) l.length cap):=(hb2.cell (p:=⟨s,1+k,none⟩) hs1).trans hc1;have hf2:w2.frozen? ⟨s,1+k,none⟩=false:=(hb2.frozen (p:=⟨s,1+k,none⟩) hs1).trans hf1))
    have hb2':Below w1.heap.size w1 w2:=⟨hb2.os,hb2.tape,hb2.output,hb2.size,hb2.block⟩
    have hgg':w1.heap.size≤gg:=hgg
    have hbb:Below wr.heap.size wr w2:=hb1.trans (hb2'.mono hz1)
    have hfin:=put_grown hS hv (l.drop m) gg cap' (l.length-m) w2 (by simp) hown2 ⟨hbb.os,hbb.tape,hbb.output,hbb.size,fun b hb _=>hbb.block b hb⟩ (.inr (by omega))
    have HF:Hid _:=hfin
    clear hfin hbb hb2' hb2 hown2 hc2 hf2 hnews hone hnl hv ho ho1 hS hS1 hb1 hc1 hf1
    go_wp2
    go_roundw
    case rel =>
     refine⟨k+1,us.set k (.slice (some ⟨gg,0,none⟩) (l.length-m) cap'),by omega,by go_num,?_,?_,hK.trans HF.out.2,?_⟩
     ·rw [hst.out,HM.out];go_num
     ·rw [hsw.out,sweepL,HM.out];exact HF.out.1
     ·rw [List.drop_set_of_lt (by omega)]
      have:=congrArg (List.drop 1) HUD.out
      simpa [List.drop_drop,Nat.add_comm] using this
    case measure=>simp [intOf];omega
   ·have hle:lat l t≤0:=by omega
    have hz:(lat l t).toNat=0:=by omega
    have HZ:Hid ((lat l t).toNat=0):=hz
    have HUD:Hid (us.drop k=vs.drop k):=hud
    have HL:Hid ((swept t k ks)[k]?=some l):=hl
    clear hz hud hl hl0 hv0 hv hpos hlat ho
    generalize hq:lat l t=q at hle
    have HQ:Hid (lat l t=q):=hq
    clear hq
    go_wp2_with (first | (go_at_call 229;refine (latest_any _ _ _ t l hll _ hvers).mono ?_;rintro e w1 ⟨rfl,hb1⟩;rw [HQ.out]))
    go_roundw
    case rel =>
     refine⟨k+1,us,by omega,by go_num,?_,?_,hK.trans (Kept.of_below hb1),?_⟩
     ·rw [hst.out,HZ.out];go_num
     ·have e:(swept t k ks).set k (sweepL t l)=swept t k ks:=by
       rw [sweepL,HZ.out,List.drop_zero]
       apply List.ext_getElem?
       intro j
       by_cases ej:j=k
       ·subst ej;rw [List.getElem?_set_self (List.getElem?_eq_some_iff.1 HL.out).1,HL.out]
       ·rw [List.getElem?_set_ne (by omega)]
      rw [hsw.out,e]
      exact hS.below hb1
     ·have:=congrArg (List.drop 1) HUD.out
      simpa [List.drop_drop,Nat.add_comm] using this
    case measure=>simp [intOf];omega
  ·have e:ks.take k=ks:=List.take_of_length_le (by rw [h.lk];omega)
   have e2:swept t k ks=ks.map (sweepL t):=by
    rw [swept,e,List.drop_eq_nil_of_le (by rw [h.lk];omega),List.append_nil]
   rw [e2] at hS
   rw [e]
   clear e e2 hud
   go_wp2
   go_ret
   exact⟨rfl,us,hS,hK⟩
end Go.Proofs.YtjefgmeejhakbabGreatDoor
namespace Go.Proofs.YtjefgmeejhakbabGreatDoor
open Go.RowKit
def midT (T:Tab) (tx:Int) (j:Int):Tab:=fun k=>if k<j∨holdsP T k≠tx then (T k).filter (fun x=>x != tx) else T k
theorem midT_sub (T:Tab) (tx j:Int) (k:Int):(midT T tx j k).Sublist (T k):=by
 unfold midT
 split
 ·exact List.filter_sublist
 ·exact List.Sublist.refl _
theorem Good.mid {T:Tab} (h:Good T) (tx j:Int):Good (midT T tx j):=h.sub (midT_sub T tx j)
theorem midT_end {T:Tab} (h:Tidy0 T) (tx:Int):midT T tx 10=dropP T tx:=by
 funext k
 unfold midT dropP
 by_cases hk:k<10∨holdsP T k≠tx
 ·rw [if_pos hk]
 ·rw [if_neg hk]
  by_cases e:T k=[]
  ·rw [e];rfl
  ·have:=h.rng k e;omega
theorem filter_none {l:List Int} {tx:Int} (h:tx∉l):l.filter (fun x=>x != tx)=l:=by
 refine List.filter_eq_self.2 (fun x hx=>?_)
 simp only [bne_iff_ne,ne_eq]
 rintro rfl
 exact h hx
theorem head_or {T:Tab} {k x:Int} (h:x∈T k):holdsP T k=x∨x∈(T k).tail:=by
 unfold holdsP
 cases hT:T k with
 | nil=>rw [hT] at h;simp at h
 | cons a l =>
  rw [hT] at h
  rcases List.mem_cons.1 h with e | e
  ·exact .inl e.symm
  ·exact .inr e
theorem mid_none {T:Tab} (hT:Tidy0 T) {tx:Int} (hw:waitsP T tx=-1):midT T tx 0=T:=by
 funext k
 unfold midT
 by_cases hh:k<0∨holdsP T k≠tx
 ·rw [if_pos hh]
  refine filter_none (fun hm=>?_)
  rcases hh with hh | hh
  ·have:=hT.rng k (fun e=>by rw [e] at hm;simp at hm);omega
  ·rcases head_or hm with e | e
   ·exact hh e
   ·exact waits_none hT (by omega) k e
 ·rw [if_neg hh]
theorem mid_tail {T:Tab} (hT:Tidy0 T) (tx k x:Int):x∈(midT T tx 0 k).tail↔x∈(T k).tail∧x≠tx:=by
 have hnod:=hT.nod k
 unfold midT
 by_cases hh:k<0∨holdsP T k≠tx
 ·rw [if_pos hh]
  cases hTk:T k with
  | nil=>simp
  | cons a l =>
   have ha:a≠tx:=by
    rcases hh with hh | hh
    ·have:=hT.rng k (by rw [hTk];simp);omega
    ·simpa [holdsP,hTk] using hh
   simp [ha]
 ·rw [if_neg hh]
  have hh2:holdsP T k=tx:=Classical.not_not.1 (fun h=>hh (.inr h))
  constructor
  ·intro hx
   refine⟨hx,?_⟩
   rintro rfl
   rcases head_not_tail hnod with h | h
   ·exact h (by have:=hh2;unfold holdsP at this;rw [this];exact hx)
   ·rw [h] at hx;simp at hx
  ·exact fun h=>h.1
theorem Rep.leave {T:Tab} {h wa:Int→Option Int} {ln:Int→List Int} (R:Rep T h wa ln) (hT:Tidy0 T) {tx k:Int} (hw:waitsP T tx=k) (hk:0≤k):Rep (midT T tx 0) h (updT wa tx none) (updT ln k ((ln k).filter (fun x=>x != tx))):=by
 have hmem:tx∈(T k).tail:=by rw [← hw];exact mem_of_waits (by omega)
 have hhead:∀ j,(midT T tx 0 j).head?=(T j).head?:=by
  intro j
  unfold midT
  split
  ·rename_i hh
   cases hTj:T j with
   | nil=>rfl
   | cons a l =>
    have ha:a≠tx:=by
     rcases hh with hh | hh
     ·have:=hT.rng j (by rw [hTj];simp);omega
     ·simpa [holdsP,hTj] using hh
    simp [ha]
  ·rfl
 refine⟨fun j=>(R.h j).trans (hhead j).symm,fun x=>?_,fun j=>?_⟩
 ·by_cases e:x=tx
  ·subst e
   have:waitsP (midT T x 0) x=-1:=by
    unfold waitsP
    rw [List.find?_eq_none.2]
    ·rfl
    ·intro j _
     simp [mid_tail hT]
   rw [this,updT_same]
   exact⟨rfl,by simp⟩
  ·rw [updT_other _ _ e,waits_mem (T:=midT T tx 0) (T':=T) (fun j=>by rw [mid_tail hT];simp [e])]
   exact R.wa x
 ·by_cases e:j=k
  ·subst e
   rw [updT_same,R.ln j]
   cases hTj:T j with
   | nil=>rw [hTj] at hmem;simp at hmem
   | cons a l =>
    have hn:=hT.nod j
    rw [hTj] at hn hmem
    have ha:a≠tx:=by rintro rfl;exact (List.nodup_cons.1 hn).1 hmem
    unfold midT
    rw [if_pos (.inr (by simpa [holdsP,hTj] using ha)),hTj]
    simp [ha]
  ·rw [updT_other _ _ e,R.ln j]
   unfold midT
   split
   ·rename_i hh
    rw [filter_none]
    intro hm
    rcases head_or hm with e2 | e2
    ·rcases hh with hh | hh
     ·have:=hT.rng j (fun e=>by rw [e] at hm;simp at hm);omega
     ·exact hh e2
    ·exact e ((waits_of_mem hT e2).symm.trans hw)
   ·rfl
theorem mid_skip {T:Tab} {tx j:Int} (hh:holdsP T j≠tx∨T j=[]):midT T tx (j+1)=midT T tx j:=by
 funext k
 unfold midT
 by_cases e:k=j
 ·subst e
  rw [if_pos (.inl (by omega))]
  rcases hh with hh | hh
  ·rw [if_pos (.inr hh)]
  ·rw [hh];simp
 ·by_cases h1:k<j
  ·rw [if_pos (.inl (by omega)),if_pos (.inl h1)]
  ·by_cases h2:holdsP T k≠tx
   ·rw [if_pos (.inr h2),if_pos (.inr h2)]
   ·rw [if_neg (by omega),if_neg (by omega)]
theorem mid_hit {T:Tab} (hT:Tidy0 T) {tx j:Int} {l:List Int} (hh:T j=tx::l):midT T tx j j=tx::l∧midT T tx (j+1)=updT (midT T tx j) j l:=by
 have hl:tx∉l:=by have:=hT.nod j;rw [hh] at this;exact (List.nodup_cons.1 this).1
 have e1:midT T tx j j=tx::l:=by
  unfold midT
  rw [if_neg,hh]
  simp [holdsP,hh]
 refine⟨e1,?_⟩
 funext k
 by_cases e:k=j
 ·subst e
  rw [updT_same]
  unfold midT
  rw [if_pos (.inl (by omega)),hh]
  simp [filter_none hl]
 ·rw [updT_other _ _ e]
  unfold midT
  by_cases h1:k<j
  ·rw [if_pos (.inl (by omega)),if_pos (.inl h1)]
  ·by_cases h2:holdsP T k≠tx
   ·rw [if_pos (.inr h2),if_pos (.inr h2)]
   ·rw [if_neg (by omega),if_neg (by omega)]
section
variable {T:Tab} {h wa:Int→Option Int} {ln:Int→List Int}
theorem Rep.empty (R:Rep T h wa ln) {j x:Int} (hj:T j=[x]):Rep (updT T j []) (updT h j none) wa ln:=by
 have ht:∀ k,(updT T j [] k).tail=(T k).tail:=by
  intro k
  by_cases e:k=j
  ·subst e;rw [updT_same,hj];rfl
  ·rw [updT_other _ _ e]
 refine⟨fun k=>?_,fun y=>?_,fun k=>?_⟩
 ·by_cases e:k=j
  ·subst e;rw [updT_same,updT_same];rfl
  ·rw [updT_other _ _ e,updT_other _ _ e];exact R.h k
 ·rw [waits_mem (T:=updT T j []) (T':=T) (fun k=>by rw [ht k])];exact R.wa y
 ·rw [ht k];exact R.ln k
theorem Rep.next (R:Rep T h wa ln) (hT:Tidy0 T) {j x f:Int} {l:List Int} (hj:T j=x::f::l):Rep (updT T j (f::l)) (updT (updT h j none) j (some f)) (updT wa f none) (updT ln j ((ln j).filter (fun y=>y != f))):=by
 have hn:=hT.nod j
 rw [hj] at hn
 have hfl:f∉l:=(List.nodup_cons.1 (List.nodup_cons.1 hn).2).1
 have hff:∀ k,f∈(T k).tail→k=j:=fun k hk=>hT.one k j f hk (by rw [hj];simp)
 refine⟨fun k=>?_,fun y=>?_,fun k=>?_⟩
 ·by_cases e:k=j
  ·subst e;rw [updT_same,updT_same];rfl
  ·rw [updT_other _ _ e,updT_other _ _ e,updT_other _ _ e];exact R.h k
 ·by_cases e:y=f
  ·subst e
   have:waitsP (updT T j (y::l)) y=-1:=by
    unfold waitsP
    rw [List.find?_eq_none.2]
    ·rfl
    ·intro k _
     by_cases ek:k=j
     ·subst ek;rw [updT_same];simp [hfl]
     ·rw [updT_other _ _ ek];simpa using fun hk=>ek (hff k hk)
   rw [this,updT_same]
   exact⟨rfl,by simp⟩
  ·rw [updT_other _ _ e,waits_mem (T:=updT T j (f::l)) (T':=T) (fun k=>?_)]
   ·exact R.wa y
   ·by_cases ek:k=j
    ·subst ek;rw [updT_same,hj];simp [e]
    ·rw [updT_other _ _ ek]
 ·by_cases e:k=j
  ·subst e
   rw [updT_same,updT_same,R.ln k,hj]
   simp [filter_none hfl]
  ·rw [updT_other _ _ e,updT_other _ _ e];exact R.ln k
end
def outTo (T:Tab) (tx:Int) (j:Nat):List (Int × Int):=(keysP.take j).flatMap (outOf T tx)
theorem keysP_get {j:Nat} (h:j<10):keysP[j]?=some (j:Int):=by
 match j,h with
 | 0,_=>rfl | 1,_=>rfl | 2,_=>rfl | 3,_=>rfl | 4,_=>rfl | 5,_=>rfl | 6,_=>rfl | 7,_=>rfl | 8,_=>rfl | 9,_=>rfl
theorem outTo_step (T:Tab) (tx:Int) {j:Nat} (h:j<10):outTo T tx (j+1)=outTo T tx j++outOf T tx j:=by
 unfold outTo
 rw [List.take_add_one,keysP_get h]
 simp
theorem outTo_end (T:Tab) (tx:Int):outTo T tx 10=outP T tx:=rfl
theorem outTo_length (T:Tab) (tx:Int):∀ j,j≤10→(outTo T tx j).length≤j
 | 0,_=>by simp [outTo]
 | j+1,h=>by
  have:=outTo_length T tx j (by omega)
  rw [outTo_step T tx (by omega),List.length_append]
  have:(outOf T tx j).length≤1:=by unfold outOf;split<;>simp
  omega
theorem outOf_skip {T:Tab} {tx j:Int} (hh:holdsP T j≠tx∨T j=[]):outOf T tx j=[]:=by
 unfold outOf
 rw [if_neg]
 rintro⟨h1,h2⟩
 rcases hh with hh | hh
 ·exact hh h1
 ·exact h2 (by simp [dropP,hh])
theorem outOf_none {T:Tab} {tx j:Int} (hh:T j=[tx]):outOf T tx j=[]:=by
 unfold outOf
 rw [if_neg]
 rintro⟨_,h2⟩
 exact h2 (by simp [dropP,hh])
theorem outOf_next {T:Tab} (hT:Tidy0 T) {tx j f:Int} {l:List Int} (hh:T j=tx::f::l):outOf T tx j=[(j,f)]:=by
 have hn:=hT.nod j
 rw [hh] at hn
 have e:dropP T tx j=f::l:=by
  unfold dropP
  rw [hh,List.filter_cons,if_neg (by simp)]
  exact filter_none (List.nodup_cons.1 hn).1
 unfold outOf
 rw [if_pos ⟨by simp [holdsP,hh],by rw [e];simp⟩]
 simp [holdsP,e]
end Go.Proofs.YtjefgmeejhakbabGreatDoor
namespace Go.Proofs.YtjefgmeejhakbabGreatDoor
open Go.Sort
def HeapP (d:Array Int) (n:Nat):Prop:=∀ k,0<k→k<n→d[(k-1) / 2]!≤d[k]!
def UpHole (d:Array Int) (n j:Nat):Prop:=(∀ k,0<k→k<n→k≠j→d[(k-1) / 2]!≤d[k]!)∧(0<j→∀ k,0<k→k<n→(k-1) / 2=j→d[(j-1) / 2]!≤d[k]!)
def DownHole (d:Array Int) (n i:Nat):Prop:=(∀ k,0<k→k<n→(k-1) / 2≠i→d[(k-1) / 2]!≤d[k]!)∧(0<i→∀ k,0<k→k<n→(k-1) / 2=i→d[(i-1) / 2]!≤d[k]!)
theorem up_zero {d:Array Int} {n:Nat} (h:UpHole d n 0):HeapP d n:=fun k h1 h2=>h.1 k h1 h2 (by omega)
theorem up_stop {d:Array Int} {n j:Nat} (h:UpHole d n j) (hj:d[(j-1) / 2]!≤d[j]!):HeapP d n:=fun k h1 h2=>by
 by_cases e:k=j
 ·subst e;exact hj
 ·exact h.1 k h1 h2 e
theorem up_step {d:Array Int} {n j:Nat} (h:UpHole d n j) (hj0:0<j) (hjn:j<n) (hn:n≤d.size) (hlt:d[j]!<d[(j-1) / 2]!):UpHole (swp d ((j-1) / 2) j) n ((j-1) / 2):=by
 have gI:(swp d ((j-1) / 2) j)[(j-1) / 2]! = d[j]!:=swp_left d _ _ (by omega) (by omega)
 have gJ:(swp d ((j-1) / 2) j)[j]! = d[(j-1) / 2]!:=swp_right d _ _ (by omega)
 have gO:∀ k,k≠(j-1) / 2→k≠j→(swp d ((j-1) / 2) j)[k]! = d[k]!:=fun k h1 h2=>swp_other d _ _ _ h1 h2
 refine⟨fun k hk0 hkn hki=>?_,fun hi0 k hk0 hkn hki=>?_⟩
 ·by_cases ekj:k=j
  ·subst ekj;rw [gI,gJ];omega
  ·rw [gO k hki ekj]
   by_cases e1:(k-1) / 2=(j-1) / 2
   ·rw [e1,gI]
    have:=h.1 k hk0 hkn ekj
    rw [e1] at this
    omega
   ·by_cases e2:(k-1) / 2=j
    ·rw [e2,gJ];exact h.2 hj0 k hk0 hkn e2
    ·rw [gO _ e1 e2];exact h.1 k hk0 hkn ekj
 ·rw [gO _ (by omega) (by omega)]
  have h3:=h.1 ((j-1) / 2) hi0 (by omega) (by omega)
  by_cases ekj:k=j
  ·subst ekj;rw [gJ];exact h3
  ·rw [gO k (by omega) ekj]
   have:=h.1 k hk0 hkn ekj
   rw [hki] at this
   omega
theorem down_stop {d:Array Int} {n i:Nat} (h:DownHole d n i) (hi:∀ k,0<k→k<n→(k-1) / 2=i→d[i]!≤d[k]!):HeapP d n:=fun k h1 h2=>by
 by_cases e:(k-1) / 2=i
 ·rw [e];exact hi k h1 h2 e
 ·exact h.1 k h1 h2 e
theorem down_step {d:Array Int} {n i c:Nat} (h:DownHole d n i) (hc0:0<c) (hcn:c<n) (hci:(c-1) / 2=i) (hn:n≤d.size) (hlt:d[c]!<d[i]!) (hdom:∀ k,0<k→k<n→(k-1) / 2=i→d[c]!≤d[k]!):DownHole (swp d i c) n c:=by
 have gI:(swp d i c)[i]! = d[c]!:=swp_left d _ _ (by omega) (by omega)
 have gC:(swp d i c)[c]! = d[i]!:=swp_right d _ _ (by omega)
 have gO:∀ k,k≠i→k≠c→(swp d i c)[k]! = d[k]!:=fun k h1 h2=>swp_other d _ _ _ h1 h2
 refine⟨fun k hk0 hkn hkc=>?_,fun _ k hk0 hkn hkc=>?_⟩
 ·by_cases eki:k=i
  ·subst eki
   rw [gI,gO _ (by omega) (by omega)]
   exact h.2 hk0 c hc0 hcn hci
  ·by_cases ekc:k=c
   ·subst ekc;rw [hci,gI,gC];omega
   ·rw [gO k eki ekc]
    by_cases e:(k-1) / 2=i
    ·rw [e,gI];exact hdom k hk0 hkn e
    ·rw [gO _ e hkc];exact h.1 k hk0 hkn e
 ·rw [hci,gI,gO k (by omega) (by omega)]
  have:=h.1 k hk0 hkn (by omega)
  rw [hkc] at this
  exact this
theorem heap_root {d:Array Int} {n:Nat} (h:HeapP d n):∀ m k,k≤m→k<n→d[0]!≤d[k]!
 | 0,k,hk,_=>by rw [show k=0 by omega];exact Int.le_refl _
 | m+1,k,hk,hn=>by
  by_cases e:k=0
  ·rw [e];exact Int.le_refl _
  ·exact Int.le_trans (heap_root h m ((k-1) / 2) (by omega) (by omega)) (h k (by omega) hn)
theorem down_start {d:Array Int} {n:Nat} (h:HeapP d (n+1)):DownHole (swp d 0 n) n 0:=by
 have gO:∀ k,k≠0→k≠n→(swp d 0 n)[k]! = d[k]!:=fun k h1 h2=>swp_other d _ _ _ h1 h2
 refine⟨fun k hk0 hkn hk=>?_,fun h0=>absurd h0 (by omega)⟩
 rw [gO k (by omega) (by omega),gO _ hk (by omega)]
 exact h k hk0 (by omega)
theorem up_start {d:Array Int} (h:HeapP d d.size) (x:Int):UpHole (d.push x) (d.size+1) d.size:=by
 have gO:∀ k,k<d.size→(d.push x)[k]! = d[k]!:=fun k hk=>by
  simp [getElem!_def,Array.getElem?_push,show k≠d.size by omega]
 refine⟨fun k hk0 hkn hk=>?_,fun _ k _ hkn hk=>by omega⟩
 rw [gO k (by omega),gO _ (by omega)]
 exact h k hk0 (by omega)
theorem swp_perm (d:Array Int) (i j:Nat) (hi:i<d.size) (hj:j<d.size):(swp d i j).toList.Perm d.toList:=by
 have h:=(swp_permIn d 0 d.size i j (Nat.zero_le _) hi (Nat.zero_le _) hj (Nat.le_refl _)).2.2
 have e:=size_swp d i j
 rw [Array.extract_size] at h
 have h2:(swp d i j).extract 0 d.size=swp d i j:=by rw [← e,Array.extract_size]
 rwa [h2] at h
theorem swp_list (d:Array Int) (i j:Nat):(swp d i j).toList=(d.toList.set i d[j]!).set j d[i]!:=by simp [swp]
theorem rising_heap {d:Array Int} (h:d.toList.Pairwise (·≤·)):HeapP d d.size:=fun k h0 h1=>by
 have:=List.pairwise_iff_getElem.1 h ((k-1) / 2) k (by simp;omega) (by simpa using h1) (by omega)
 have e1:d[(k-1) / 2]! = d.toList[(k-1) / 2]'(by simp;omega):=by simp [getElem!_pos,show (k-1) / 2<d.size by omega]
 have e2:d[k]! = d.toList[k]'(by simpa using h1):=by simp [getElem!_pos,h1]
 rw [e1,e2];exact this
end Go.Proofs.YtjefgmeejhakbabGreatDoor
