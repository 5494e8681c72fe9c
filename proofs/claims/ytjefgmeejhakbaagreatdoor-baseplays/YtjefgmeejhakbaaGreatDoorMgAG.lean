/- EsMany EsSweep EsNewer EkDropP FsRead: put together for a claim. -/
import Derived.Test.YtjefgmeejhakbaaGreatDoorMgAF
import Derived.Deep.MidRow
import Derived.WalkLawsBesides
/- (*Store).Many. -/
namespace Go.Proofs.YtjefgmeejhakbaaGreatDoor
open Go.RowKit
variable {P:Tail}
theorem info24:(Tryz.prog.info? 154).map (·.size)=some 10:=by kernel_rfl
theorem info23:(Tryz.prog.info? 153).map (·.size)=some 1:=by kernel_rfl
theorem run_key {vs:List Value} {k:Nat} {v:Value} (hv:vs[k]?=some v) (hk:k<10) (w:World) :
  (Instr.index 154 (.agg vs.toArray) (.int .i64 (k:Int))).run Tryz.prog w=.ok v w:=by
 have hk0:(0:Int)≤(k:Int)∧(k:Int)<10:=by omega
 cases hq:Tryz.prog.info? 153 with
 | none=>have:=info23;simp [hq] at this
 | some i =>
  have hs:i.size=1:=by have:=info23;simpa [hq] using this
  simp [Instr.index,asIntOf,run_underlying Tryz.underlying154,sizeOf,typeInfo,hq,hs,hk0]
  rw [if_pos hk]
  simp [part,isAgg,run_underlying Tryz.underlying153,hv]
def manyP (ks:List (List (Int × Int))):Nat:=(ks.map List.length).sum
theorem manyP_snoc (ks:List (List (Int × Int))) (l:List (Int × Int)):manyP (ks++[l])=manyP ks+l.length:=by simp [manyP]
theorem manyP_bound:∀ (ks:List (List (Int × Int))) (N:Nat),(∀ l∈ks,l.length≤N)→manyP ks≤ks.length*N
 | [],_,_=>by simp [manyP]
 | l::r,N,h=>by
  have h1:=manyP_bound r N (fun m hm=>h m (List.mem_cons_of_mem _ hm))
  have h2:=h l (List.mem_cons_self ..)
  simp only [manyP,List.map_cons,List.sum_cons,List.length_cons,Nat.add_mul] at *
  omega
theorem Sto.slice {w:World} {base s:Nat} {last:Int} {vs:List Value} {ks:List (List (Int × Int))} (h:Sto P w base s last vs ks) {k:Nat} (hk:k<10) :
  ∃ ad cap l,vs[k]?=some (.slice ad l.length cap)∧ks[k]?=some l∧w.ownsRow base 199 2 (.slice ad l.length cap) l.length (vrow l):=by
 obtain⟨v,hv⟩:∃ v,vs[k]?=some v:=⟨vs[k]'(by have:=h.lv;omega),List.getElem?_eq_getElem _⟩
 obtain⟨l,hl⟩:∃ v,ks[k]?=some v:=⟨ks[k]'(by have:=h.lk;omega),List.getElem?_eq_getElem _⟩
 have ho:=h.own k v l hv hl
 obtain⟨ad,cap,rfl⟩:∃ ad cap,v=.slice ad l.length cap:=by
  rcases ho.2 with ⟨e,e0⟩ | ⟨g,cap,cur,e,_⟩
  ·exact⟨_,_,by rw [e0];exact e⟩
  ·exact⟨_,_,e⟩
 exact⟨ad,cap,l,hv,hl,ho⟩
set_option maxRecDepth 100000 in
set_option maxHeartbeats 1000000 in
theorem many_any (base s:Nat) (last:Int) (vs:List Value) (ks:List (List (Int × Int))) (w:World) (h:Sto P w base s last vs ks) (hks:∀ l∈ks,l.length≤1000000) :
  Calls Tryz.prog 146 #[.pointer (some ⟨s,0,none⟩)] w fun e w'=>e=.returned (.int .i64 (manyP ks:Nat))∧w'=w:=by
 have hld:w.rangeAt s 1 vs:=fun j v hv=>h.cell hv
 have hin:(Tryz.prog.info? 154).map (·.size)=some vs.length:=by rw [info24,h.lv]
 go_enter Tryz.func146,Tryz.ntmps146
 go_wp2_with (refine wpList_load_mid (by rfl) 154 _ (by rfl) s 1 (by rfl) vs (.array 10 153) hld Tryz.underlying154 rfl hin ?_)
 clear hld hin
 go_loop [3,10] (fun n i=>∃ k:Nat,k≤10∧i=.int .i64 k∧n=.int .i64 (manyP (ks.take k):Nat)) (fun _ i=>10-(intOf i).toNat)
 case atStart=>exact⟨0,by omega,rfl,by simp [manyP]⟩
 case round =>
  obtain⟨k,hk,rfl,rfl⟩:=hrel
  have hb:=manyP_bound (ks.take k) 1000000 (fun l hl=>hks l (List.mem_of_mem_take hl))
  have hb2:(ks.take k).length≤10:=by simp;omega
  have hb3:manyP (ks.take k)≤10000000:=by omega
  clear hb hb2
  by_cases hlt:k<10
  ·obtain⟨ad,cap,l,hv,hl,_⟩:=h.slice hlt
   have hix:=run_key hv hlt w
   have hll:=hks l (List.mem_of_getElem? hl)
   have hst:Hid (manyP (ks.take (k+1))=manyP (ks.take k)+l.length):=by
    show _=_
    rw [List.take_add_one,hl]
    exact manyP_snoc _ _
   clear hl hv
   have hk1:(k:Int)<10:=by omega
   go_wp2
   go_round
   case rel=>exact⟨k+1,by omega,by go_num,by rw [hst.out];go_num⟩
   case measure=>simp [intOf];omega
  ·have e:ks.take k=ks:=List.take_of_length_le (by rw [h.lk];omega)
   rw [e]
   clear e
   go_wp2
   go_ret
   exact⟨rfl,rfl⟩
end Go.Proofs.YtjefgmeejhakbaaGreatDoor
/- slices.Clone at []api.Version, and (*Store).Sweep. -/
namespace Go.Proofs.YtjefgmeejhakbaaGreatDoor
open Go.RowKit
variable {P:Tail}
theorem run_eql_nil (w:World) (a:Option Addr) (l c:Nat):(binOp .eql 153 (.slice a l c) (.slice none 0 0)).run Tryz.prog w=.ok (.bool a.isNone) w:=by
 simp [binOp,run_equal_slice_nil w 153 199 a l c Tryz.underlying153]
attribute [local go_sem] run_eql_nil
set_option maxRecDepth 100000 in
set_option maxHeartbeats 1000000 in
theorem clone_any (base:Nat) (ad:Addr) (m c:Nat) (news:List Value) (w:World) (hbase:base≤w.heap.size) (hm:0<m) (hm2:m≤1000000) (hl:news.length=m*2)
  (hnews:∀ j u,news[j]?=some u→w.cell? (ad.add j)=some u) (h1:∀ u∈news,u.oneCell'=true) :
  Calls Tryz.prog 199 #[.slice (some ad) m c] w fun e w'=>∃ gg cap,e=.returned (.slice (some ⟨gg,0,none⟩) m cap)∧w'.ownsRow base 199 2 (.slice (some ⟨gg,0,none⟩) m cap) m news∧Below w.heap.size w w'∧w.heap.size≤gg:=by
 obtain⟨i0,hi0,hz0,hz1,hz2⟩:=info_parts info44
 have hown:(w.alloc (.cells #[] 199)).ownsRow base 199 2 (.slice (some ⟨w.heap.size,0,none⟩) 0 0) 0 []:=World.ownsRow_made w #[] 0 hbase (by simp [maxLen]) rfl
 have hn2:∀ j u,news[j]?=some u→(w.alloc (.cells #[] 199)).cell? (ad.add j)=some u:=fun j u hu=>by
  have:=hnews j u hu
  exact ((World.grownBy_alloc w (.cells #[] 199) none).cell this (by simp))
 go_enter Tryz.func199,Tryz.ntmps199
 go_wp2_with (at_builtin;refine wpList_append_lies _ rfl _ _ _ rfl base 199 i0 _ 2 16 Tryz.underlying153 hi0 hz0 hz1 hz2 rfl (by omega) _ 0 [] rfl hown ad m c news rfl hl hn2 h1 hm (by unfold maxLen;omega) (by omega) (by simp;omega) (w.heap.size+1) (by simp) ?_;intro g cap w1 ho hgrow hat hlt)
 go_ret
 rw [Nat.zero_add] at ho
 have hgrow2:(w.alloc (.cells #[] 199)).grownBy w1 (some w.heap.size):=hgrow
 have hat2:some w.heap.size=some g∨g=w.heap.size+1:=hat
 refine⟨g,cap,rfl,ho,?_,?_⟩
 ·exact ((Below.refl _ w).alloc (Nat.le_refl _) _).grown hgrow2 (by simp) (fun k e=>by cases e;exact Nat.le_refl _)
 ·rcases hat2 with e | e
  ·cases e;exact Nat.le_refl _
  ·omega
def sweepL (t:Int) (l:List (Int × Int)):List (Int × Int):=l.drop (lat l t).toNat
def sweepN (t:Int) (ks:List (List (Int × Int))):Nat:=(ks.map fun l=>(lat l t).toNat).sum
theorem sweepN_snoc (t:Int) (ks:List (List (Int × Int))) (l:List (Int × Int)):sweepN t (ks++[l])=sweepN t ks+(lat l t).toNat:=by simp [sweepN]
theorem sweepN_bound (t:Int):∀ (ks:List (List (Int × Int))) (N:Nat),(∀ l∈ks,l.length≤N)→sweepN t ks≤ks.length*N
 | [],_,_=>by simp [sweepN]
 | l::r,N,h=>by
  have h1:=sweepN_bound t r N (fun m hm=>h m (List.mem_cons_of_mem _ hm))
  have h2:=h l (List.mem_cons_self ..)
  have h3:=(lat_lt l t l.length).1
  simp only [sweepN,lat,List.map_cons,List.sum_cons,List.length_cons,Nat.add_mul] at *
  omega
def swept (t:Int) (k:Nat) (ks:List (List (Int × Int))):List (List (Int × Int)):=(ks.take k).map (sweepL t)++ks.drop k
theorem swept_step (t:Int) (k:Nat) (ks:List (List (Int × Int))) (l:List (Int × Int)) (h:ks[k]?=some l):swept t (k+1) ks=(swept t k ks).set k (sweepL t l):=by
 have hk:k<ks.length:=(List.getElem?_eq_some_iff.1 h).1
 unfold swept
 rw [List.take_add_one,h,List.set_append_right _ _ (by simp;omega),List.drop_eq_getElem_cons hk]
 simp only [List.length_map,List.length_take]
 rw [show k-min k ks.length=0 from by omega,List.set_cons_zero]
 simp
set_option maxRecDepth 100000 in
set_option maxHeartbeats 2000000 in
theorem sweep_any (base s:Nat) (last t:Int) (vs:List Value) (ks:List (List (Int × Int))) (w:World) (h:Sto P w base s last vs ks) (hbase:base≤w.heap.size) (hks:∀ l∈ks,l.length≤1000000) :
  Calls Tryz.prog 143 #[.pointer (some ⟨s,0,none⟩),.int .i64 t] w fun e w'=>e=.returned (.int .i64 (sweepN t ks:Nat)) ∧
   ∃ vs',Sto P w' base s last vs' (ks.map (sweepL t))∧Kept s vs vs' w w':=by
 have hld:w.rangeAt s 1 vs:=fun j v hv=>h.cell hv
 have hin:(Tryz.prog.info? 154).map (·.size)=some vs.length:=by rw [info24,h.lv]
 go_enter Tryz.func143,Tryz.ntmps143
 go_wp2_with (refine wpList_load_mid (by rfl) 154 _ (by rfl) s 1 (by rfl) vs (.array 10 153) hld Tryz.underlying154 rfl hin ?_)
 clear hld hin
 go_loopw [5,13] (fun n i wr=>∃ (k:Nat) (us:List Value),k≤10∧i=.int .i64 k∧n=.int .i64 (sweepN t (ks.take k):Nat)∧Sto P wr base s last us (swept t k ks)∧Kept s vs us w wr∧us.drop k=vs.drop k) (fun _ i _=>10-(intOf i).toNat)
 case atStart=>exact⟨0,vs,by omega,rfl,by simp [sweepN],by simpa [swept] using h,Kept.refl _ _ _,rfl⟩
 case round =>
  obtain⟨k,us,hk,rfl,rfl,hS,hK,hud⟩:=hrel
  have hsb:sweepN t (ks.take k)≤10000000:=by
   have h1:=sweepN_bound t (ks.take k) 1000000 (fun l hl=>hks l (List.mem_of_mem_take hl))
   have h2:(ks.take k).length≤10:=by simp;omega
   omega
  by_cases hlt:k<10
  ·obtain⟨ad,cap,l,hv,hl,ho⟩:=hS.slice hlt
   have hv0:vs[k]?=some (.slice ad l.length cap):=by
    have h1:(us.drop k)[0]?=(vs.drop k)[0]?:=by rw [hud]
    simp only [List.getElem?_drop,Nat.add_zero] at h1
    rw [← h1];exact hv
   have hl0:ks[k]?=some l:=by
    have:ks.length=10:=h.lk
    rw [← hl,swept,List.getElem?_append_right (by simp;omega)]
    simp
    rw [show k-min k ks.length=0 from by omega,Nat.add_zero]
   have hix:=run_key hv0 hlt
   have hll:=hks l (List.mem_of_getElem? hl0)
   have hk1:(k:Int)<10:=by omega
   have hk0:(0:Int)≤(k:Int):=by omega
   have hvers:=vers_of_owns ho
   have hlat:=lat_lt l t l.length
   have hc:=hS.cell hv
   have hf:=hS.free (1+k)
   have hslt:=hS.lt
   have hsz:=hK.size
   have hst:Hid (sweepN t (ks.take (k+1))=sweepN t (ks.take k)+(lat l t).toNat):=by
    show _=_
    rw [List.take_add_one,hl0]
    exact sweepN_snoc _ _ _
   have hsw:Hid (swept t (k+1) ks=(swept t k ks).set k (sweepL t l)):=swept_step t k ks l hl0
   by_cases hpos:0<lat l t
   ·obtain⟨m,hm⟩:∃ m:Nat,lat l t=m:=⟨(lat l t).toNat,by omega⟩
    have hml:m<l.length:=by unfold lat at hm;omega
    have hm0:0<m:=by omega
    obtain⟨g,rfl⟩:∃ g,ad=some ⟨g,0,none⟩:=by
     rcases hvers with ⟨_,e⟩ | ⟨b,c,e,_⟩
     ·subst e;simp at hml
     ·simp at e;exact⟨b,e.1⟩
    have HM:Hid (lat l t=m):=hm
    clear hm hpos hlat
    have hmi:(m:Int)≤(l.length:Int):=by omega
    have hmi0:(0:Int)<(m:Int):=by omega
    have hcap:l.length≤cap:=by
     rcases ho.2 with ⟨e,_⟩ | ⟨_,_,_,e,_,_,h3,_⟩
     ·simp at e
     ·simp at e;omega
    have hlk:=hl
    clear hl hl0 hv0
    have HUD:Hid (us.drop k=vs.drop k):=hud
    clear hud
    have HLK:Hid ((swept t k ks)[k]?=some l):=hlk
    clear hlk
    go_wp2_with (first | (go_at_call 152;refine (latest_any _ _ _ t l hll _ hvers).mono ?_;rintro e w1 ⟨rfl,hb1⟩;rw [HM.out]))
    have hS1:=hS.below hb1
    have hc1:=hS1.cell hv
    have hf1:=hS1.free (1+k)
    have hs1:=hS1.lt
    have hz1:=hb1.size
    have hcm:¬ cap=m:=by omega
    have ho1:=hS1.own k _ l hv HLK.out
    have hnews:∀ j u,(vrow (l.drop m))[j]?=some u→w1.drew.cell? ((⟨g,m*2,none⟩:Addr).add j)=some u:=fun j u hu=>by
     rw [← vrow_drop,List.getElem?_drop] at hu
     have:=ho1.cells (g:=g) rfl (m*2+j) u hu
     rw [addr_add] at this
     rw [Addr.add_mid]
     exact this
    have hone:=vrow_one (l.drop m)
    have hnl:(vrow (l.drop m)).length=(l.length-m)*2:=by rw [vrow_length,List.length_drop]
    have hpos:0<l.length-m:=by omega
    have hle:l.length-m≤1000000:=by omega
    have hbw:base≤w1.heap.size:=by omega
    clear hc hf hslt hix hvers
    go_region_held3 (fun _=>True) (trivial) ((go_at_call 199;refine (clone_any base ⟨g,m*2,none⟩ _ _ (vrow (l.drop m)) w1.drew hbw hpos hle hnl hnews hone).mono ?_;rintro e w2 ⟨gg,cap',rfl,hown2,hb2,hgg⟩;have hc2:w2.cell? ⟨s,1+k,none⟩=some (.slice (some ⟨g,0,none⟩) l.length cap):=(hb2.cell (p:=⟨s,1+k,none⟩) hs1).trans hc1;have hf2:w2.frozen? ⟨s,1+k,none⟩=false:=(hb2.frozen (p:=⟨s,1+k,none⟩) hs1).trans hf1))
    have hb2':Below w1.heap.size w1 w2:=⟨hb2.os,hb2.tape,hb2.output,hb2.size,hb2.block⟩
    have hgg':w1.heap.size≤gg:=hgg
    have hbb:Below wr.heap.size wr w2:=hb1.trans (hb2'.mono hz1)
    have hfin:=put_grown hS hv (l.drop m) gg cap' (l.length-m) w2 (by simp) hown2 ⟨hbb.os,hbb.tape,hbb.output,hbb.size,fun b hb _=>hbb.block b hb⟩ (.inr (by omega))
    have HF:Hid _:=hfin
    clear hfin hbb hb2' hb2 hown2 hc2 hf2 hnews hone hnl hv ho ho1 hS hS1 hb1 hc1 hf1
    go_wp2
    go_roundw
    case rel =>
     refine⟨k+1,us.set k (.slice (some ⟨gg,0,none⟩) (l.length-m) cap'),by omega,by go_num,?_,?_,hK.trans HF.out.2,?_⟩
     ·rw [hst.out,HM.out];go_num
     ·rw [hsw.out,sweepL,HM.out];exact HF.out.1
     ·rw [List.drop_set_of_lt (by omega)]
      have:=congrArg (List.drop 1) HUD.out
      simpa [List.drop_drop,Nat.add_comm] using this
    case measure=>simp [intOf];omega
   ·have hle:lat l t≤0:=by omega
    have hz:(lat l t).toNat=0:=by omega
    have HZ:Hid ((lat l t).toNat=0):=hz
    have HUD:Hid (us.drop k=vs.drop k):=hud
    have HL:Hid ((swept t k ks)[k]?=some l):=hl
    clear hz hud hl hl0 hv0 hv hpos hlat ho
    generalize hq:lat l t=q at hle
    have HQ:Hid (lat l t=q):=hq
    clear hq
    go_wp2_with (first | (go_at_call 152;refine (latest_any _ _ _ t l hll _ hvers).mono ?_;rintro e w1 ⟨rfl,hb1⟩;rw [HQ.out]))
    go_roundw
    case rel =>
     refine⟨k+1,us,by omega,by go_num,?_,?_,hK.trans (Kept.of_below hb1),?_⟩
     ·rw [hst.out,HZ.out];go_num
     ·have e:(swept t k ks).set k (sweepL t l)=swept t k ks:=by
       rw [sweepL,HZ.out,List.drop_zero]
       apply List.ext_getElem?
       intro j
       by_cases ej:j=k
       ·subst ej;rw [List.getElem?_set_self (List.getElem?_eq_some_iff.1 HL.out).1,HL.out]
       ·rw [List.getElem?_set_ne (by omega)]
      rw [hsw.out,e]
      exact hS.below hb1
     ·have:=congrArg (List.drop 1) HUD.out
      simpa [List.drop_drop,Nat.add_comm] using this
    case measure=>simp [intOf];omega
  ·have e:ks.take k=ks:=List.take_of_length_le (by rw [h.lk];omega)
   have e2:swept t k ks=ks.map (sweepL t):=by
    rw [swept,e,List.drop_eq_nil_of_le (by rw [h.lk];omega),List.append_nil]
   rw [e2] at hS
   rw [e]
   clear e e2 hud
   go_wp2
   go_ret
   exact⟨rfl,us,hS,hK⟩
end Go.Proofs.YtjefgmeejhakbaaGreatDoor
/- (*Store).Newer. -/
namespace Go.Proofs.YtjefgmeejhakbaaGreatDoor
open Go.RowKit
variable {P:Tail}
def timesV (l:List (Int × Int)):List Value:=l.map fun p=>.int .i64 p.1
set_option maxRecDepth 100000 in
set_option maxHeartbeats 2000000 in
theorem newer_some (base s k m:Nat) (last t:Int) (vs:List Value) (ks:List (List (Int × Int))) (l:List (Int × Int)) (w:World) (h:Sto P w base s last vs ks) (hl:ks[k]?=some l) (hlen:l.length≤1000000) (hm:lat l t+1=m) (hml:m<l.length) :
  Calls Tryz.prog 160 #[.pointer (some ⟨s,0,none⟩),.int .i64 (k:Int),.int .i64 t] w fun e w'=>∃ tv,e=.returned (.tuple #[tv,.nilIface])∧w'.ownsRow w.heap.size 3 1 tv (l.length-m) (timesV (l.drop m))∧Below w.heap.size w w':=by
 obtain⟨i0,hi0,hz0,hz1,hz2⟩:=info_parts info3
 have hk:k<10:=by have:=(List.getElem?_eq_some_iff.1 hl).1;have:=h.lk;omega
 obtain⟨ad,cap,l',hv,hl',ho⟩:=h.slice hk
 rw [hl] at hl'
 cases hl'
 have hc:=h.cell hv
 have hvers:=vers_of_owns ho
 obtain⟨g,rfl⟩:∃ g,ad=some ⟨g,0,none⟩:=by
  rcases hvers with ⟨_,e⟩ | ⟨b,c,e,_⟩
  ·subst e;simp at hml
  ·simp at e;exact⟨b,e.1⟩
 have hcap:l.length≤cap:=by
  rcases ho.2 with ⟨e,_⟩ | ⟨_,_,_,e,_,_,h3,_⟩
  ·simp at e
  ·simp at e;omega
 obtain⟨hg,hrow⟩:g<w.heap.size∧Row w g l:=by
  rcases hvers with ⟨e,_⟩ | ⟨b,c,e,hb,hr⟩
  ·simp at e
  ·simp at e;obtain⟨rfl,_⟩:=e;exact⟨hb,hr⟩
 have hs:=h.lt
 have hkb:keyB (k:Int)=true:=by simp [keyB];omega
 have hk0:(0:Int)≤(k:Int):=by omega
 have hk1:(k:Int)<10:=by omega
 have hlo:Hid (lat l t=(m:Int)-1):=by show _=_;omega
 have hcm:¬ cap=m:=by omega
 have hmi:(m:Int)≤(l.length:Int):=by omega
 have hmi0:(0:Int)≤(m:Int):=by omega
 have hwr:IntKind.i64.wrap (m:Int)=(m:Int):=by simp [IntKind.wrap,IntKind.bits,IntKind.signed];omega
 clear hm ho hv hl
 go_enter Tryz.func160,Tryz.ntmps160
 go_wp2_with (first | (go_at_call 159;refine (isKey_any _ _).mono ?_;rintro e w' ⟨rfl,hw1⟩;rw [hw1];clear hw1 w'))
 have hvers2:Vers w.drew.heap.size w.drew (.slice (some ⟨g,0,none⟩) l.length cap) l:=hvers.below ((Below.refl _ w).drew)
 go_region_held3 (fun w'=>w'.cell? ⟨s,1+k,none⟩=some (.slice (some ⟨g,0,none⟩) l.length cap))
  (first | go_keep | (exact (hb1.cell (p:=⟨s,1+k,none⟩) hs).trans hc))
  ((go_at_call 152;refine (latest_any _ _ _ t l hlen w.drew hvers2).mono ?_;rintro e w1 ⟨rfl,hb1⟩;rw [hlo.out]))
 have hb2:Below w.heap.size w w1:=⟨hb1.os,hb1.tape,hb1.output,hb1.size,hb1.block⟩
 obtain⟨d,hd⟩:∃ d,l.length-m=d:=⟨_,rfl⟩
 have hdl:(l.drop m).length=d:=by rw [List.length_drop,hd]
 have hd1:d≤1000000:=by omega
 have HD:Hid (l.length=m+d):=by show _=_;omega
 rw [hd]
 clear hd hvers2 hvers hb1 hc hmi
 go_wp2
 go_loopw [8,32] (fun tv i wr=>∃ j:Nat,j≤d∧i=.int .i64 j∧wr.ownsRow w.heap.size 3 1 tv j (timesV ((l.drop m).take j))∧Below w.heap.size w wr) (fun _ i _=>d-(intOf i).toNat)
 case atStart=>exact⟨0,Nat.zero_le _,rfl,by simpa [timesV] using World.ownsRow_nil w1 w.heap.size 3 1,hb2⟩
 case round =>
  clear hb2
  obtain⟨j,hj,rfl,hown,hB⟩:=hrel
  by_cases hlt:j<d
  ·obtain⟨⟨a,x⟩,hax⟩:∃ p,l[m+j]?=some p:=⟨l[m+j]'(by have:=HD.out;omega),List.getElem?_eq_getElem _⟩
   obtain⟨c1,c2⟩:=(hrow.below hB hg) (m+j) a x hax
   rw [show (m+j)*2=m*2+j*2 from by omega] at c1 c2
   have hst:Hid (timesV ((l.drop m).take (j+1))=timesV ((l.drop m).take j)++[.int .i64 a]):=by
    show _=_
    rw [List.take_add_one,List.getElem?_drop,hax]
    simp [timesV]
   have hj0:(0:Int)≤(j:Int):=by omega
   have hj1:(j:Int)<(d:Int):=by omega
   have hBs:=hB.size
   clear hax hdl
   go_wp2_with (at_builtin;refine wpList_append_lies _ rfl _ _ _ rfl w.heap.size 3 i0 _ 1 8 Tryz.underlying29 hi0 hz0 hz1 hz2 rfl (by omega) u8 j _ rfl ((hown.alloc _).alloc _) ⟨wr.heap.size+1,0,none⟩ 1 1 [.int .i64 a] rfl rfl (World.news_of_block (cs:=#[.int .i64 a]) (t:=3) (fr:=(0,0)) (by have:=heap_alloc_new (wr.alloc (.cells #[.int .i64 a,.int .i64 x] 199)) (.cells #[.int .i64 a] 3);simpa using this)) (by simp [Value.oneCell']) (by omega) (by unfold maxLen;omega) (by omega) (by simp;omega) (wr.heap.size+1+1) (by simp) ?_;intro g' cap' w2 ho hgrow hat hlt2)
   go_roundw
   case rel=>exact⟨j+1,by omega,by go_num,by rw [hst.out];exact ho,hB.trans ((((Below.refl _ wr).alloc (Nat.le_refl _) _).alloc (by simp) _).mono hBs |>.grown hgrow (by simp;omega) (fun k e=>(hown.lt k e).1))⟩
   case measure=>simp [intOf];omega
  ·have hjd:j=d:=by omega
   subst hjd
   rw [List.take_of_length_le (by omega)] at hown
   have HO:Hid (wr.ownsRow w.heap.size 3 1 u8 j (timesV (l.drop m))):=hown
   clear hown hdl
   go_wp2
   go_ret2
   refine⟨_,rfl,?_,hB⟩
   have:=HO.out
   rw [show l.length-m=j from by have:=HD.out;omega]
   exact this
set_option maxRecDepth 100000 in
set_option maxHeartbeats 2000000 in
theorem newer_endA (s k n:Nat) (g cap:Nat) (t:Int) (l:List (Int × Int)) (w:World) (hk:k<10) (hn:n≤1000000) (hlen:l.length≤1000000) (hc:w.cell? ⟨s,1+k,none⟩=some (.slice (some ⟨g,0,none⟩) n cap)) (hvers:Vers w.heap.size w (.slice (some ⟨g,0,none⟩) n cap) l) (hlat:lat l t=(n:Int)-1) (hcap:n<cap) :
  Calls Tryz.prog 160 #[.pointer (some ⟨s,0,none⟩),.int .i64 (k:Int),.int .i64 t] w fun e w'=>e=.returned (.tuple #[.slice none 0 0,.nilIface])∧Below w.heap.size w w':=by
 have hs:s<w.heap.size:=World.block_lt_of_cell? w _ hc
 have hkb:keyB (k:Int)=true:=by simp [keyB];omega
 have hk0:(0:Int)≤(k:Int):=by omega
 have hk1:(k:Int)<10:=by omega
 have hlo:Hid (lat l t=(n:Int)-1):=hlat
 have hmi0:(0:Int)≤(n:Int):=by omega
 have hwr:IntKind.i64.wrap (n:Int)=(n:Int):=by simp [IntKind.wrap,IntKind.bits,IntKind.signed];omega
 have hcm:¬ cap=n:=by omega
 have hcm2:(n:Int)≤(cap:Int):=by omega
 clear hlat
 go_enter Tryz.func160,Tryz.ntmps160
 go_wp2_with (first | (go_at_call 159;refine (isKey_any _ _).mono ?_;rintro e w' ⟨rfl,hw1⟩;rw [hw1];clear hw1 w'))
 have hvers2:Vers w.drew.heap.size w.drew (.slice (some ⟨g,0,none⟩) n cap) l:=hvers.below ((Below.refl _ w).drew)
 go_region_held3 (fun w'=>w'.cell? ⟨s,1+k,none⟩=some (.slice (some ⟨g,0,none⟩) n cap))
  (first | go_keep | (exact (hb1.cell (p:=⟨s,1+k,none⟩) hs).trans hc))
  ((go_at_call 152;refine (latest_any _ _ _ t l hlen w.drew hvers2).mono ?_;rintro e w1 ⟨rfl,hb1⟩;rw [hlo.out]))
 have hb2:Below w.heap.size w w1:=⟨hb1.os,hb1.tape,hb1.output,hb1.size,hb1.block⟩
 clear hvers2 hvers hb1 hc
 go_wp2
 go_loop [8,32] (fun tv i=>tv=.slice none 0 0∧i=.int .i64 0) (fun _ _=>0)
 case atStart=>exact⟨rfl,rfl⟩
 case round =>
  obtain⟨rfl,rfl⟩:=hrel
  go_wp2
  go_ret2
  exact⟨rfl,hb2⟩
set_option maxRecDepth 100000 in
set_option maxHeartbeats 2000000 in
theorem newer_endB (s k n:Nat) (g:Nat) (t:Int) (l:List (Int × Int)) (w:World) (hk:k<10) (hn:n≤1000000) (hlen:l.length≤1000000) (hc:w.cell? ⟨s,1+k,none⟩=some (.slice (some ⟨g,0,none⟩) n n)) (hvers:Vers w.heap.size w (.slice (some ⟨g,0,none⟩) n n) l) (hlat:lat l t=(n:Int)-1) :
  Calls Tryz.prog 160 #[.pointer (some ⟨s,0,none⟩),.int .i64 (k:Int),.int .i64 t] w fun e w'=>e=.returned (.tuple #[.slice none 0 0,.nilIface])∧Below w.heap.size w w':=by
 have hs:s<w.heap.size:=World.block_lt_of_cell? w _ hc
 have hkb:keyB (k:Int)=true:=by simp [keyB];omega
 have hk0:(0:Int)≤(k:Int):=by omega
 have hk1:(k:Int)<10:=by omega
 have hlo:Hid (lat l t=(n:Int)-1):=hlat
 have hmi0:(0:Int)≤(n:Int):=by omega
 have hwr:IntKind.i64.wrap (n:Int)=(n:Int):=by simp [IntKind.wrap,IntKind.bits,IntKind.signed];omega
 clear hlat
 go_enter Tryz.func160,Tryz.ntmps160
 go_wp2_with (first | (go_at_call 159;refine (isKey_any _ _).mono ?_;rintro e w' ⟨rfl,hw1⟩;rw [hw1];clear hw1 w'))
 have hvers2:Vers w.drew.heap.size w.drew (.slice (some ⟨g,0,none⟩) n n) l:=hvers.below ((Below.refl _ w).drew)
 go_region_held3 (fun w'=>w'.cell? ⟨s,1+k,none⟩=some (.slice (some ⟨g,0,none⟩) n n))
  (first | go_keep | (exact (hb1.cell (p:=⟨s,1+k,none⟩) hs).trans hc))
  ((go_at_call 152;refine (latest_any _ _ _ t l hlen w.drew hvers2).mono ?_;rintro e w1 ⟨rfl,hb1⟩;rw [hlo.out]))
 have hb2:Below w.heap.size w w1:=⟨hb1.os,hb1.tape,hb1.output,hb1.size,hb1.block⟩
 clear hvers2 hvers hb1 hc
 go_wp2
 go_loop [8,32] (fun tv i=>tv=.slice none 0 0∧i=.int .i64 0) (fun _ _=>0)
 case atStart=>exact⟨rfl,rfl⟩
 case round =>
  obtain⟨rfl,rfl⟩:=hrel
  go_wp2
  go_ret2
  exact⟨rfl,hb2⟩
set_option maxRecDepth 100000 in
set_option maxHeartbeats 2000000 in
theorem newer_endC (s k:Nat) (t:Int) (l:List (Int × Int)) (w:World) (hk:k<10) (hlen:l.length≤1000000) (hc:w.cell? ⟨s,1+k,none⟩=some (.slice none 0 0)) (hvers:Vers w.heap.size w (.slice none 0 0) l) (hlat:lat l t=-1) :
  Calls Tryz.prog 160 #[.pointer (some ⟨s,0,none⟩),.int .i64 (k:Int),.int .i64 t] w fun e w'=>e=.returned (.tuple #[.slice none 0 0,.nilIface])∧Below w.heap.size w w':=by
 have hs:s<w.heap.size:=World.block_lt_of_cell? w _ hc
 have hkb:keyB (k:Int)=true:=by simp [keyB];omega
 have hk0:(0:Int)≤(k:Int):=by omega
 have hk1:(k:Int)<10:=by omega
 have hlo:Hid (lat l t=-1):=hlat
 have hwr:IntKind.i64.wrap 0=0:=by decide
 clear hlat
 go_enter Tryz.func160,Tryz.ntmps160
 go_wp2_with (first | (go_at_call 159;refine (isKey_any _ _).mono ?_;rintro e w' ⟨rfl,hw1⟩;rw [hw1];clear hw1 w'))
 have hvers2:Vers w.drew.heap.size w.drew (.slice none 0 0) l:=hvers.below ((Below.refl _ w).drew)
 go_region_held3 (fun w'=>w'.cell? ⟨s,1+k,none⟩=some (.slice none 0 0))
  (first | go_keep | (exact (hb1.cell (p:=⟨s,1+k,none⟩) hs).trans hc))
  ((go_at_call 152;refine (latest_any _ _ _ t l hlen w.drew hvers2).mono ?_;rintro e w1 ⟨rfl,hb1⟩;rw [hlo.out]))
 have hb2:Below w.heap.size w w1:=⟨hb1.os,hb1.tape,hb1.output,hb1.size,hb1.block⟩
 clear hvers2 hvers hb1 hc
 go_wp2
 go_loop [8,32] (fun tv i=>tv=.slice none 0 0∧i=.int .i64 0) (fun _ _=>0)
 case atStart=>exact⟨rfl,rfl⟩
 case round =>
  obtain⟨rfl,rfl⟩:=hrel
  go_wp2
  go_ret2
  exact⟨rfl,hb2⟩
theorem newer_any (base s k:Nat) (last t:Int) (vs:List Value) (ks:List (List (Int × Int))) (l:List (Int × Int)) (w:World) (h:Sto P w base s last vs ks) (hl:ks[k]?=some l) (hlen:l.length≤1000000) :
  Calls Tryz.prog 160 #[.pointer (some ⟨s,0,none⟩),.int .i64 (k:Int),.int .i64 t] w fun e w'=>∃ tv,e=.returned (.tuple #[tv,.nilIface]) ∧
   w'.ownsRow w.heap.size 3 1 tv (l.drop (lat l t+1).toNat).length (timesV (l.drop (lat l t+1).toNat))∧Below w.heap.size w w':=by
 have hlat:=lat_lt l t l.length
 have hlat2:lat l t<l.length∧-1≤lat l t:=hlat
 obtain⟨m,hm⟩:∃ m:Nat,lat l t+1=m:=⟨(lat l t+1).toNat,by omega⟩
 rw [hm,Int.toNat_natCast,List.length_drop]
 by_cases hml:m<l.length
 ·exact newer_some base s k m last t vs ks l w h hl hlen hm hml
 ·have hme:m=l.length:=by omega
  subst hme
  have hk:k<10:=by have:=(List.getElem?_eq_some_iff.1 hl).1;have:=h.lk;omega
  obtain⟨ad,cap,l',hv,hl',ho⟩:=h.slice hk
  rw [hl] at hl'
  cases hl'
  have hvers:=vers_of_owns ho
  have fin:∀ e (w':World),(e=Ending.returned (.tuple #[.slice none 0 0,.nilIface])∧Below w.heap.size w w')→∃ tv,e=.returned (.tuple #[tv,.nilIface]) ∧
    w'.ownsRow w.heap.size 3 1 tv (l.length-l.length) (timesV (l.drop l.length))∧Below w.heap.size w w':=fun e w' ⟨he,hb⟩ =>
   ⟨_,he,by simpa [timesV] using World.ownsRow_nil w' w.heap.size 3 1,hb⟩
  rcases ho.2 with ⟨e,e0⟩ | ⟨g,cp,cur,e,_,_,hcp,_⟩
  ·have hv2:vs[k]?=some (.slice none 0 0):=by rw [hv,e]
   rw [e] at hvers
   exact (newer_endC s k t l w hk hlen (h.cell hv2) hvers (by omega)).mono fin
  ·cases e
   rcases Nat.lt_or_ge l.length cap with hc | hc
   ·exact (newer_endA s k l.length g cap t l w hk hlen hlen (h.cell hv) hvers (by omega) hc).mono fin
   ·have hce:cap=l.length:=by omega
    subst hce
    exact (newer_endB s k l.length g t l w hk hlen hlen (h.cell hv) hvers (by omega)).mono fin
end Go.Proofs.YtjefgmeejhakbaaGreatDoor
/- Plain: how Drop goes on from key to key. -/
namespace Go.Proofs.YtjefgmeejhakbaaGreatDoor
open Go.RowKit
def midT (T:Tab) (tx:Int) (j:Int):Tab:=fun k=>if k<j∨holdsP T k≠tx then (T k).filter (fun x=>x != tx) else T k
theorem midT_sub (T:Tab) (tx j:Int) (k:Int):(midT T tx j k).Sublist (T k):=by
 unfold midT
 split
 ·exact List.filter_sublist
 ·exact List.Sublist.refl _
theorem Good.mid {T:Tab} (h:Good T) (tx j:Int):Good (midT T tx j):=h.sub (midT_sub T tx j)
theorem midT_end {T:Tab} (h:Tidy0 T) (tx:Int):midT T tx 10=dropP T tx:=by
 funext k
 unfold midT dropP
 by_cases hk:k<10∨holdsP T k≠tx
 ·rw [if_pos hk]
 ·rw [if_neg hk]
  by_cases e:T k=[]
  ·rw [e];rfl
  ·have:=h.rng k e;omega
theorem filter_none {l:List Int} {tx:Int} (h:tx∉l):l.filter (fun x=>x != tx)=l:=by
 refine List.filter_eq_self.2 (fun x hx=>?_)
 simp only [bne_iff_ne,ne_eq]
 rintro rfl
 exact h hx
theorem head_or {T:Tab} {k x:Int} (h:x∈T k):holdsP T k=x∨x∈(T k).tail:=by
 unfold holdsP
 cases hT:T k with
 | nil=>rw [hT] at h;simp at h
 | cons a l =>
  rw [hT] at h
  rcases List.mem_cons.1 h with e | e
  ·exact .inl e.symm
  ·exact .inr e
theorem mid_none {T:Tab} (hT:Tidy0 T) {tx:Int} (hw:waitsP T tx=-1):midT T tx 0=T:=by
 funext k
 unfold midT
 by_cases hh:k<0∨holdsP T k≠tx
 ·rw [if_pos hh]
  refine filter_none (fun hm=>?_)
  rcases hh with hh | hh
  ·have:=hT.rng k (fun e=>by rw [e] at hm;simp at hm);omega
  ·rcases head_or hm with e | e
   ·exact hh e
   ·exact waits_none hT (by omega) k e
 ·rw [if_neg hh]
theorem mid_tail {T:Tab} (hT:Tidy0 T) (tx k x:Int):x∈(midT T tx 0 k).tail↔x∈(T k).tail∧x≠tx:=by
 have hnod:=hT.nod k
 unfold midT
 by_cases hh:k<0∨holdsP T k≠tx
 ·rw [if_pos hh]
  cases hTk:T k with
  | nil=>simp
  | cons a l =>
   have ha:a≠tx:=by
    rcases hh with hh | hh
    ·have:=hT.rng k (by rw [hTk];simp);omega
    ·simpa [holdsP,hTk] using hh
   simp [ha]
 ·rw [if_neg hh]
  have hh2:holdsP T k=tx:=Classical.not_not.1 (fun h=>hh (.inr h))
  constructor
  ·intro hx
   refine⟨hx,?_⟩
   rintro rfl
   rcases head_not_tail hnod with h | h
   ·exact h (by have:=hh2;unfold holdsP at this;rw [this];exact hx)
   ·rw [h] at hx;simp at hx
  ·exact fun h=>h.1
theorem Rep.leave {T:Tab} {h wa:Int→Option Int} {ln:Int→List Int} (R:Rep T h wa ln) (hT:Tidy0 T) {tx k:Int} (hw:waitsP T tx=k) (hk:0≤k):Rep (midT T tx 0) h (updT wa tx none) (updT ln k ((ln k).filter (fun x=>x != tx))):=by
 have hmem:tx∈(T k).tail:=by rw [← hw];exact mem_of_waits (by omega)
 have hhead:∀ j,(midT T tx 0 j).head?=(T j).head?:=by
  intro j
  unfold midT
  split
  ·rename_i hh
   cases hTj:T j with
   | nil=>rfl
   | cons a l =>
    have ha:a≠tx:=by
     rcases hh with hh | hh
     ·have:=hT.rng j (by rw [hTj];simp);omega
     ·simpa [holdsP,hTj] using hh
    simp [ha]
  ·rfl
 refine⟨fun j=>(R.h j).trans (hhead j).symm,fun x=>?_,fun j=>?_⟩
 ·by_cases e:x=tx
  ·subst e
   have:waitsP (midT T x 0) x=-1:=by
    unfold waitsP
    rw [List.find?_eq_none.2]
    ·rfl
    ·intro j _
     simp [mid_tail hT]
   rw [this,updT_same]
   exact⟨rfl,by simp⟩
  ·rw [updT_other _ _ e,waits_mem (T:=midT T tx 0) (T':=T) (fun j=>by rw [mid_tail hT];simp [e])]
   exact R.wa x
 ·by_cases e:j=k
  ·subst e
   rw [updT_same,R.ln j]
   cases hTj:T j with
   | nil=>rw [hTj] at hmem;simp at hmem
   | cons a l =>
    have hn:=hT.nod j
    rw [hTj] at hn hmem
    have ha:a≠tx:=by rintro rfl;exact (List.nodup_cons.1 hn).1 hmem
    unfold midT
    rw [if_pos (.inr (by simpa [holdsP,hTj] using ha)),hTj]
    simp [ha]
  ·rw [updT_other _ _ e,R.ln j]
   unfold midT
   split
   ·rename_i hh
    rw [filter_none]
    intro hm
    rcases head_or hm with e2 | e2
    ·rcases hh with hh | hh
     ·have:=hT.rng j (fun e=>by rw [e] at hm;simp at hm);omega
     ·exact hh e2
    ·exact e ((waits_of_mem hT e2).symm.trans hw)
   ·rfl
theorem mid_skip {T:Tab} {tx j:Int} (hh:holdsP T j≠tx∨T j=[]):midT T tx (j+1)=midT T tx j:=by
 funext k
 unfold midT
 by_cases e:k=j
 ·subst e
  rw [if_pos (.inl (by omega))]
  rcases hh with hh | hh
  ·rw [if_pos (.inr hh)]
  ·rw [hh];simp
 ·by_cases h1:k<j
  ·rw [if_pos (.inl (by omega)),if_pos (.inl h1)]
  ·by_cases h2:holdsP T k≠tx
   ·rw [if_pos (.inr h2),if_pos (.inr h2)]
   ·rw [if_neg (by omega),if_neg (by omega)]
theorem mid_hit {T:Tab} (hT:Tidy0 T) {tx j:Int} {l:List Int} (hh:T j=tx::l):midT T tx j j=tx::l∧midT T tx (j+1)=updT (midT T tx j) j l:=by
 have hl:tx∉l:=by have:=hT.nod j;rw [hh] at this;exact (List.nodup_cons.1 this).1
 have e1:midT T tx j j=tx::l:=by
  unfold midT
  rw [if_neg,hh]
  simp [holdsP,hh]
 refine⟨e1,?_⟩
 funext k
 by_cases e:k=j
 ·subst e
  rw [updT_same]
  unfold midT
  rw [if_pos (.inl (by omega)),hh]
  simp [filter_none hl]
 ·rw [updT_other _ _ e]
  unfold midT
  by_cases h1:k<j
  ·rw [if_pos (.inl (by omega)),if_pos (.inl h1)]
  ·by_cases h2:holdsP T k≠tx
   ·rw [if_pos (.inr h2),if_pos (.inr h2)]
   ·rw [if_neg (by omega),if_neg (by omega)]
section
variable {T:Tab} {h wa:Int→Option Int} {ln:Int→List Int}
theorem Rep.empty (R:Rep T h wa ln) {j x:Int} (hj:T j=[x]):Rep (updT T j []) (updT h j none) wa ln:=by
 have ht:∀ k,(updT T j [] k).tail=(T k).tail:=by
  intro k
  by_cases e:k=j
  ·subst e;rw [updT_same,hj];rfl
  ·rw [updT_other _ _ e]
 refine⟨fun k=>?_,fun y=>?_,fun k=>?_⟩
 ·by_cases e:k=j
  ·subst e;rw [updT_same,updT_same];rfl
  ·rw [updT_other _ _ e,updT_other _ _ e];exact R.h k
 ·rw [waits_mem (T:=updT T j []) (T':=T) (fun k=>by rw [ht k])];exact R.wa y
 ·rw [ht k];exact R.ln k
theorem Rep.next (R:Rep T h wa ln) (hT:Tidy0 T) {j x f:Int} {l:List Int} (hj:T j=x::f::l):Rep (updT T j (f::l)) (updT (updT h j none) j (some f)) (updT wa f none) (updT ln j ((ln j).filter (fun y=>y != f))):=by
 have hn:=hT.nod j
 rw [hj] at hn
 have hfl:f∉l:=(List.nodup_cons.1 (List.nodup_cons.1 hn).2).1
 have hff:∀ k,f∈(T k).tail→k=j:=fun k hk=>hT.one k j f hk (by rw [hj];simp)
 refine⟨fun k=>?_,fun y=>?_,fun k=>?_⟩
 ·by_cases e:k=j
  ·subst e;rw [updT_same,updT_same];rfl
  ·rw [updT_other _ _ e,updT_other _ _ e,updT_other _ _ e];exact R.h k
 ·by_cases e:y=f
  ·subst e
   have:waitsP (updT T j (y::l)) y=-1:=by
    unfold waitsP
    rw [List.find?_eq_none.2]
    ·rfl
    ·intro k _
     by_cases ek:k=j
     ·subst ek;rw [updT_same];simp [hfl]
     ·rw [updT_other _ _ ek];simpa using fun hk=>ek (hff k hk)
   rw [this,updT_same]
   exact⟨rfl,by simp⟩
  ·rw [updT_other _ _ e,waits_mem (T:=updT T j (f::l)) (T':=T) (fun k=>?_)]
   ·exact R.wa y
   ·by_cases ek:k=j
    ·subst ek;rw [updT_same,hj];simp [e]
    ·rw [updT_other _ _ ek]
 ·by_cases e:k=j
  ·subst e
   rw [updT_same,updT_same,R.ln k,hj]
   simp [filter_none hfl]
  ·rw [updT_other _ _ e,updT_other _ _ e];exact R.ln k
end
def outTo (T:Tab) (tx:Int) (j:Nat):List (Int × Int):=(keysP.take j).flatMap (outOf T tx)
theorem keysP_get {j:Nat} (h:j<10):keysP[j]?=some (j:Int):=by
 match j,h with
 | 0,_=>rfl | 1,_=>rfl | 2,_=>rfl | 3,_=>rfl | 4,_=>rfl | 5,_=>rfl | 6,_=>rfl | 7,_=>rfl | 8,_=>rfl | 9,_=>rfl
theorem outTo_step (T:Tab) (tx:Int) {j:Nat} (h:j<10):outTo T tx (j+1)=outTo T tx j++outOf T tx j:=by
 unfold outTo
 rw [List.take_add_one,keysP_get h]
 simp
theorem outTo_end (T:Tab) (tx:Int):outTo T tx 10=outP T tx:=rfl
theorem outTo_length (T:Tab) (tx:Int):∀ j,j≤10→(outTo T tx j).length≤j
 | 0,_=>by simp [outTo]
 | j+1,h=>by
  have:=outTo_length T tx j (by omega)
  rw [outTo_step T tx (by omega),List.length_append]
  have:(outOf T tx j).length≤1:=by unfold outOf;split<;>simp
  omega
theorem outOf_skip {T:Tab} {tx j:Int} (hh:holdsP T j≠tx∨T j=[]):outOf T tx j=[]:=by
 unfold outOf
 rw [if_neg]
 rintro⟨h1,h2⟩
 rcases hh with hh | hh
 ·exact hh h1
 ·exact h2 (by simp [dropP,hh])
theorem outOf_none {T:Tab} {tx j:Int} (hh:T j=[tx]):outOf T tx j=[]:=by
 unfold outOf
 rw [if_neg]
 rintro⟨_,h2⟩
 exact h2 (by simp [dropP,hh])
theorem outOf_next {T:Tab} (hT:Tidy0 T) {tx j f:Int} {l:List Int} (hh:T j=tx::f::l):outOf T tx j=[(j,f)]:=by
 have hn:=hT.nod j
 rw [hh] at hn
 have e:dropP T tx j=f::l:=by
  unfold dropP
  rw [hh,List.filter_cons,if_neg (by simp)]
  exact filter_none (List.nodup_cons.1 hn).1
 unfold outOf
 rw [if_pos ⟨by simp [holdsP,hh],by rw [e];simp⟩]
 simp [holdsP,e]
end Go.Proofs.YtjefgmeejhakbaaGreatDoor
/- The document's Read at whatever its list is; Sweep; All. -/
namespace Go.Proofs.YtjefgmeejhakbaaGreatDoor
open Go.RowKit
variable {P:Tail}
set_option maxRecDepth 100000 in
set_option maxHeartbeats 2000000 in
theorem refRead_nil (base R:Nat) (k t last:Int) (w:World) (hk:inB k 0 9=true) (h:Ref P w base R last (.slice none 0 0) []) :
  Calls Tryz.prog 135 #[.pointer (some ⟨R,0,none⟩),.int .i64 k,.int .i64 t] w fun e w' =>
   e=.returned (.tuple #[.agg #[.int .i64 0,.int .i64 0],.int .i64 8])∧Below w.heap.size w w':=by
 have hc:=h.c0
 have hR:=h.lt
 go_enter Tryz.func135,Tryz.ntmps135
 go_wp2_with (go_at_call 54;refine (in_any _ _ _ _).mono ?_;rintro e w' ⟨rfl,rfl⟩)
 go_loopw [9,22] (fun sv i wr=>i=.int .i64 0∧sv=.bool false∧wr.heap[w.heap.size]?=some (.cells #[.int .i64 0,.int .i64 0] 199 (0,0))∧Below w.heap.size w wr) (fun _ _ _=>0)
 case atStart=>exact⟨rfl,rfl,(Below.heap_alloc _ _ _ (by simp)).trans (World.alloc_heap_new w _),((Below.refl _ w).alloc (Nat.le_refl _) _).alloc (by simp) _⟩
 case round =>
  obtain⟨rfl,rfl,hx,hB⟩:=hrel
  have g0:wr.cell? ⟨w.heap.size,0,none⟩=some (.int .i64 0):=(cell_of_row _ _ 0 _ 199 (0,0) hx).trans rfl
  have g1:wr.cell? ⟨w.heap.size,1,none⟩=some (.int .i64 0):=(cell_of_row _ _ 1 _ 199 (0,0) hx).trans rfl
  have f0:=frozen_of_row wr w.heap.size 0 _ 199 hx
  have f1:=frozen_of_row wr w.heap.size 1 _ 199 hx
  clear hx
  go_wp2
  refine bodyPost_ret (v:=.tuple #[.agg #[.int .i64 0,.int .i64 0],.int .i64 8]) (by simp [results,Tryz.results135,go_sem,g0,g1]) rfl ⟨rfl,?_⟩
  exact (hB.setCell (p:=⟨w.heap.size,0,none⟩) (by simp) _).setCell (p:=⟨w.heap.size,1,none⟩) (by simp) _
theorem refRead_any (base R:Nat) (k t last:Int) (lv:Value) (L:List (Int × Int × Int)) (w:World) (hk:inB k 0 9=true) (hlen:L.length≤100000) (h:Ref P w base R last lv L) :
  Calls Tryz.prog 135 #[.pointer (some ⟨R,0,none⟩),.int .i64 k,.int .i64 t] w fun e w' =>
   e=.returned (.tuple #[.agg #[.int .i64 ((best k t L).getD (0,0)).1,.int .i64 ((best k t L).getD (0,0)).2],.int .i64 (errOf (best k t L))])∧Below w.heap.size w w':=by
 rcases h.slice with ⟨rfl,rfl⟩ | ⟨g,cap,rfl,_⟩
 ·exact refRead_nil base R k t last w hk h
 ·exact refRead_walk base R g cap k t last L w hk hlen h
end Go.Proofs.YtjefgmeejhakbaaGreatDoor
