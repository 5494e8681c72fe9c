/- GsAll FeSweep FrReady FrCommit: put together for a claim. -/
import Derived.Test.YtjefgmeejhakbaaGreatDoorMgAK
import Derived.Test.YtjefgmeejhakbaaGreatDoorMgAI
import Derived.Test.YtjefgmeejhakbaaGreatDoorFeBeginM
import Derived.Test.YtjefgmeejhakbaaGreatDoorMgAR
import Derived.Test.YtjefgmeejhakbaaGreatDoorFsSweep
import Derived.Test.YtjefgmeejhakbaaGreatDoorMgAZ
import Derived.Test.YtjefgmeejhakbaaGreatDoorMgBA
import Derived.Test.YtjefgmeejhakbaaGreatDoorMgAQ
/- All of the document's store. -/
namespace Go.Proofs.YtjefgmeejhakbaaGreatDoor.Gs
open Go.RowKit
variable {P:GTail}
set_option maxRecDepth 100000 in
set_option maxHeartbeats 2000000 in
theorem refAll_any (base R:Nat) (t last:Int) (lv:Value) (L:List (Int × Int × Int)) (w:World) (hlen:L.length≤100000) (h:Ref P w base R last lv L) :
  Calls Tryz.prog 88 #[.pointer (some ⟨R,1,none⟩),.int .i64 t] w fun e w'=>∃ tv,e=.returned tv ∧
   w'.ownsRow w.heap.size 78 2 tv (allK (fun k=>best k t L) 10).length (vrow (allK (fun k=>best k t L) 10))∧Below w.heap.size w w':=by
 obtain⟨i0,hi0,hz0,hz1,hz2⟩:=info_parts info78
 have HR:=hid h
 clear h
 go_enter Tryz.func88,Tryz.ntmps88
 go_wp2
 go_loopw [5,9] (fun tv i wr=>∃ j:Nat,j≤10∧i=.int .i64 j∧wr.ownsRow w.heap.size 78 2 tv (allK (fun k=>best k t L) j).length (vrow (allK (fun k=>best k t L) j))∧Below w.heap.size w wr) (fun _ i _=>10-(intOf i).toNat)
 case atStart=>exact⟨0,by omega,rfl,by simpa [allK,vrow] using World.ownsRow_nil w w.heap.size 78 2,Below.refl _ _⟩
 case round =>
  obtain⟨j,hj,rfl,hown,hB⟩:=hrel
  have hBs:=hB.size
  have hal:=allK_length (fun k=>best k t L) j
  by_cases hlt:j<10
  ·have hj0:(0:Int)≤(j:Int):=by omega
   have hj1:(j:Int)<10:=by omega
   have hin:inB (j:Int) 0 9=true:=by simp [inB];omega
   have HO:=hid hown
   clear hown
   go_wp2_with fail
   refine (refRead_any base R j t last lv L wr hin hlen (HR.out.below hB)).mono ?_
   rintro e w1 ⟨rfl,hB1⟩
   have hBw:=hB.trans (hB1.mono hBs)
   have hBws:=hBw.size
   have HO1:=hid (owns_same HO.out (fun g e=>hB1.block g (HO.out.lt g e).2))
   clear HO hB1 hB
   cases hb:best (j:Int) t L with
   | none =>
    have hst:=hid (allK_none (fun k=>best k t L) j hb)
    have HBB:=hid hb
    clear hb
    simp only [errOf,Option.getD_none]
    go_wp2
    go_roundw
    case rel=>exact⟨j+1,by omega,by go_num,by rw [hst.out];exact HO1.out.alloc _,hBw.alloc hBws _⟩
    case measure=>simp [intOf];omega
   | some p =>
    obtain⟨p1,p2⟩:=p
    have hst:=hid (allK_some (fun k=>best k t L) j (p1,p2) hb)
    have HBB:=hid hb
    clear hb
    simp only [errOf,Option.getD_some]
    go_wp2_with (at_builtin;refine wpList_append_lies _ rfl _ _ _ rfl w.heap.size 78 i0 _ 2 16 Tryz.underlying23 hi0 hz0 hz1 hz2 rfl (by omega) u5 _ _ rfl ((HO1.out.alloc _).alloc _) ⟨w1.heap.size+1,0,none⟩ 1 1 [.int .i64 (j:Int),.int .i64 p2] rfl rfl (World.news_of_block (cs:=#[.int .i64 (j:Int),.int .i64 p2]) (t:=78) (fr:=(0,0)) (by have:=heap_alloc_new (w1.alloc (.cells #[.int .i64 p1,.int .i64 p2] 199)) (.cells #[.int .i64 (j:Int),.int .i64 p2] 78);simpa using this)) (by simp [Value.oneCell']) (by omega) (by unfold maxLen;omega) (by omega) (by simp;omega) (w1.heap.size+1+1) (by simp) ?_;intro g' cap' w2 ho hgrow hat hlt2)
    go_roundw
    case rel =>
     refine⟨j+1,by omega,by go_num,?_,?_⟩
     ·rw [hst.out,List.length_append,vrow_append];exact ho
     ·exact hBw.trans (((((Below.refl _ w1).alloc (Nat.le_refl _) _).alloc (by simp) _).mono hBws).grown hgrow (by simp;omega) (fun k e=>(HO1.out.lt k e).1))
    case measure=>simp [intOf];omega
  ·have hj10:j=10:=by omega
   subst hj10
   have HO:=hid hown
   clear hown
   go_wp2
   go_ret
   exact⟨_,rfl,HO.out,hB⟩
end Go.Proofs.YtjefgmeejhakbaaGreatDoor.Gs
/- The document's engine: Sweep. -/
namespace Go.Proofs.YtjefgmeejhakbaaGreatDoor
open Go.RowKit
def lowE (E:Eng) (j:Nat):Int:=leastOf E (thoseN E (fun _ t=>liveB t.state) j) E.last
theorem lowE_all (E:Eng):lowE E E.txs.length=leastE E:=by unfold lowE leastE liveOnes;rw [thoseN_all]
theorem lowE_step {E:Eng} {j:Nat} {t:Tx} (h:E.txs[j]?=some t):lowE E (j+1)=if liveB t.state=true∧t.level≠0∧t.start<lowE E j then t.start else lowE E j:=by
 unfold lowE
 cases hl:liveB t.state with
 | false=>rw [thoseN_step h,hl];simp
 | true =>
  rw [thoseN_step h,hl]
  simp only [if_true]
  generalize hm:leastOf E (thoseN E (fun _ t=>liveB t.state) j) E.last=m
  unfold leastOf at hm ⊢
  rw [List.foldl_append,hm]
  simp only [List.foldl_cons,List.foldl_nil,h]
  by_cases h0:t.level≠0
  ·rw [if_pos h0]
   by_cases h1:t.start<m
   ·rw [if_pos ⟨trivial,h0,h1⟩];omega
   ·rw [if_neg (fun h'=>h1 h'.2.2)];omega
  ·rw [if_neg h0,if_neg (fun h'=>h0 h'.2.1)]
section
variable {w w':World} {L:REnL} {B:Nat} {E E':Eng} {R:REng} {i:Nat} {t:Tx}
theorem Rel.sweep (h:Rel B E R):Rel B (sweepE E) { R with kept:=refSweep (leastE E) R.kept } :=
  { len:=h.len
    le:=h.le
    tx:=h.tx
    last:=h.last
    T:=h.T
    good:=h.good
    mem:=h.mem
    doc:=h.doc.sweep _
    lb:=h.lb
    tim:=fun x hx=>h.tim x (List.mem_filter.1 hx).1
    wr:=h.wr
    wrc:=h.wrc
    nw:=h.nw
    coms:=h.coms
    comn:=h.comn
    hist:=h.hist
    bg:=h.bg
    bae:=h.bae
    ord:=h.ord
    s0:=h.s0
    wy:=h.wy
    sz:=by
      obtain⟨N,h1,h2,h3,h4⟩:=h.sz
      refine⟨N,h1,h2,h3,?_⟩
      have:=refSweep_length (leastE E) R.kept
      show N+1000*pot E+1000*(refSweep (leastE E) R.kept).length≤B
      omega }
theorem RefAt.swept (h:RefAt w L B E) (hB:B≤100000000):Calls Tryz.prog 144 #[.pointer (some ⟨L.R,0,none⟩),.int .i64 (leastE E)] w fun e w'=>e=.returned (.int .i64 (sweepN (leastE E) E.ks:Nat))∧RefPost L B (sweepE E) w w':=by
 obtain⟨R,hA,hRel⟩:=h
 obtain⟨N,h1,h2,h3,h4⟩:=hRel.sz
 refine (refSweep_any (L.R+1) L.R (leastE E) R.last L.lv R.kept w hRel.doc.key (by omega) hA.lt hA.sto).mono ?_
 rintro e w' ⟨rfl,lv',hS,hK,hg⟩
 rw [hRel.doc.sweepN]
 obtain⟨a1,a2⟩:=hA.setSto hS hK (fun g hg'=>.inr (hg g hg'))
 exact⟨rfl,_,⟨_,a1,hRel.sweep⟩,a2,⟨rfl,rfl⟩,rfl⟩
set_option maxRecDepth 100000 in
set_option maxHeartbeats 4000000 in
theorem rsweep_any (h:RefAt w L B E) (hB:B≤100000000) :
  Calls Tryz.prog 83 #[.pointer (some ⟨L.R,0,none⟩)] w fun e w'=>e=.returned (.int .i64 (sweepN (leastE E) E.ks:Nat))∧RefPost L B (sweepE E) w w':=by
 obtain⟨ad,cap,hav,c12,hl200⟩:=h.av
 obtain⟨n,hn⟩:∃ n,E.txs.length=n:=⟨_,rfl⟩
 rw [hav,hn] at c12
 rw [hn] at hl200
 obtain⟨lz,hlz⟩:∃ lz,E.last=lz:=⟨_,rfl⟩
 have c1:=h.lastc
 rw [hlz] at c1
 have hS:=h.swept hB
 have h0:lowE E 0=lz:=by rw [← hlz];rfl
 have HRF:=hid h
 have HN:=hid hn
 have HAV:=hid hav
 have HS:=hid hS
 have H0:=hid h0
 clear h hav hn hS hlz h0
 go_enter Tryz.func83,Tryz.ntmps83
 go_wp2
 go_loop [3,16] (fun mv iv=>∃ j:Nat,j≤n∧iv=.int .i64 j∧mv=.int .i64 (lowE E j)) (fun _ iv=>n-(intOf iv).toNat)
 case atStart=>exact⟨0,by omega,rfl,by rw [H0.out]⟩
 case round =>
  obtain⟨j,hj,rfl,rfl⟩:=hrel
  by_cases hlt:j<n
  ·obtain⟨u,hu⟩:∃ u,E.txs[j]?=some u:=⟨E.txs[j]'(by rw [HN.out];exact hlt),List.getElem?_eq_getElem _⟩
   obtain⟨bj,hbj⟩:=HRF.out.place hu
   obtain⟨g,cap2,hav2,hcj,_,_⟩:=HRF.out.place2 hu hbj
   rw [HAV.out] at hav2
   have e1:ad=some ⟨g,0,none⟩:=by injection hav2
   subst e1
   have hac:=HRF.out.alive hu hbj
   obtain⟨_,_,_,_,u0,u3,_⟩:=HRF.out.cells hu hbj
   have hst:=lowE_step hu
   obtain⟨m,hm⟩:∃ m,lowE E j=m:=⟨_,rfl⟩
   rw [hm] at hst ⊢
   obtain⟨lv,hlv⟩:∃ lv,u.level=lv:=⟨_,rfl⟩
   obtain⟨st,hst2⟩:∃ st,u.start=st:=⟨_,rfl⟩
   rw [hlv] at hst u0
   rw [hst2] at hst u3
   have hj0:(0:Int)≤(j:Int):=by omega
   have hj1:(j:Int)<(n:Int):=by omega
   obtain⟨al,hal⟩:∃ al,liveB u.state=al:=⟨_,rfl⟩
   rw [hal] at hac hst
   have HAC:=hid hac
   clear hu hbj hav2 hac hal hm hlv hst2
   cases al with
   | false =>
    rw [if_neg (by simp)] at hst
    have HST:=hid hst
    clear hst
    go_wp2_with fail
    refine HAC.out.mono ?_
    rintro e w5 ⟨rfl,hw5⟩
    rw [hw5]
    clear hw5 w5
    go_wp2
    go_round
    case rel=>exact⟨j+1,by omega,by go_num,by rw [HST.out]⟩
    case measure=>simp [intOf];omega
   | true =>
    by_cases h0:lv=0
    ·subst h0
     rw [if_neg (by simp)] at hst
     have HST:=hid hst
     clear hst
     go_wp2_with fail
     refine HAC.out.mono ?_
     rintro e w5 ⟨rfl,hw5⟩
     rw [hw5]
     clear hw5 w5
     go_wp2
     go_round
     case rel=>exact⟨j+1,by omega,by go_num,by rw [HST.out]⟩
     case measure=>simp [intOf];omega
    ·have gl:(lv != 0)=true:=by simpa using h0
     by_cases h1:st<m
     ·rw [if_pos ⟨rfl,h0,h1⟩] at hst
      have HST:=hid hst
      clear hst
      go_wp2_with fail
      refine HAC.out.mono ?_
      rintro e w5 ⟨rfl,hw5⟩
      rw [hw5]
      clear hw5 w5
      go_wp2
      go_round
      case rel=>exact⟨j+1,by omega,by go_num,by rw [HST.out]⟩
      case measure=>simp [intOf];omega
     ·rw [if_neg (fun h'=>h1 h'.2.2)] at hst
      have HST:=hid hst
      clear hst
      go_wp2_with fail
      refine HAC.out.mono ?_
      rintro e w5 ⟨rfl,hw5⟩
      rw [hw5]
      clear hw5 w5
      go_wp2
      go_round
      case rel=>exact⟨j+1,by omega,by go_num,by rw [HST.out]⟩
      case measure=>simp [intOf];omega
  ·have hjn:j=n:=by omega
   subst hjn
   have hj1:¬ (j:Int)<(j:Int):=by omega
   have he:lowE E j=leastE E:=by rw [← HN.out];exact lowE_all E
   rw [he]
   clear he
   go_wp2_with fail
   refine HS.out.mono ?_
   rintro e w5 ⟨rfl,hP⟩
   have HP:=hid hP
   clear hP
   go_wp2
   go_ret
   exact⟨rfl,HP.out⟩
end
end Go.Proofs.YtjefgmeejhakbaaGreatDoor
/- The document's engine: Ready, Writes, Waits and Commit's ways out, by the landed one's plain engine. -/
namespace Go.Proofs.YtjefgmeejhakbaaGreatDoor
open Go.RowKit
theorem allK_range (f:Nat→Option (Int × Int)):∀ j,allK f j=((List.range j).filter (fun k=>(f k).isSome)).map (fun (k:Nat)=>((k:Int),((f k).getD (0,0)).2))
 | 0=>rfl
 | j+1=>by
  rw [allK,allK_range f j,List.range_succ,List.filter_append,List.map_append]
  congr 1
  cases h:f j with
  | none=>simp [h]
  | some p=>simp [h]
theorem rwritesP_eq {own:List (Int × Int)} {V:Int→Option Int} (h:∀ k,lastOf own k=V k):rwritesP own=writesP V:=by
 unfold rwritesP writesP keysOf
 rw [allK_range,show keysP=(List.range 10).map (fun (k:Nat)=>(k:Int)) by decide,List.filter_map,List.map_map]
 have e:(fun (k:Nat)=>((lastOf own (k:Int)).map (fun v=>((0:Int),v))).isSome)=((fun k=>(V k).isSome)∘fun (k:Nat)=>(k:Int)):=by
  funext k
  simp [h]
 rw [e]
 refine List.map_congr_left (fun k _=>?_)
 simp only [Function.comp,h]
 cases V (k:Int)<;>rfl
section
variable {w w':World} {L:REnL} {B:Nat} {E E':Eng} {R:REng} {i:Nat} {t:Tx}
theorem RefAt.ready_shut (h:RefAt w L B E) {n c:Int} (hc:Shut E n c) :
  Calls Tryz.prog 85 #[.pointer (some ⟨L.R,0,none⟩),.int .i64 n] w fun e w'=>e=.returned (.int .i64 c)∧w'=w:=by
 obtain⟨R,hA,hRel⟩:=h
 refine rready_shut hA (by rw [hRel.len];have:=hRel.le;omega) ?_
 rcases hc with ⟨rfl,hn⟩ | ⟨rfl,i,t,rfl,ht,hs⟩
 ·exact .inl ⟨rfl,by rw [hRel.len];exact hn⟩
 ·obtain⟨r,hr,hX⟩:=hRel.getR ht
  exact .inr ⟨rfl,i,r,rfl,hr,by rw [hX.state];exact hs⟩
noncomputable def rdyE (t:Tx):Int:=if betB t.ahead t.behind=true then 13 else 0
theorem RefAt.ready (h:RefAt w L B E) (hB:B≤1000000000) (ht:E.txs[i]?=some t) (hs:t.state=0) :
  Calls Tryz.prog 85 #[.pointer (some ⟨L.R,0,none⟩),.int .i64 ((i:Int)+1)] w fun e w'=>e=.returned (.int .i64 (rdyE t))∧w'=w:=by
 obtain⟨R,hA,hRel⟩:=h
 obtain⟨r,hr,hX⟩:=hRel.getR ht
 have hz:=hRel.szR hr
 have:=rready_main hA hr (by rw [hX.state];exact hs) (by rw [hRel.len];have:=hRel.le;omega) (fun x hx=>by rw [hRel.len];exact hX.bl x hx) (fun x hx=>by rw [hRel.len];exact hX.al x hx) (by have:=hz.2.2.1;omega) (by have:=hz.2.2.2;omega)
 have e:rdyR R r=rdyE t:=by
  unfold rdyR rdyE
  rw [← hRel.bet ht hr]
  by_cases h2:r.level=2
  ·simp only [h2,true_and]
  ·rw [if_neg (fun h'=>h2 h'.1)]
   obtain⟨e1,e2⟩:=hX.non (by rw [← hX.level];exact h2)
   have hb:=hRel.bet ht hr
   rw [e1,e2] at hb
   rw [hb]
   rfl
 rw [e] at this
 exact this
theorem RefAt.writes_miss (h:RefAt w L B E) {n:Int} (hn:n<1∨(E.txs.length:Int)<n) :
  Calls Tryz.prog 91 #[.pointer (some ⟨L.R,0,none⟩),.int .i64 n] w fun e w'=>e=.returned (.tuple #[.slice none 0 0,.int .i64 7])∧w'=w:=by
 obtain⟨R,hA,hRel⟩:=h
 exact rwritesE_miss hA (by rw [hRel.len];exact hn)
theorem RefAt.writes (h:RefAt w L B E) (hB:B≤1000000000) (ht:E.txs[i]?=some t) :
  Calls Tryz.prog 91 #[.pointer (some ⟨L.R,0,none⟩),.int .i64 ((i:Int)+1)] w fun e w'=>∃ tv,e=.returned (.tuple #[tv,.int .i64 0]) ∧
   w'.ownsRow w.heap.size 78 2 tv (writesP t.vals).length (vrow (writesP t.vals))∧Below w.heap.size w w':=by
 obtain⟨R,hA,hRel⟩:=h
 obtain⟨r,hr,hX⟩:=hRel.getR ht
 have:=rwritesE_ok hA hr (by rw [hRel.len];have:=hRel.le;omega) (by have:=(hRel.szR hr).2.1;omega)
 rw [rwritesP_eq hX.own] at this
 exact this
set_option maxRecDepth 100000 in
set_option maxHeartbeats 1000000 in
theorem rcommit_shut (h:RefAt w L B E) {n c:Int} (hc:Shut E n c) :
  Calls Tryz.prog 80 #[.pointer (some ⟨L.R,0,none⟩),.int .i64 n] w fun e w'=>e=.returned (.int .i64 c)∧w'=w:=by
 have HR:=hid (h.ready_shut hc)
 have hc0:c=6∨c=7:=by rcases hc with ⟨rfl,_⟩ | ⟨rfl,_⟩<;>simp
 clear h hc
 rcases hc0 with rfl | rfl
 all_goals
  go_enter Tryz.func80,Tryz.ntmps80
  go_wp2_with fail
  refine HR.out.mono ?_
  rintro e w1 ⟨rfl,rfl⟩
  go_wp2
  go_ret
  exact⟨rfl,rfl⟩
set_option maxRecDepth 100000 in
set_option maxHeartbeats 1000000 in
theorem rcommit_bad (hg:GoneOk 7) (h:RefAt w L B E) (hB:B≤10000000) (hM:Mid2 E.ce noQ) (ht:E.txs[i]?=some t) (hs:t.state=0) (hb:betB t.ahead t.behind=true) (he:commitE 7 E i=some (13,E')) :
  Calls Tryz.prog 80 #[.pointer (some ⟨L.R,0,none⟩),.int .i64 ((i:Int)+1)] w fun e w'=>e=.returned (.int .i64 13)∧RefPost L B E' w w':=by
 have hr:=h.ready (by omega) ht hs
 rw [show rdyE t=13 by unfold rdyE;rw [if_pos hb]] at hr
 have hE:endF 7 (loseE E i 13) i 3=some E':=by
  unfold commitE at he
  rw [ht] at he
  simp only [hb,if_true] at he
  cases hf:endF 7 (loseE E i 13) i 3 with
  | none=>rw [hf] at he;cases he
  | some X =>
   rw [hf] at he
   simp only [Option.map_some,Option.some.injEq,Prod.mk.injEq,true_and] at he
   rw [he]
 have HG:=hid (hg w L B E E' i t 13 noQ h hB hM hM.live7 ht (live_iff.2 (.inl hs)) (fun h=>h) hE)
 have HR:=hid hr
 clear h hr hE ht hM
 go_enter Tryz.func80,Tryz.ntmps80
 go_wp2_with fail
 refine HR.out.mono ?_
 rintro e w1 ⟨rfl,hw1⟩
 rw [hw1]
 clear hw1 w1
 go_wp2_with fail
 refine HG.out.mono ?_
 rintro e w1 ⟨rfl,hP⟩
 have HP:=hid hP
 clear hP
 go_wp2
 go_ret
 exact⟨rfl,HP.out⟩
end
end Go.Proofs.YtjefgmeejhakbaaGreatDoor
/- How the document's engine is like the landed one behind a commit. -/
namespace Go.Proofs.YtjefgmeejhakbaaGreatDoor
open Go.RowKit
section
variable {B:Nat} {E:Eng} {R:REng} {i:Nat} {t:Tx} {r:RTx}
def doneT (E:Eng) (t:Tx):Tx:={ t with state:=2,bae:=E.txs.length }
def doneR (R:REng) (r:RTx):RTx:={ r with state:=2,over:=R.step+1 }
def cmE (E:Eng) (i:Nat) (t:Tx) (last':Int) (ks':List (List (Int × Int))) (wr':Int→Option Int) (nw':Nat):Eng:=({ E with last:=last',ks:=ks',wr:=wr',nw:=nw',com:=E.com++[i] }:Eng).setTx i (doneT E t)
def cmR (R:REng) (i:Nat) (r:RTx) (t:Tx) (last':Int) (kept':List (Int × Int × Int)) (wr':Int→Option Int) (nb':Nat):REng:=({ R with last:=last',kept:=kept',wr:=wr',nb:=nb',hist:=R.hist++histOf ((i:Int)+1) t,step:=R.step+1 }:REng).setTx i (doneR R r)
theorem hist_more {E E':Eng} {i:Nat} {t:Tx} (hc:E'.com=E.com++[i]) (ht:E'.txs[i]?=some t) (h:∀ j∈E.com,E'.txs[j]?=E.txs[j]?):histP E'=histP E++histOf ((i:Int)+1) t:=by
 unfold histP histTo
 rw [hc,List.take_length,List.take_length,List.flatMap_append]
 congr 1
 ·rw [List.flatMap_def,List.flatMap_def]
  congr 1
  exact List.map_congr_left (fun j hj=>by rw [h j hj])
 ·simp [ht]
theorem Rel.done (h:Rel B E R) (ht:E.txs[i]?=some t) (hr:R.txs[i]?=some r) (hl:liveB t.state=true) {last':Int} {ks':List (List (Int × Int))} {wr' wrR':Int→Option Int} {nw' nb':Nat} {kept':List (Int × Int × Int)}
  (hdoc:Doc last' ks' kept') (hlb:0≤last'∧last'≤1099511627776) (htim:∀ x∈kept',0≤x.2.1) (hwr:∀ c,c≤last'→wrR' c=wr' c) (hwrc:∀ c x,wr' c=some x→E.wr c=some x∨x=(i:Int)+1) (hnw:nw'≤nb') (hnb:nb'≤R.nb+1) (hkl:kept'.length≤R.kept.length+10) :
  Rel (B+10000) (cmE E i t last' ks' wr' nw') (cmR R i r t last' kept' wrR' nb'):=by
 have hi:=(List.getElem?_eq_some_iff.1 ht).1
 have hx:=h.tx i t r ht hr
 have h3:t.state≠3:=by rcases live_iff.1 hl with e | e<;>omega
 have h2:t.state≠2:=by rcases live_iff.1 hl with e | e<;>omega
 have hself:(cmE E i t last' ks' wr' nw').txs[i]?=some (doneT E t):=setTx_get (E:={ E with last:=last',ks:=ks',wr:=wr',nw:=nw',com:=E.com++[i] }) ht
 have hne:∀ j,j≠i→(cmE E i t last' ks' wr' nw').txs[j]?=E.txs[j]?:=fun j hj=>by
  show (E.txs.set i _)[j]?=_
  rw [List.getElem?_set_ne (fun e=>hj e.symm)]
 have hlen:(cmE E i t last' ks' wr' nw').txs.length=E.txs.length:=by show (E.txs.set i _).length=_;rw [List.length_set]
 have hst:∀ j,stE (cmE E i t last' ks' wr' nw') j=if j=i then 2 else stE E j:=fun j=>by
  by_cases e:j=i
  ·subst e
   rw [if_pos rfl,stE_some hself]
   rfl
  ·rw [if_neg e]
   unfold stE
   rw [hne j e]
 have hst3:∀ j,stE (cmE E i t last' ks' wr' nw') j≠3↔stE E j≠3:=fun j=>by
  rw [hst]
  by_cases e:j=i
  ·subst e
   rw [if_pos rfl,stE_some ht]
   exact⟨fun _=>h3,fun _=>by decide⟩
  ·rw [if_neg e]
 have hst2:∀ j,stE E j=2→stE (cmE E i t last' ks' wr' nw') j=2:=fun j hj=>by
  rw [hst]
  split
  ·rfl
  ·exact hj
 have hcom:∀ j∈E.com,j≠i:=fun j hj e=>by
  have:=h.coms j hj
  rw [e,stE_some ht] at this
  exact h2 this
 obtain⟨N,z1,z2,z3,z4⟩:=h.sz
 have hp:pot (cmE E i t last' ks' wr' nw')+potT t=pot E+potT (doneT E t):=pot_set (E:={ E with last:=last',ks:=ks',wr:=wr',nw:=nw',com:=E.com++[i] }) (doneT E t) ht
 have hp0:potT (doneT E t)=0:=rfl
 have hRl:(cmR R i r t last' kept' wrR' nb').txs.length=R.txs.length:=by show (R.txs.set i _).length=_;rw [List.length_set]
 refine⟨by rw [hRl,hlen];exact h.len,by rw [hlen];exact h.le,fun j a b ha hb=>?_,rfl,h.T,h.good,by rw [hlen];exact h.mem,hdoc,hlb,htim,hwr,fun c x hc=>?_,hnw,fun j hj=>?_,?_,?_,fun b hb=>?_,fun a ha=>?_,fun a b ra rb tb hra hrb htb hlb'=>?_,by show 0≤R.step+1;have:=h.s0;omega,fun a ha h3a=>?_,N+1,fun b hb=>?_,by show R.step+1≤_;omega,by show (nb':Nat)≤_;omega,by show N+1+1000*pot (cmE E i t last' ks' wr' nw')+1000*kept'.length≤B+10000;have:1≤potT t:=(by unfold potT;rw [if_pos hl];omega);omega⟩
 ·rw [hlen]
  rcases rset_cases hb with ⟨rfl,rfl⟩ | ⟨e,hb⟩
  ·rw [hself] at ha
   cases ha
   have hx':=hx.st hst3
   exact⟨hx'.level,rfl,hx'.why,hx'.start,hx'.want,hx'.own,fun _=>hx'.reads h3,fun _=>hx'.seen h3,hx'.be,hx'.ah,hx'.bl,hx'.al,hx'.non⟩
  ·rw [hne j e] at ha
   exact (h.tx j a b ha hb).st hst3
 ·rcases hwrc c x hc with h' | h'
  ·obtain⟨m,e,hm⟩:=h.wrc c x h'
   exact⟨m,e,hst2 m hm⟩
  ·exact⟨i,h',by rw [hst,if_pos rfl]⟩
 ·rcases List.mem_append.1 hj with hj | hj
  ·exact hst2 j (h.coms j hj)
  ·rw [List.mem_singleton] at hj
   rw [hst,if_pos hj]
 ·show (E.com++[i]).Nodup
  rw [List.nodup_append]
  exact⟨h.comn,by simp,fun a ha b hb e=>by rw [List.mem_singleton] at hb;exact hcom a ha (e.trans hb)⟩
 ·show R.hist++histOf ((i:Int)+1) t=_
  rw [h.hist,hist_more (E:=E) (E':=cmE E i t last' ks' wr' nw') (i:=i) (t:=doneT E t) rfl hself (fun j hj=>hne j (hcom j hj))]
  rfl
 ·show b.begun≤R.step+1∧b.over≤R.step+1
  rcases List.mem_or_eq_of_mem_set hb with hb | rfl
  ·have:=h.bg b hb;omega
  ·have:=h.bg r (List.mem_of_getElem? hr)
   show r.begun≤R.step+1∧R.step+1≤R.step+1
   omega
 ·rw [hlen]
  rcases List.mem_or_eq_of_mem_set ha with ha | rfl
  ·exact h.bae a ha
  ·exact Int.le_refl _
 ·have hra2:∃ ra',R.txs[a]?=some ra'∧ra.begun=ra'.begun:=by
   rcases rset_cases hra with ⟨rfl,rfl⟩ | ⟨_,hra⟩
   ·exact⟨r,hr,rfl⟩
   ·exact⟨ra,hra,rfl⟩
  obtain⟨ra',a1,a2⟩:=hra2
  have hal:a<E.txs.length:=by rw [← h.len];exact (List.getElem?_eq_some_iff.1 a1).1
  rcases rset_cases hrb with ⟨rfl,rfl⟩ | ⟨e,hrb⟩
  ·rw [hself] at htb
   cases htb
   have:=h.bg ra' (List.mem_of_getElem? a1)
   show ra.begun<R.step+1↔(a:Int)+1≤(E.txs.length:Int)
   rw [a2]
   exact⟨fun _=>by omega,fun _=>by omega⟩
  ·rw [hne b e] at htb
   rw [a2]
   exact h.ord a b ra' rb tb a1 hrb htb hlb'
 ·rcases List.mem_or_eq_of_mem_set ha with ha | rfl
  ·exact h.wy a ha h3a
  ·exact h.wy t (List.mem_of_getElem? ht) h3
 ·rcases List.mem_or_eq_of_mem_set hb with hb | rfl
  ·exact (z1 b hb).mono (by omega)
  ·exact (z1 r (List.mem_of_getElem? hr)).mono (by omega)
def insE (E:Eng) (i:Nat) (t:Tx):Eng:=if writesP t.vals=[]∨1099511627776<E.last+1 then cmE E i t E.last E.ks E.wr E.nw else cmE E i t (E.last+1) (instP (E.last+1) (writesP t.vals) E.ks) (updT E.wr (E.last+1) (some ((i:Int)+1))) (E.nw+1)
def insR (E:Eng) (R:REng) (i:Nat) (r:RTx) (t:Tx):REng:=if writesP t.vals=[] then cmR R i r t R.last R.kept R.wr R.nb else if 1099511627776<E.last+1 then cmR R i r t R.last R.kept (updT R.wr (E.last+1) (some ((i:Int)+1))) (R.nb+1) else cmR R i r t (E.last+1) (R.kept++addTo (E.last+1) (writesP t.vals) 10) (updT R.wr (E.last+1) (some ((i:Int)+1))) (R.nb+1)
theorem Rel.commit (h:Rel B E R) (ht:E.txs[i]?=some t) (hr:R.txs[i]?=some r) (hl:liveB t.state=true) (hf:∀ p∈writesP t.vals,Fine p):Rel (B+10000) (insE E i t) (insR E R i r t):=by
 have hup:∀ c x,updT E.wr (E.last+1) (some ((i:Int)+1)) c=some x→E.wr c=some x∨x=(i:Int)+1:=fun c x hc=>by
  unfold updT at hc
  split at hc
  ·right;injection hc with hc;exact hc.symm
  ·exact .inl hc
 have hlb:=h.lb
 have hnw:=h.nw
 unfold insE insR
 by_cases h1:writesP t.vals=[]
 ·rw [if_pos (.inl h1),if_pos h1,h.last]
  exact h.done ht hr hl h.doc h.lb h.tim h.wr (fun c x hc=>.inl hc) h.nw (by omega) (by omega)
 ·rw [if_neg h1]
  by_cases h2:1099511627776<E.last+1
  ·rw [if_pos (.inr h2),if_pos h2,h.last]
   refine h.done ht hr hl h.doc h.lb h.tim (fun c hc=>?_) (fun c x hc=>.inl hc) (by omega) (by omega) (by omega)
   rw [show updT R.wr (E.last+1) (some ((i:Int)+1)) c=R.wr c by unfold updT;rw [if_neg (by omega)]]
   exact h.wr c hc
  ·rw [if_neg (fun h'=>h'.elim h1 h2),if_neg h2]
   refine h.done ht hr hl (h.doc.inst (t:=E.last+1) (by omega) hf) (by omega) (fun x hx=>?_) (fun c hc=>?_) hup (by omega) (by omega) ?_
   ·rcases List.mem_append.1 hx with hx | hx
    ·exact h.tim x hx
    ·have:=mem_addTo _ _ _ _ hx;omega
   ·unfold updT
    by_cases e:c=E.last+1
    ·rw [if_pos e,if_pos e]
    ·rw [if_neg e,if_neg e]
     exact h.wr c (by omega)
   ·rw [List.length_append]
    have:=addTo_length (E.last+1) (writesP t.vals) 10
    omega
theorem insE_over (ht:E.txs[i]?=some t):overE { (installE E i) with com:=E.com++[i] } i 2={ insE E i t with T:=dropP E.T ((i:Int)+1) }∧(insE E i t).T=E.T:=by
 unfold insE installE
 rw [ht]
 simp only
 by_cases h1:writesP t.vals=[]∨1099511627776<E.last+1
 ·rw [if_pos h1,if_pos h1]
  refine⟨?_,rfl⟩
  unfold overE
  rw [Eng.upd_some (E:={ E with com:=E.com++[i] }) (t:=t) ht]
  rfl
 ·rw [if_neg h1,if_neg h1]
  refine⟨?_,rfl⟩
  unfold overE
  rw [Eng.upd_some (E:={ E with last:=E.last+1,ks:=instP (E.last+1) (writesP t.vals) E.ks,wr:=updT E.wr (E.last+1) (some ((i:Int)+1)),nw:=E.nw+1,com:=E.com++[i] }) (t:=t) ht]
  rfl
end
end Go.Proofs.YtjefgmeejhakbaaGreatDoor
