/- order.Line: the walk. -/
import Derived.Test.YtjefgmeejhakbabGreatDoorMgAM
namespace Go.Proofs.YtjefgmeejhakbabGreatDoor
open Go.RowKit
def lenV:Value→Nat
 | .slice _ n _=>n
 | _=>0
theorem mem_get {d:Array Int} {y:Int} (h:y∈d.toList):∃ k,k<d.size∧d[k]! = y:=by
 obtain⟨k,hk,e⟩:=List.getElem_of_mem h
 have hk':k<d.size:=by simpa using hk
 refine⟨k,hk',?_⟩
 rw [getElem!_pos d k hk',← e]
 simp
set_option maxRecDepth 100000 in
set_option maxHeartbeats 2000000 in
theorem lineL_ok (ad:Option Addr) (cap:Nat) (l:List Opp) (w:World) (hn:l.length≤1000000) (hO:OpsAt w ad l) (hf:FineTo opBad l l.length) (hm:FineTo (badRead l) l l.length) :
  Calls Tryz.prog 111 #[.slice ad l.length cap] w fun e w'=>∃ E,IsEdges l E∧Below w.heap.size w w' ∧
   ((∃ v out,e=.returned (.tuple #[v,.nilIface])∧lineP E (txsP l).length (txsP l)=some out∧w'.ownsRow w.heap.size 3 1 v out.length (intsV out))∨(e=.returned (.tuple #[.slice none 0 0,.iface 33 (.int .i64 11)])∧lineP E (txsP l).length (txsP l)=none)):=by
 obtain⟨i0,hi0,hz0,hz1,hz2⟩:=info_parts info3
 have h64:∀ y∈l.map (fun o=>o.1),I64 y:=fun y hy=>by
  obtain⟨o,ho,rfl⟩:=List.mem_map.1 hy
  obtain⟨j,hj,e⟩:=List.getElem_of_mem ho
  obtain⟨_,_,_,_,_,h,_⟩:=hO j o (by rw [List.getElem?_eq_getElem hj,e])
  exact h
 have HC:=hid (edges_ok ad cap l w hn hO hf hm)
 have HO:=hid hO
 have H64:=hid h64
 have hmt:∀ y,y∈txsP l↔y∈l.map (fun o=>o.1):=fun y=>by unfold txsP;exact mem_once _
 have HMT:=hid hmt
 have htl:=txs_length l
 clear hO hf hm h64 hmt
 go_enter Tryz.func111,Tryz.ntmps111
 go_wp2_with fail
 refine HC.out.mono ?_
 rintro e w1 ⟨tv,E,rfl,hE,hEl,hT,hB1⟩
 have hnn:∀ w,(binOp .neq 27 .nilIface .nilIface).run Tryz.prog w=.ok (.bool false) w:=fun _=>by kernel_rfl
 have HE:=hid hE
 have HT:=hid hT
 have HB1:=hid hB1
 have hB1s:=hB1.size
 have HC2:=hid (aheadOf_any ad cap w.heap.size l tv E w1 hn (by omega) (HO.out.below hB1) hT (fun a b hab=>(HMT.out b).1 (edges_tx hE hab).2) H64.out)
 clear hE hT hB1 HC
 go_wp2_with fail
 refine HC2.out.mono ?_
 rintro e w2 ⟨rfl,hI2,hB2⟩
 rw [aMap_txs] at hI2
 have hB2s:=hB2.size
 have HC3:=hid (free_any w1.heap.size 200000000 _ w2 (fun q hq hy=>Nat.le_trans (nodup_le_of_subset hq (s:=txsP l) (fun y h=>by
  have:=hy y h
  by_cases h2:y∈txsP l
  ·exact h2
  ·rw [if_neg h2] at this;exact (this rfl).elim)) (by omega)) hI2)
 have H2:=hid (And.intro hI2 hB2)
 clear hI2 hB2 HC2
 go_wp2_with fail
 refine HC3.out.mono ?_
 rintro e w3 ⟨qv,q,rfl,ho3,hs3,hn3,hm3,hB3⟩
 obtain⟨qad,qcap,rfl⟩:=row_form ho3
 have hB3s:=hB3.size
 have hA:Below w3.heap.size w3 (w3.alloc (.cells #[.slice qad q.length qcap] 269)):=(Below.refl _ _).alloc (Nat.le_refl _) _
 have hQ:QAt (w3.alloc (.cells #[.slice qad q.length qcap] 269)) w3.heap.size (.slice qad q.length qcap) q.toArray:=⟨heap_alloc_new w3 _,by simpa using owns_base (owns_same ho3 (fun g e=>hA.block g (ho3.lt g e).2)) (Nat.zero_le _),fun e=>by have:=(ho3.lt _ e).2;omega⟩
 have hB13:Below w1.heap.size w1 w3:=H2.out.2.trans (hB3.mono hB2s)
 have hB03:Below w.heap.size w w3:=HB1.out.trans (hB13.mono hB1s)
 have hL0:LSt w (w3.alloc (.cells #[.slice qad q.length qcap] 269)) tv E w1.heap.size 200000000 (fun y=>(if y∈txsP l then some ((E.countP (fun e=>e.2==y):Nat):Int) else none).map (Value.int .i64)) w3.heap.size (.slice qad q.length qcap) q.toArray (.slice none 0 0) [] :=
  ⟨owns_same HT.out (fun g e=>(hA.block g (Nat.lt_of_lt_of_le (HT.out.lt g e).2 hB13.size)).trans (hB13.block g (HT.out.lt g e).2)),
   (H2.out.1.same (hB3.block _ H2.out.1.lt)).same (hA.block _ (Nat.lt_of_lt_of_le H2.out.1.lt hB3s)),hQ,World.ownsRow_nil _ _ _ _,(fun _ _ e=>by cases e),hB03.trans (hA.mono hB03.size),hB1s,fun g hg=>by
    rcases hg with rfl | e
    ·exact hB03.size
    ·exact Nat.le_trans (Nat.le_trans hB1s hB2s) (ho3.lt g e).1⟩
 have hks:KS E (txsP l) (fun y=>if y∈txsP l then some ((E.countP (fun e=>e.2==y):Nat):Int) else none) q:=KS.start HE.out hn3 (fun y=>by
  rw [hm3 y]
  by_cases h:y∈txsP l
  ·rw [if_pos h];simp [h]
  ·rw [if_neg h];simp [h])
 have HL0:=hid hL0
 have HKS:=hid hks
 have HHP:=hid (rising_heap (d:=q.toArray) (by simpa using hs3))
 clear ho3 hs3 hn3 hm3 hB3 hA hQ hB13 hB03 hL0 hks
 go_wp2
 go_loopw [8] (fun ov wr=>∃ (left out:List Int) (M:Int→Option Int) (d:Array Int) (qv:Value) (nb fuel:Nat),KS E left M d.toList∧HeapP d d.size∧LSt w wr tv E w1.heap.size nb (fun y=>(M y).map (Value.int .i64)) w3.heap.size qv d ov out∧nb≤200000000+12000000*out.length∧out.length+left.length≤(txsP l).length∧left.length≤fuel∧(lineP E fuel left).map (fun r=>out++r)=lineP E (txsP l).length (txsP l)∧(∀ y∈left,y∈txsP l)) (fun ov _=>(txsP l).length-lenV ov)
 case atStart =>
  refine⟨txsP l,[],_,q.toArray,_,200000000,(txsP l).length,HKS.out,HHP.out,HL0.out,by omega,by simp,Nat.le_refl _,?_,fun _ h=>h⟩
  cases lineP E (txsP l).length (txsP l)<;>simp
 case round =>
  obtain⟨left,out,M,d,qv,nb,fuel,hks,hhp,hL,hnb,hol,hlf,hlp,hlt⟩:=hrel
  obtain⟨qad,qcap,rfl⟩:=hL.q.form
  have c0:=hL.q.cell
  have HR:=hid (And.intro hks (And.intro hhp (And.intro hL (And.intro hlp hlt))))
  have hlv:lenV u8=out.length:=by obtain⟨_,_,e⟩:=row_form hL.o;rw [e];rfl
  have hdn:d.size≤1000000:=by
   have:=nodup_le_of_subset hks.nq (s:=txsP l) (fun y hy=>hlt y ((hks.mq y).1 hy).1)
   rw [Array.length_toList] at this
   omega
  by_cases hd0:0<d.size
  ·have hd1:(0:Int)<(d.size:Int):=by omega
   obtain⟨x,hx⟩:∃ x,d[0]! = x:=⟨_,rfl⟩
   have hC5:=least_any w3.heap.size _ d wr hL.q (by omega) hd0 hhp
   rw [hx] at hC5
   have HC5:=hid hC5
   have hxd:x∈d.toList:=by
    rw [← hx,getElem!_pos d 0 hd0]
    exact Array.getElem_mem_toList ..
   have hxl:=(hks.mq x).1 hxd
   have hx64:I64 x:=H64.out x ((HMT.out x).1 (hlt x hxl.1))
   have hmin:∀ y∈d.toList,x≤y:=fun y hy=>by
    obtain⟨k,hk,rfl⟩:=mem_get hy
    rw [← hx]
    exact heap_root hhp k k (Nat.le_refl _) hk
   have HLEAST:=hid (hks.least hxd hmin)
   have HXL:=hid hxl
   have hpos:=List.length_pos_of_mem hxl.1
   clear hks hhp hL hlp hlt hxd hxl hmin hC5
   go_wp2_with fail
   refine HC5.out.mono ?_
   rintro e w5 ⟨rfl,qv5,d5,hQ5,hh5,hp5,hK5⟩
   have hL5:=HR.out.2.2.1.queue hK5 hQ5
   obtain⟨w6,hrun6,hI6,hg6⟩:=hL5.m.del Tryz.underlying131 hx64 0
   rw [upd_del] at hI6
   have hL6:=hL5.map hg6 hI6
   have hA7:Below w6.heap.size w6 (w6.alloc (.cells #[.int .i64 x] 3)):=(Below.refl _ _).alloc (Nat.le_refl _) _
   have hL7:=hL6.below hA7
   have HL7:=hid hL7
   have hki:=HR.out.1.take (edges_nodup HE.out) (edges_ne HE.out) hp5.symm (M':=fun y=>if y=x then none else M y) (fun _=>rfl)
   have HKI:=hid (And.intro hki hh5)
   have hb7:w.heap.size≤w6.heap.size:=hL6.bel.size
   clear hQ5 hh5 hp5 hK5 hL5 hI6 hg6 hL6 hA7 hL7 hki
   go_wp2_with (first
    | (at_delete;refine wpList_del (by rfl) _ _ _ _ (by rfl) _ _ (by rfl) (by rfl) hrun6 ?_)
    | (at_builtin;refine wpList_append_lies _ rfl _ _ _ rfl w.heap.size 3 i0 _ 1 8 Tryz.underlying54 hi0 hz0 hz1 hz2 rfl (by omega) u8 _ _ rfl HL7.out.o ⟨w6.heap.size,0,none⟩ 1 1 [.int .i64 x] rfl rfl (World.news_of_block (cs:=#[.int .i64 x]) (t:=3) (fr:=(0,0)) (heap_alloc_new w6 _)) (by simp [Value.oneCell']) (by omega) (by unfold maxLen;omega) (by omega) (by simp;omega) (w6.heap.size+1) (by simp) ?_;intro g8 cap8 w8 ho8 hgrow8 hat8 hlt8))
   have hL8:=HL7.out.outs (out':=out++[x]) hgrow8 (by rw [List.length_append,intsV_append];exact ho8) (fun g' e=>(by
    cases e
    rcases hat8 with e | e
    ·exact .inl e
    ·exact .inr (by show (w6.alloc _).heap.size≤g8;simp;omega)))
   refine (twosOf_any w.heap.size tv E x w8 (by omega) HE.out.1 hL8.t).mono ?_
   rintro e w9 ⟨sv,rfl,⟨sad,scap,rfl,hS9⟩,hB9⟩
   have HL9:=hid (hL8.below hB9)
   have HS9:=hid hS9
   obtain⟨T,hTT⟩:∃ T,E.filter (fun y=>y.1==x)=T:=⟨_,rfl⟩
   have hTl:T.length≤12000000:=by
    have:=List.length_filter_le (fun y:Int × Int=>y.1==x) E
    rw [hTT] at this
    omega
   rw [hTT] at HS9 HKI ⊢
   clear hL8 hS9 hB9 hgrow8 ho8 hat8 hTT hrun6 HC5 c0
   go_wp2
   go_loopw [39] (fun iv wr=>∃ (j nb2:Nat) (M2:Int→Option Int) (d2:Array Int) (qv2:Value),iv=.int .i64 j∧j≤T.length∧KI E (left.filter (fun z=>z != x)) x (T.drop j) M2 d2.toList∧HeapP d2 d2.size∧LSt w wr tv E w1.heap.size nb2 (fun y=>(M2 y).map (Value.int .i64)) w3.heap.size qv2 d2 (.slice (some ⟨g8,0,none⟩) (out.length+1) cap8) (out++[x])∧nb2≤200000000+12000000*out.length+j∧∀ g,tv.ownBlock=some g→wr.heap[g]?=w9.heap[g]?) (fun iv _=>T.length-(intOf iv).toNat)
   case atStart=>exact⟨0,nb,_,d5,qv5,rfl,Nat.zero_le _,HKI.out.1,HKI.out.2,HL9.out,by omega,fun _ _=>rfl⟩
   case round =>
    obtain⟨j,nb2,M2,d2,qv2,rfl,hj,hki,hh2,hL,hnb2,htb⟩:=hrel
    have HRI:=hid (And.intro hki (And.intro hh2 (And.intro hL htb)))
    have hbs:=hL.bel.size
    by_cases hjt:j<T.length
    ·obtain⟨⟨a,v⟩,hav⟩:∃ y,T[j]?=some y:=⟨T[j],List.getElem?_eq_getElem hjt⟩
     have hdr:T.drop j=(a,v)::T.drop (j+1):=by
      rw [List.drop_eq_getElem_cons hjt]
      congr 1
      rw [List.getElem?_eq_getElem hjt] at hav
      exact Option.some.inj hav
     rw [hdr] at hki
     obtain rfl:a=x:=(hki.mr (a,v) (by simp)).1
     obtain⟨g,off,rfl,hg,ca,cv⟩:=HS9.out j a v hav
     have hgb:=htb g hg
     have ca1:wr.cell? ⟨g,off+j*2,none⟩=some (.int .i64 a):=(World.cell?_of_block (a:=⟨g,_,none⟩) hgb).trans ca
     have cv1:wr.cell? ⟨g,off+j*2+1,none⟩=some (.int .i64 v):=(World.cell?_of_block (a:=⟨g,_,none⟩) hgb).trans cv
     have hvl:=(hki.mr (a,v) (by simp)).2.2
     have hv64:I64 v:=H64.out v ((HMT.out v).1 (HR.out.2.2.2.2 v (List.mem_filter.1 hvl).1))
     have hMv:=hki.at
     obtain⟨c,hc⟩:∃ c,cntP E (left.filter (fun z=>z != a)) v=c:=⟨_,rfl⟩
     rw [hc] at hMv
     have hcl:c≤12000000:=by rw [← hc];exact Nat.le_trans List.countP_le_length (by omega)
     have hA:Below wr.heap.size wr (wr.alloc (.cells #[.int .i64 a,.int .i64 v] 122)):=(Below.refl _ _).alloc (Nat.le_refl _) _
     have hLa:=hL.below hA
     have hlk1:=hLa.m.look1 Tryz.underlying131 (zeroI _) hv64
     rw [hMv] at hlk1
     simp only [Option.map_some,Option.getD_some] at hlk1
     obtain⟨w4,hrun4,hI4,hg4⟩:=hLa.m.store Tryz.underlying131 (by unfold maxLen;omega) hv64 (.int .i64 (c:Int))
     rw [upd_put] at hI4
     have hL4:=hLa.map hg4 hI4
     have hlk2:=hL4.m.look1 Tryz.underlying131 (zeroI _) hv64
     simp only [if_true,Option.map_some,Option.getD_some] at hlk2
     have hXb:wr.heap.size≠w1.heap.size:=fun e=>by have:=hL.m.lt;omega
     have hX4:w4.heap[wr.heap.size]?=some (.cells #[.int .i64 a,.int .i64 v] 122 (0,0)):=(hg4.block _ (by simp) (fun e=>hXb (by injection e))).trans (heap_alloc_new wr _)
     have x1:w4.cell? ⟨wr.heap.size,1,none⟩=some (.int .i64 v):=(cell_of_row _ _ 1 _ _ (0,0) hX4).trans rfl
     have htb4:∀ g,tv.ownBlock=some g→w4.heap[g]?=w9.heap[g]?:=fun g e=>(hg4.block g (by have:=(hL.t.lt g e).2;simp;omega) (fun e2=>by cases e2;exact hL.bn.2.1 e)).trans ((hA.block g (hL.t.lt g e).2).trans (htb g e))
     have HL4:=hid (And.intro hL4 htb4)
     have hstep:=fun q' hq'=>hki.step (M':=fun y=>if y=v then some (c:Int) else M2 y) (q':=q') (fun y=>by rw [hc]) hq'
     rw [hc] at hstep
     have HST:=hid hstep
     have hj0:(0:Int)≤(j:Int):=by omega
     have hj1:(j:Int)<(T.length:Int):=by omega
     have hdn2:d2.size≤1000000:=by
      have:=nodup_le_of_subset hki.nq (s:=txsP l) (fun y hy=>HR.out.2.2.2.2 y (List.mem_filter.1 ((hki.mq y).1 hy).1).1)
      rw [Array.length_toList] at this
      omega
     clear hki hh2 hL htb hav hdr ca cv hgb hvl hMv hc hA hLa hI4 hg4 hL4 hX4 htb4 hstep hXb
     by_cases hc0:c=0
     ·subst hc0
      have hlk3:(Instr.lookup 131 (.map (some w1.heap.size)) (.int .i64 v) false).run Tryz.prog (wr.alloc (.cells #[.int .i64 a,.int .i64 v] 122))=.ok (.int .i64 1) (wr.alloc (.cells #[.int .i64 a,.int .i64 v] 122)):=hlk1
      have hlk4:(Instr.lookup 131 (.map (some w1.heap.size)) (.int .i64 v) false).run Tryz.prog w4=.ok (.int .i64 0) w4:=hlk2
      have hrun5:(Instr.mapUpdate 131 (.map (some w1.heap.size)) (.int .i64 v) (.int .i64 0)).run Tryz.prog (wr.alloc (.cells #[.int .i64 a,.int .i64 v] 122))=.ok () w4:=hrun4
      clear hlk1 hlk2 hrun4
      have HPU:=hid (heapPush_any w3.heap.size qv2 d2 v w4 HL4.out.1.q (by omega) HRI.out.2.1)
      go_wp2_with (go_at_call 190;refine HPU.out.mono ?_;rintro e w10 ⟨rfl,qv10,d10,hQ10,hh10,hp10,hK10⟩)
      go_roundw
      case rel =>
       refine⟨j+1,nb2+1,_,d10,qv10,by go_num,by omega,HST.out d10.toList (by rw [if_pos trivial];exact hp10),hh10,HL4.out.1.queue hK10 hQ10,by omega,fun g e=>?_⟩
       exact (hK10.block g (HL4.out.1.t.lt g e).2 (HL4.out.1.tq e)).trans (HL4.out.2 g e)
      case measure=>simp [intOf];omega
     ·have hcb:((c:Int)==0)=false:=by simp;omega
      go_wp2
      go_roundw
      case rel=>exact⟨j+1,nb2+1,_,d2,qv2,by go_num,by omega,HST.out d2.toList (by rw [if_neg hc0]),HRI.out.2.1,HL4.out.1,by omega,HL4.out.2⟩
      case measure=>simp [intOf];omega
    ·obtain rfl:j=T.length:=by omega
     have hj1:¬ (T.length:Int)<(T.length:Int):=by omega
     rw [List.drop_length] at hki
     have HK:=hid hki.done
     have HL:=hid hL
     clear hki hh2 hL htb
     go_wp2
     go_roundw
     case rel =>
      obtain⟨fu,rfl⟩:∃ fu,fuel=fu+1:=⟨fuel-1,by omega⟩
      have hfl:=filter_lt HXL.out.1
      refine⟨left.filter (fun z=>z != x),out++[x],M2,d2,qv2,nb2,fu,HK.out,HRI.out.2.1,HL.out,by rw [List.length_append];simp;omega,by rw [List.length_append];simp;omega,by omega,?_,fun y hy=>HR.out.2.2.2.2 y (List.mem_filter.1 hy).1⟩
      rw [← HR.out.2.2.2.1,lineP_step HXL.out.1 HLEAST.out,Option.map_map]
      congr 1
      funext r
      simp
     case measure=>rw [hlv];simp [lenV];omega
  ·obtain hd00:d.size=0:=by omega
   have hd1:¬ (0:Int)<(d.size:Int):=by omega
   have hnil:d.toList=[]:=List.eq_nil_of_length_eq_zero (by simpa using hd00)
   have hstuck:leastP (left.filter (freeB E left))=none:=KS.stuck (M:=M) (by rw [← hnil];exact hks)
   obtain⟨k,hlen,hk⟩:=imap_len hL.m 3
   have hkl:k=0↔left=[]:=by
    rw [hk]
    constructor
    ·intro h
     cases left with
     | nil=>rfl
     | cons y r =>
      have h1:=h y (H64.out y ((HMT.out y).1 (hlt y (by simp))))
      rw [hks.m y,if_pos (by simp)] at h1
      cases h1
    ·rintro rfl y _
     rw [hks.m y]
     simp
   by_cases hle:left=[]
   ·have hk0:=hkl.2 hle
    subst hk0
    have hres:lineP E (txsP l).length (txsP l)=some out:=by
     rw [← hlp,hle,lineP_nil]
     simp
    have HRES:=hid hres
    have hlen2:(Builtin.len_ #[131] 3 #[.map (some w1.heap.size)]).run Tryz.prog wr=.ok (.int .i64 0) wr:=hlen
    clear hks hhp hL hlp hlt hlen hk hkl hnil hstuck hres
    go_wp2
    go_ret2
    exact⟨E,HE.out,HR.out.2.2.1.bel,.inl ⟨u8,rfl,out,HRES.out,HR.out.2.2.1.o⟩⟩
   ·have hk0:k≠0:=fun e=>hle (hkl.1 e)
    have hk1:(0:Int)<(k:Int):=by omega
    have hres:lineP E (txsP l).length (txsP l)=none:=by
     obtain⟨fu,rfl⟩:∃ fu,fuel=fu+1:=⟨fuel-1,by
      have:=List.length_pos_iff.2 hle
      omega⟩
     rw [← hlp,lineP_none hle hstuck]
     rfl
    have HRES:=hid hres
    clear hks hhp hL hlp hlt hk hkl hnil hstuck hres
    go_wp2
    go_ret2
    exact⟨E,HE.out,HR.out.2.2.1.bel,.inr ⟨rfl,HRES.out⟩⟩
end Go.Proofs.YtjefgmeejhakbabGreatDoor
