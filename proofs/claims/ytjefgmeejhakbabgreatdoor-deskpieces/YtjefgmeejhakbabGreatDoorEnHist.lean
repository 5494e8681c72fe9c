/- engine.History. -/
import Derived.Test.YtjefgmeejhakbabGreatDoorMgAJ
import Derived.Test.YtjefgmeejhakbabGreatDoorMgAT
import Derived.Laws.AppendOwnNone
import Derived.ArgAppend
import Derived.Deep.RegionHeld3
namespace Go.Proofs.YtjefgmeejhakbabGreatDoor
open Go.RowKit
theorem run_append_zero {w:World} {base:Nat} {t ty e:TypeId} {i:TypeInfo} {size:Nat} (ht:Tryz.prog.underlying t=some (.slice e)) (hi:Tryz.prog.info? e=some i) {v:Value} {n:Nat} {xs:List Value} (h:w.ownsRow base e size v n xs) (ad:Addr) (c:Nat) :
  (Builtin.append_ #[t,t] ty #[v,.slice (some ad) 0 c]).run Tryz.prog w=.ok v w:=by
 rcases h.2 with ⟨rfl,rfl⟩ | ⟨g,cap,cur,rfl,hb,hc,hle,_⟩
 ·have hfc:=run_firstCells_some (P:=Tryz.prog) w i.size 0 ad 0 c [] (by simp) (fun j u hu=>by simp at hu)
  simp [Builtin.append_,run_underlying ht,sizeOf,typeInfo,hi,Builtin.lenOf,hfc]
 ·have:=run_append_room_cells (P:=Tryz.prog) w t ty e i ht hi g 0 n cap ad 0 c [] (by simp) (fun j u hu=>by simp at hu) (fun u hu=>by simp at hu) (by omega) (fun j hj=>by simp at hj) (fun j hj=>by simp at hj)
  simpa [World.setCells] using this
set_option maxRecDepth 100000 in
theorem wpList_app_row {w:World} {ops:Array Oper} {rest:List Oper} {o:Oper} {a:Act} {Q:Exit→Act→World→Prop} (hgd:o.guard=none) (s x:Operand)
  (ho:o.op=.call { callee:=.builtin .append,args:=#[s,x],argTypes:=#[119,119] }) (base:Nat) (v:Value) (n:Nat) (xs:List Value) (hs:a.eval s=v) (hown:w.ownsRow base 138 4 v n xs)
  (sv:Value) (m:Nat) (news:List Value) (hx:a.eval x=sv) (hsrc:w.ownsRow 0 138 4 sv m news) (h1:∀ u∈news,u.oneCell'=true) (hn:n+m≤4000000000000) (hbase:base≤w.heap.size)
  (h:∀ v' w',w'.ownsRow base 138 4 v' (n+m) (xs++news)→Below base w w'→wpList Tryz.prog ops Q rest (a.put o.dst v') w'):wpList Tryz.prog ops Q (o::rest) a w:=by
 obtain⟨i0,hi0,hz0,hz1,hz2⟩:=info_parts info138
 by_cases hm:m=0
 ·subst hm
  have hne:news=[]:=List.eq_nil_of_length_eq_zero (by rw [hsrc.1])
  subst hne
  have hrun:(Builtin.append_ #[119,119] o.type #[v,sv]).run Tryz.prog w=.ok v w:=by
   rcases row_slice hsrc with ⟨rfl,_⟩ | ⟨g,c,rfl,_⟩
   ·exact run_append_owned_none (P:=Tryz.prog) (w:=w) base 119 o.type 138 i0 4 Tryz.underlying119 hi0 v n xs hown
   ·exact run_append_zero Tryz.underlying119 hi0 hown _ c
  refine wpList_plain hgd fun K hK=>?_
  unfold Oper.wp
  simp [execOp,ho,resolve,invoke,builtin,hs,hx,hrun,Result.andThen]
  exact hK _ _ (h v w (by simpa using hown) (Below.refl _ _))
 ·rcases row_slice hsrc with ⟨_,e0⟩ | ⟨g,c,rfl,hg,hc⟩
  ·exact (hm e0).elim
  ·refine wpList_append_lies w hgd s x _ ho base 138 i0 _ 4 32 Tryz.underlying119 hi0 hz0 hz1 hz2 rfl (by omega) v n xs hs hown ⟨g,0,none⟩ m c news hx hsrc.1 (fun j u hu=>by rw [addr_add];exact hc j u hu) h1 (by omega) (by unfold maxLen;omega) (by omega) hbase w.heap.size rfl ?_
   intro g' cap w' h2 h3 h4 h5
   refine h _ w' h2 ⟨h3.os,h3.tape,h3.output,h3.size,fun b hb=>h3.block b (by omega) (fun e=>?_)⟩
   have:=(hown.lt b e.symm).1
   omega
def histOf (n:Int) (t:Tx):List (Int × Int × Bool × Int):=readOps n t.reads++(writesP t.vals).map (fun p=>(n,p.1,true,0))
def histTo (E:Eng) (j:Nat):List (Int × Int × Bool × Int):=(E.com.take j).flatMap (fun (i:Nat)=>match E.txs[i]? with
 | some t=>histOf ((i:Int)+1) t
 | none=>[])
def histP (E:Eng):List (Int × Int × Bool × Int):=histTo E E.com.length
theorem histTo_step {E:Eng} {j i:Nat} {t:Tx} (hi:E.com[j]?=some i) (ht:E.txs[i]?=some t):histTo E (j+1)=histTo E j++histOf ((i:Int)+1) t:=by
 unfold histTo
 rw [List.take_add_one,hi]
 simp [ht]
set_option maxRecDepth 100000 in
theorem histTo_len {E:Eng} (hr:∀ t∈E.txs,t.reads.length≤1000):∀ j,(histTo E j).length≤j*1010
 | 0=>by simp [histTo]
 | j+1=>by
  have h1:=histTo_len hr j
  cases hi:E.com[j]? with
  | none =>
   have:histTo E (j+1)=histTo E j:=by unfold histTo;rw [List.take_add_one,hi];simp
   rw [this]
   omega
  | some i =>
   cases ht:E.txs[i]? with
   | none =>
    have:histTo E (j+1)=histTo E j:=by unfold histTo;rw [List.take_add_one,hi];simp [ht]
    rw [this]
    omega
   | some t =>
    rw [histTo_step hi ht,List.length_append]
    have h2:=hr t (List.mem_of_getElem? ht)
    have h3:=writesP_len t.vals
    simp only [histOf,readOps,List.length_append,List.length_map]
    omega
theorem histTo_lenM {E:Eng} (M:Nat) (hr:∀ i∈E.com,∀ t,E.txs[i]?=some t→t.reads.length≤M):∀ j,(histTo E j).length≤j*(M+10)
 | 0=>by simp [histTo]
 | j+1=>by
  have h1:=histTo_lenM M hr j
  rw [Nat.succ_mul]
  cases hi:E.com[j]? with
  | none =>
   have:histTo E (j+1)=histTo E j:=by unfold histTo;rw [List.take_add_one,hi];simp
   rw [this]
   omega
  | some i =>
   cases ht:E.txs[i]? with
   | none =>
    have:histTo E (j+1)=histTo E j:=by unfold histTo;rw [List.take_add_one,hi];simp [ht]
    rw [this]
    omega
   | some t =>
    rw [histTo_step hi ht,List.length_append]
    have h2:=hr i (List.mem_of_getElem? hi) t ht
    have h3:=writesP_len t.vals
    simp only [histOf,readOps,List.length_append,List.length_map]
    omega
variable {w w':World} {L:EnL} {E:Eng}
set_option maxRecDepth 100000 in
set_option maxHeartbeats 4000000 in
theorem hist_big (h:EnAt w L E) (hr:∀ i∈E.com,∀ t,E.txs[i]?=some t→t.reads.length≤10000000) (hcl:E.com.length≤200) :
    Calls Tryz.prog 108 #[.pointer (some ⟨L.s,0,none⟩)] w fun e w'=>∃ v,e=.returned v∧w'.ownsRow w.heap.size 138 4 v (histP E).length (opsV (histP E))∧Below w.heap.size w w':=by
  obtain⟨i0,hi0,hz0,hz1,hz2⟩:=info_parts info138
  have c16:=h.c16
  obtain⟨ad,cap,hcv⟩:=row_form h.com
  have HCV:=hid hcv
  rw [hcv] at c16
  obtain⟨N,hN⟩:∃ N,E.com.length=N:=⟨_,rfl⟩
  rw [hN] at c16 hcl
  have HN:=hid hN
  have HH:=hid h
  have HR:=hid hr
  clear h hcv hN hr
  go_enter Tryz.func108,Tryz.ntmps108
  go_wp2
  go_loopw [3,13] (fun ov iv wr=>∃ i:Nat,iv=.int .i64 i∧i≤N∧Hid (wr.ownsRow w.heap.size 138 4 ov (histTo E i).length (opsV (histTo E i)))∧Hid (Below w.heap.size w wr)) (fun _ iv _=>N-(intOf iv).toNat)
  case atStart=>exact⟨0,rfl,Nat.zero_le _,⟨by simp [histTo,opsV],.inl ⟨rfl,by simp [histTo]⟩⟩,Below.refl _ _⟩
  case round =>
    obtain⟨i,rfl,hi,HO,HB⟩:=hrel
    by_cases hlt:i<N
    · obtain⟨k,hk⟩:∃ k,E.com[i]?=some k:=⟨E.com[i]'(by have:=HN.out;omega),List.getElem?_eq_getElem _⟩
      have hHr:=HH.out.below HB.out
      obtain⟨l,hl⟩:∃ l,L.txs[k]?=some l:=⟨L.txs[k]'(by have:=HH.out.coml k (List.mem_of_getElem? hk);have:=HH.out.len;omega),List.getElem?_eq_getElem _⟩
      obtain⟨t,ht,hA⟩:=hHr.getL hl
      have hlk:l.b<w.heap.size:=HH.out.own_lt (TxL.own_in hl (.inl rfl))
      have HLB:=hid hlk
      have HL:=hid hl
      have HTT:=hid ht
      have HK:=hid hk
      have hstep:=histTo_step hk ht
      have HST:=hid hstep
      have hlen:(histTo E i).length≤2000002000:=Nat.le_trans (histTo_lenM 10000000 HR.out i) (Nat.mul_le_mul_right _ (show i≤200 by omega))
      have hrl:=HR.out k (List.mem_of_getElem? hk) t ht
      have c9:=hA.c9
      have HRD:=hid hA.rd
      rcases row_slice HH.out.com with ⟨_,e0⟩ | ⟨gc,capc,hgc,hglt,hcs⟩
      · have:=HN.out;omega
      have ec:Value.slice ad N cap=.slice (some ⟨gc,0,none⟩) N capc:=by rw [← HN.out,← HCV.out,hgc]
      injection ec with ec1 _ ec2
      subst ec1
      have cp:wr.cell? ⟨gc,i,none⟩=some (.pointer (some ⟨l.b,0,none⟩)):=(HB.out.cell (p:=⟨gc,i,none⟩) hglt).trans (hcs i _ (by rw [List.getElem?_map,hk];simp [bs_get hl,ptrV]))
      have g1:(i:Int)<(N:Int):=by omega
      have g0:(0:Int)≤(i:Int):=by omega
      have hbs:=HB.out.size
      obtain⟨A,hAA⟩:∃ A,histTo E i=A:=⟨_,rfl⟩
      rw [hAA] at HO hlen HST
      have HAA:=hid hAA
      obtain⟨rv,hrv⟩:∃ rv,l.rv=rv:=⟨_,rfl⟩
      rw [hrv] at c9 HRD
      clear hA ht hl hk hstep hcs hgc hHr hAA hrv ec2
      go_wp2_with (at_builtin;refine wpList_app_row rfl _ _ rfl w.heap.size u3 _ _ rfl HO.out rv _ _ rfl HRD.out (opsV_one _) (by omega) hbs ?_;intro v1 w1 hown1 hB1)
      have HO1:=hid hown1
      have HB1:=hid (HB.out.trans hB1)
      clear hown1 hB1
      have hE1:=HH.out.below HB1.out
      have HW:=hid (writes_any (hE1.txs k l t HL.out HTT.out))
      clear hE1 HO HB HRD c9 cp
      go_wp2_with fail
      refine HW.out.mono ?_
      rintro e w2 ⟨wv,rfl,hown2,hB2⟩
      have HO2:=hid (owns_same HO1.out (fun g hg=>hB2.block g (owns_lt HO1.out hg)))
      have hb12:=hB2.size
      have HB2:=hid (HB1.out.trans (hB2.mono HB1.out.size))
      have hwl:=writesP_len t.vals
      obtain⟨ws,hws⟩:∃ ws,writesP t.vals=ws:=⟨_,rfl⟩
      rw [hws] at hown2 hwl
      obtain⟨wad,wcap,hwv⟩:=row_form hown2
      have HWR:=hid (owns_base hown2 (Nat.zero_le _))
      rw [hwv] at HWR ⊢
      have HWS:=hid hws
      clear hown2 hB2 hws hwv HO1 HB1 HW
      go_wp2
      go_loopw [3,26] (fun ov jv wr2=>∃ j:Nat,jv=.int .i64 j∧j≤ws.length∧Hid (wr2.ownsRow w.heap.size 138 4 ov (A.length+t.reads.length+j) (opsV (A++readOps ((k:Int)+1) t.reads++(ws.take j).map (fun p=>((k:Int)+1,p.1,true,(0:Int))))))∧Hid (Below w.heap.size w wr2)∧Hid (wr2.ownsRow 0 122 2 (.slice wad ws.length wcap) ws.length (vrow ws))) (fun _ jv _=>ws.length-(intOf jv).toNat)
      case atStart =>
        refine⟨0,rfl,Nat.zero_le _,?_,HB2,HWR⟩
        have:=HO2.out
        rw [← opsV_append] at this
        show World.ownsRow _ _ _ _ _ _ _
        simpa using this
      case round =>
        obtain⟨j,rfl,hj,HO3,HB3,HW3⟩:=hrel
        by_cases hjl:j<ws.length
        · obtain⟨a,x,hax⟩:∃ a x,ws[j]?=some (a,x):=⟨ws[j].1,ws[j].2,List.getElem?_eq_getElem hjl⟩
          have hx:=vrow_get ws j a x hax
          rcases row_slice HW3.out with ⟨_,e0⟩ | ⟨gw,capw,hgw,hgwl,hcw⟩
          · omega
          injection hgw with hgw1 _ hgw2
          subst hgw1
          subst hgw2
          have d0:=hcw _ _ hx.1
          have d1:=hcw _ _ hx.2
          have hE3:=HH.out.below HB3.out
          have c0:=(hE3.txs k l t HL.out HTT.out).c0
          have gj:(j:Int)<(ws.length:Int):=by omega
          have gj0:(0:Int)≤(j:Int):=by omega
          have hb3:=HB3.out.size
          have hlb3:l.b<wr.heap.size:=by have:=HLB.out;omega
          have HAX:=hid hax
          clear hx hcw hE3 hax
          go_wp2
          obtain⟨wb,hwb⟩:∃ wb,wr.alloc (.cells #[.int .i64 a,.int .i64 x] 122)=wb:=⟨_,rfl⟩
          have hBb:Below wr.heap.size wr wb:=by rw [← hwb];exact (Below.refl _ wr).alloc (Nat.le_refl _) _
          have hbx:wb.cell? ⟨wr.heap.size,0,none⟩=some (.int .i64 a):=by rw [← hwb];exact (cell_of_row _ wr.heap.size 0 _ _ (0,0) (heap_alloc_new wr _)).trans rfl
          have cb:wb.cell? ⟨l.b,0,none⟩=some (.int .i64 ((k:Int)+1)):=(hBb.cell (p:=⟨l.b,0,none⟩) hlb3).trans c0
          have hwbs:wb.heap.size=wr.heap.size+1:=by rw [← hwb];simp
          have hOb:=owns_same HO3.out (fun g hg=>hBb.block g (owns_lt HO3.out hg))
          have HOb:=hid hOb
          have HWBS:=hid hwbs
          have hlbb:l.b<wb.heap.size:=by omega
          have hwrb:wr.heap.size<wb.heap.size:=by omega
          have HWb:=hid (owns_same HW3.out (fun g hg=>hBb.block g (owns_lt HW3.out hg)))
          have HBb:=hid (HB3.out.trans (hBb.mono hb3))
          have hfarO:some l.b≠u3.ownBlock:=fun e=>by have:=(HO3.out.lt l.b e.symm).1;have:=HLB.out;omega
          have hfarB:some wr.heap.size≠u3.ownBlock:=fun e=>by have:=(HO3.out.lt _ e.symm).2;omega
          have HFO:=hid hfarO
          have HFB:=hid hfarB
          have hbase:w.heap.size≤wb.heap.size:=by omega
          rw [hwb]
          clear hwbs hwb hBb hOb c0 d0 d1 HO3 HB3 HW3 hfarO hfarB
          go_region_held3 (fun W=>W.cell? ⟨l.b,0,none⟩=some (.int .i64 ((k:Int)+1))∧W.cell? ⟨wr.heap.size,0,none⟩=some (.int .i64 a))
            (first | go_keep | exact⟨y0,y1⟩)
            (first
              | (refine step_append_lies _ (by rfl) (.tmp 30) (.tmp 38) 119 (by rfl) w.heap.size 138 i0 _ 4 32 Tryz.underlying119 hi0 hz0 hz1 hz2 rfl (by omega) u3 (A.length+t.reads.length+j) (opsV (A++readOps ((k:Int)+1) t.reads++(ws.take j).map (fun p=>((k:Int)+1,p.1,true,(0:Int))))) (by rfl) ((HOb.out.alloc _).drew) ⟨wb.heap.size,0,none⟩ 1 1 [.int .i64 ((k:Int)+1),.int .i64 a,.bool true,.int .i64 0] (by rfl) (by rfl) (World.news_of_block (cs:=#[.int .i64 ((k:Int)+1),.int .i64 a,.bool true,.int .i64 0]) (t:=138) (fr:=(0,0)) (heap_alloc_new wb _)) (by simp [Value.oneCell'])
                  (by omega) (by unfold maxLen;omega) (by omega) (by simp;omega) (wb.heap.size+1) (by simp) ?_
                 intro gg cap' w5 hown5 hgrow hat hlt
                 have y0:w5.cell? ⟨l.b,0,none⟩=some (.int .i64 ((k:Int)+1)):=(World.cell?_of_block (a:=⟨l.b,0,none⟩) ((hgrow.block l.b (by simp;omega) HFO.out).trans (Below.heap_alloc wb _ l.b hlbb))).trans cb
                 have y1:w5.cell? ⟨wr.heap.size,0,none⟩=some (.int .i64 a):=(World.cell?_of_block (a:=⟨wr.heap.size,0,none⟩) ((hgrow.block wr.heap.size (by simp;omega) HFB.out).trans (Below.heap_alloc wb _ wr.heap.size hwrb))).trans hbx)
              | fail)
          have hB5:Below w.heap.size w w5:=HBb.out.trans ((((Below.refl _ wb).alloc (Nat.le_refl _) _).drew.mono hbase).grown hgrow (by simp;omega) (fun q e=>by have:=(HOb.out.lt q e).1;omega))
          have hW5:w5.ownsRow 0 122 2 (.slice (some ⟨gw,0,none⟩) ws.length wcap) ws.length (vrow ws):=owns_same HWb.out (fun g hg=>by
            have hgl:=owns_lt HWb.out hg
            refine (hgrow.block g (by simp;omega) (fun e=>?_)).trans (Below.heap_alloc wb _ g hgl)
            obtain⟨q1,hq1⟩:=owns_typ HWb.out hg
            obtain⟨q2,hq2⟩:=owns_typ HOb.out e.symm
            rw [hq1] at hq2
            injection hq2 with hq2
            injection hq2 with _ hq2
            exact absurd hq2 (by decide))
          have HF:=hid (And.intro hown5 (And.intro hB5 hW5))
          clear hown5 hB5 hW5 hgrow hat y0 y1 cb hbx HOb HWb HBb
          go_wp2
          go_roundw
          case rel =>
            refine⟨j+1,by go_num,by omega,?_,HF.out.2.1,HF.out.2.2⟩
            show World.ownsRow _ _ _ _ _ _ _
            rw [List.take_add_one,HAX.out]
            have h1:=HF.out.1
            rw [show A.length+t.reads.length+j+1=A.length+t.reads.length+(j+1) by omega] at h1
            simp only [Option.toList_some,List.map_append,List.map_cons,List.map_nil,← List.append_assoc]
            rw [opsV_append]
            exact h1
          case measure=>simp [intOf];omega
        · have hjj:j=ws.length:=by omega
          have gj:¬ (j:Int)<(ws.length:Int):=by omega
          subst hjj
          go_wp2
          go_roundw
          case rel =>
            refine⟨i+1,by go_num,by omega,?_,HB3⟩
            show World.ownsRow _ _ _ _ _ _ _
            have e:histTo E (i+1)=A++readOps ((k:Int)+1) t.reads++ws.map (fun p=>((k:Int)+1,p.1,true,(0:Int))):=by rw [HST.out,histOf,HWS.out,List.append_assoc]
            have h1:=HO3.out
            rw [List.take_length,← e] at h1
            have e2:(histTo E (i+1)).length=A.length+t.reads.length+ws.length:=by rw [e];simp [readOps];omega
            rw [e2]
            exact h1
          case measure=>simp [intOf];omega
    · have hiN:i=N:=by omega
      have g1:¬ (i:Int)<(N:Int):=by omega
      go_wp2
      go_ret
      refine⟨_,rfl,?_,HB.out⟩
      unfold histP
      rw [HN.out,← hiN]
      exact HO.out
end Go.Proofs.YtjefgmeejhakbabGreatDoor
