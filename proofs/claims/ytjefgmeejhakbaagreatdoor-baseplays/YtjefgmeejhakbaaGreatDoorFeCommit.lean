/- The document's engine: Commit, where it commits. -/
import Derived.Test.YtjefgmeejhakbaaGreatDoorMgAX
import Derived.Test.YtjefgmeejhakbaaGreatDoorFsErr
import Derived.Test.YtjefgmeejhakbaaGreatDoorFeReadM
namespace Go.Proofs.YtjefgmeejhakbaaGreatDoor
open Go.RowKit
theorem owns0 {w:World} {base e size n:Nat} {v:Value} {xs:List Value} (h:w.ownsRow base e size v n xs):w.ownsRow 0 e size v n xs:=⟨h.1,h.2.imp id (fun ⟨g,c,cur,a,_,q⟩=>⟨g,c,cur,a,Nat.zero_le _,q⟩)⟩
theorem owns_empty (w:World):(w.alloc (.cells #[] 90)).ownsRow w.heap.size 90 4 (.slice (some ⟨w.heap.size,0,none⟩) 0 0) 0 []:=⟨by simp,.inr ⟨w.heap.size,0,#[],rfl,Nat.le_refl _,heap_alloc_new w _,by omega,by unfold maxLen;omega,by simp,by simp⟩⟩
section
variable {w w':World} {L:REnL} {B:Nat} {E E':Eng} {i:Nat} {t:Tx}
set_option maxRecDepth 100000 in
set_option maxHeartbeats 8000000 in
theorem rcommit_main (hd:DropsOk 6) (h:RefAt w L B E) (hB:B+10000≤10000000) (hM:Mid2 E.ce noQ) (ht:E.txs[i]?=some t) (hs:t.state=0) (hb:betB t.ahead t.behind=false) (he:commitE 7 E i=some (0,E')) :
    Calls Tryz.prog 80 #[.pointer (some ⟨L.R,0,none⟩),.int .i64 ((i:Int)+1)] w fun e w'=>e=.returned (.int .i64 0)∧RefPost L (B+10000) E' w w':=by
  obtain⟨i0,hi0,hz0,hz1,hz2⟩:=info_parts info90
  have hready:=h.ready (by omega) ht hs
  rw [show rdyE t=0 by unfold rdyE;rw [hb];rfl] at hready
  have hwrites:=h.writes (by omega) ht
  obtain⟨R,hA,hRel⟩:=h
  obtain⟨r,hr,hX⟩:=hRel.getR ht
  obtain⟨l,g,cap,hli,hTi,hav,hcp⟩:=hA.place hr
  have c12:=hA.c12
  rw [hav] at c12
  have hhB:=hRel.histB
  have hrB:=(hRel.szR hr).1
  obtain⟨adh,caph,hhv⟩:=row_form hA.hist
  obtain⟨adr,capr,hrd⟩:=row_form hTi.rd
  have hrow8:Hid (∀ w1,Below w.heap.size w w1→w1.cell? ⟨L.R,15,none⟩=some (.slice adh R.hist.length caph)∧w1.cell? ⟨l.b,6,none⟩=some (.slice adr r.reads.length capr)∧w1.ownsRow 0 90 4 (.slice adh R.hist.length caph) R.hist.length (opsV R.hist)∧w1.ownsRow 0 90 4 (.slice adr r.reads.length capr) r.reads.length (opsV r.reads)∧L.R<w1.heap.size∧l.b<w1.heap.size∧REnAt w1 L R):=fun w1 hB1=>by
    have h1:=hA.below hB1
    have h2:=h1.txs i l r hli hr
    refine⟨by rw [← hhv];exact h1.c15,by rw [← hrd];exact (h2.cell 6).trans rfl,by rw [← hhv];exact owns0 h1.hist,by rw [← hrd];exact h2.rd,h1.lt,(Array.getElem?_eq_some_iff.1 h2.blk).1,h1⟩
  have hE:endF 7 { (installE E i) with com:=E.com++[i] } i 2=some E':=by
    unfold commitE at he
    rw [ht] at he
    simp only [hb] at he
    cases hf:endF 7 { (installE E i) with com:=E.com++[i] } i 2 with
    | none=>rw [hf] at he;simp at he
    | some X =>
      rw [hf] at he
      simp at he
      rw [he]
  have hfine:=writesP_fine (t:=t) (fun k hk=>(hM.reg.fair i _ (cs_get ht)).vk k hk) (hM.fine ht)
  have HEND:=hid (fun (wz:World) (v:Value) (S:REng) (Lz:REnL) (hz:REnAt wz Lz S) (hLz:Lz.txs=L.txs) (hS1:S.txs=R.txs) (hS:({ S with step:=S.step+1 }:REng).setTx i (doneR S r)=insR E R i r t)=>com_end hd hz (by rw [hLz];exact hli) (by rw [hS1];exact hr) hS (hRel.commit ht hr (live_iff.2 (.inl hs)) hfine) hB hM ht (live_iff.2 (.inl hs)) hE)
  have hwl:=writesP_len t.vals
  have hlast:=hRel.lb
  have hlR:=hRel.last
  have hst:=hX.state
  have hi:=(List.getElem?_eq_some_iff.1 ht).1
  have hle:=hRel.le
  have hrl:=hRel.len
  have hreads:=hX.reads (by omega)
  have hkB:=hRel.keptB
  have hnbB:R.nb≤B:=by obtain⟨N,_,_,z3,z4⟩:=hRel.sz;omega
  have hsp0:=hRel.s0
  have hspB:=hRel.stepB
  obtain⟨ws,hws⟩:∃ ws,writesP t.vals=ws:=⟨_,rfl⟩
  rw [hws] at hwrites hwl hfine
  have hho:histOf ((i:Int)+1) t=r.reads++ws.map (fun p=>((i:Int)+1,p.1,true,0)):=by unfold histOf;rw [hws,hreads]
  simp only [ptrV] at hcp
  have HOWN:=hid (fun g (hg:L.own g)=>hA.own_lt hg)
  have HWS:=hid hws
  have HHO:=hid hho
  have HFN:=hid hfine
  have HR:=hid hready
  have HW:=hid hwrites
  have HLL:=hid hli
  obtain⟨m,hm⟩:∃ m,R.txs.length=m:=⟨_,rfl⟩
  have hm200:m≤200:=by omega
  have him:i<m:=by omega
  rw [hm] at c12
  have gi0:(0:Int)≤(i:Int):=by omega
  have gi1:(i:Int)<(m:Int):=by omega
  obtain⟨nh,hnh⟩:∃ nh,R.hist.length=nh:=⟨_,rfl⟩
  obtain⟨nr,hnr⟩:∃ nr,r.reads.length=nr:=⟨_,rfl⟩
  rw [hnh] at hrow8 hhB
  rw [hnr] at hrow8 hrB
  have HNH:=hid (And.intro hnh hnr)
  clear hA hRel hX hTi hav hhv hrd hE he hM hready hwrites hfine ht hr hli hws hho hb hst hreads hm hnh hnr hi hle hrl hs
  go_enter Tryz.func80,Tryz.ntmps80
  go_wp2_with fail
  refine HR.out.mono ?_
  rintro e w1 ⟨rfl,hw1⟩
  rw [hw1]
  clear hw1 w1
  go_wp2_with fail
  refine HW.out.mono ?_
  rintro e w1 ⟨tv,rfl,ho,hB1⟩
  obtain⟨x15,x6,hrh,hrr,hlt15,hltb,hA1⟩:=hrow8.out w1 hB1
  obtain⟨adt,capt,hv2⟩:=row_form ho
  subst hv2
  have HO:=hid ho
  have HA1:=hid hA1
  have HB1:=hid hB1
  have HNEW:=hid (owns_empty w1.drew)
  have HRH:=hid (hrh.drew.alloc (.cells #[] 90))
  have HRR:=hid hrr
  clear hrh hrr ho hA1 hB1 HW HR
  go_wp2
  go_cut [] (fun wx=>∃ v,Hid (REnAt wx { L with hv:=v } { R with hist:=R.hist++r.reads })∧Hid (KeptO L.own ({ L with hv:=v }:REnL).own w1 wx))
  case first =>
    go_region_law
      (first
        | (refine step_app_row (by rfl) _ _ (by rfl) w1.heap.size v1 _ _ (by rfl) HO1.out (.slice adr nr capr) nr (opsV r.reads) (by rfl) HRR2.out (opsV_one _) (by omega) hs2 ?_;intro v2 w3 ho2 hB3
           obtain⟨ad2,cap2,hvv2⟩:=row_form ho2
           subst hvv2
           have hbel:=HB2.out.trans hB3
           obtain⟨⟨hv15,x15c⟩,f15,hpost⟩:=HA1.out.hist8 (r:=r) (w1:=w3) (by rw [HNH.out.1,HNH.out.2];simpa using ho2) hbel
           have hlt3:L.R<w3.heap.size:=by have:=hbel.size;omega
           have HP8:=hid hpost
           clear ho2 hB3 hpost hbel)
        | (refine step_app_row (by rfl) _ _ (by rfl) w1.heap.size (.slice (some ⟨w1.heap.size,0,none⟩) 0 0) 0 [] (by rfl) HNEW.out (.slice adh nh caph) nh (opsV R.hist) (by rfl) HRH.out (opsV_one _) (by omega) (by simp) ?_;intro v1 w2 ho1 hB2
           have hbel:Below w1.heap.size w1 w2:=(Below.alloc (below_drewN (Below.refl _ w1) 1) (by simp) _).trans hB2
           have hs2:=hbel.size
           have x6b:w2.cell? ⟨l.b,6,none⟩=some (.slice adr nr capr):=(hbel.cell (p:=⟨l.b,6,none⟩) hltb).trans x6
           have HO1:=hid ho1
           have HRR2:=hid (owns_same HRR.out (fun g hg=>hbel.block g (HRR.out.lt g hg).2))
           have HB2:=hid hbel
           clear ho1 hB2 hbel))
    all_goals
      go_wp2_with fail
      go_meet
      exact⟨_,HP8.out.1,HP8.out.2⟩
  case rest =>
    obtain⟨v8,HA8,HK8⟩:=hcut
    have hwsl:ws.length≤10:=hwl
    clear HNEW HRH HRR x15 x6 hrow8
    go_wp2
    go_loopw [53] (fun iv wr=>∃ (j:Nat) (v:Value),j≤ws.length∧iv=.int .i64 j∧Hid (REnAt wr { L with hv:=v } { R with hist:=R.hist++r.reads++(ws.take j).map (fun p=>((i:Int)+1,p.1,true,0)) })∧Hid (KeptO L.own ({ L with hv:=v }:REnL).own w1 wr)) (fun iv _=>ws.length-(intOf iv).toNat)
    case atStart=>exact⟨0,v8,by omega,rfl,by simpa using HA8,HK8⟩
    case round =>
      obtain⟨j,v,hj,rfl,HAj,HKj⟩:=hrel
      by_cases hlt:j<ws.length
      · obtain⟨⟨ka,kx⟩,hp⟩:∃ p,ws[j]?=some p:=⟨ws[j],List.getElem?_eq_getElem hlt⟩
        obtain⟨gt,ct1,ct2,hadt,hgt⟩:∃ gt,wr.cell? ⟨gt,j*2,none⟩=some (.int .i64 ka)∧wr.cell? ⟨gt,j*2+1,none⟩=some (.int .i64 kx)∧adt=some ⟨gt,0,none⟩∧gt<wr.heap.size:=by
          rcases row_slice HO.out with ⟨e1,e2⟩ | ⟨gt,cap',e1,hg,hc⟩
          · omega
          · have hob:(Value.slice adt ws.length capt).ownBlock=some gt:=by rw [e1];rfl
            have hb:=(HO.out.lt gt hob).1
            have hno:¬ L.own gt:=fun ho=>by have:=HOWN.out gt ho;omega
            have hblk:=HKj.out.block gt hg hno
            have hv:=vrow_get ws j ka kx hp
            have hsz:=HKj.out.size
            refine⟨gt,(World.cell?_of_block (a:=⟨gt,j*2,none⟩) hblk).trans (hc _ _ hv.1),(World.cell?_of_block (a:=⟨gt,j*2+1,none⟩) hblk).trans (hc _ _ hv.2),by injection e1,by omega⟩
        subst hadt
        obtain⟨A,hAA⟩:∃ A,R.hist++r.reads++(ws.take j).map (fun p=>((i:Int)+1,p.1,true,0))=A:=⟨_,rfl⟩
        have hst:R.hist++r.reads++(ws.take (j+1)).map (fun p=>((i:Int)+1,p.1,true,0))=A++[((i:Int)+1,ka,true,0)]:=by
          rw [← hAA,List.take_add_one,hp]
          simp
        have hAl:A.length≤nh+nr+10:=by
          rw [← hAA]
          have:=HNH.out
          simp only [List.length_append,List.length_map,List.length_take]
          omega
        rw [hAA] at HAj
        have y15:=HAj.out.c15
        have yf:=HAj.out.freeR 15
        have ylt:=HAj.out.lt
        have hown:=HAj.out.hist
        simp only at y15 yf ylt hown
        obtain⟨adv,capv,hvv⟩:=row_form hown
        subst hvv
        have hbelo:Hid (∀ (bx:Obj) (bs:Obj),Below wr.heap.size wr ((wr.alloc bx).drew.alloc bs)):=fun bx bs=>Below.alloc (below_drewN (Below.alloc (Below.refl _ wr) (Nat.le_refl _) _) 1) (by simp) _
        have H12:=hid (fun (W w5:World) (gg cap:Nat) hW ho hg hat=>HAj.out.hist12 (w1:=w5) (o:=((i:Int)+1,ka,true,0)) (W:=W) (gg:=gg) (cap:=cap) hW ho hg hat)
        simp only at H12
        have HRW:=hid (hown.alloc (.cells #[.int .i64 ka,.int .i64 kx] 78)).drew
        have HST:=hid hst
        have HAL:=hid hAl
        obtain⟨na,hna⟩:∃ na,A.length=na:=⟨_,rfl⟩
        rw [hna] at y15 HRW H12 hAl HKj
        have hj0:(0:Int)≤(j:Int):=by omega
        have hj1:(j:Int)<(ws.length:Int):=by omega
        clear hown hst hAA hp HAj hna
        go_wp2
        go_region_law
          (refine step_append_lies _ (by rfl) _ _ _ (by rfl) (L.R+1) 90 i0 _ 4 32 Tryz.underlying22 hi0 hz0 hz1 hz2 rfl (by omega) (.slice adv na capv) na (opsV A) (by rfl) (HRW.out.alloc _)
              ⟨wr.heap.size+1,0,none⟩ 1 1 [.int .i64 ((i:Int)+1),.int .i64 ka,.bool true,.int .i64 0] (by first | rfl | simp) (by rfl) (World.news_of_block (cs:=#[.int .i64 ((i:Int)+1),.int .i64 ka,.bool true,.int .i64 0]) (t:=90) (fr:=(0,0)) (alloc2_new wr _ _)) (by simp [Value.oneCell'])
              (by omega) (by unfold maxLen;omega) (by omega) (by simp;omega) (wr.heap.size+2) (by simp) ?_;intro gg cap' w5 ho5 hgrow5 hat5 hlt5
           obtain⟨⟨hv15,x15c⟩,f15,hpost⟩:=H12.out _ w5 gg cap' (hbelo.out _ _) ho5 hgrow5 (hat5.imp id (fun e=>by omega))
           have hlt6:L.R<w5.heap.size:=by have:=hgrow5.size;simp at this;omega
           have HP12:=hid hpost
           clear ho5 hgrow5 hat5 hlt5 hpost)
        all_goals
          go_wp2
          go_round
          case rel=>exact⟨j+1,_,by omega,by go_num,by rw [HST.out];exact HP12.out.1,HKj.out.trans HP12.out.2⟩
          case measure=>simp [intOf];omega
      · have hjn:j=ws.length:=by omega
        subst hjn
        have heq:R.hist++r.reads++(ws.take ws.length).map (fun p=>((i:Int)+1,p.1,true,0))=R.hist++histOf ((i:Int)+1) t:=by rw [HHO.out,List.take_length,List.append_assoc]
        rw [heq] at HAj
        have hjj:¬ (ws.length:Int)<(ws.length:Int):=by omega
        by_cases hn:ws=[]
        · have hwn:writesP t.vals=[]:=by rw [HWS.out];exact hn
          have gl:¬ (0:Int)<(ws.length:Int):=by rw [hn];simp
          obtain⟨t13,tf13,t1,tf1,t5,tf5,hne,hdr⟩:=HEND.out wr v _ _ HAj.out rfl rfl (insR_nil hwn)
          have HZ:=hid HAj.out
          clear HEND HAj hwn hn heq
          simp only at t13 hdr
          have tlt:=(Array.getElem?_eq_some_iff.1 HZ.out.blk).1
          simp only at tlt
          have HDR:=hid hdr
          have HKK:=hid (((KeptO.of_below HB1.out).trans HKj.out))
          have gs0:-9223372036854775808≤R.step+1:=by omega
          have gs1:R.step+1≤9223372036854775807:=by omega
          obtain⟨sp,hsp⟩:∃ sp,R.step=sp:=⟨_,rfl⟩
          rw [hsp] at t13 HDR gs0 gs1
          clear hdr hsp HZ HKj
          go_wp2_with fail
          refine HDR.out.mono ?_
          rintro e w9 ⟨rfl,L',a1,a2,a3,a4⟩
          have HP:=hid (show RefPost L (B+10000) E' w w9 from ⟨L',a1,HKK.out.trans a2,⟨a3.1,a3.2⟩,a4⟩)
          clear a1 a2 a3 a4 HDR
          go_wp2
          go_ret
          exact⟨rfl,HP.out⟩
        · have hwn:writesP t.vals≠[]:=by rw [HWS.out];exact hn
          have gl:(0:Int)<(ws.length:Int):=by have:=List.length_pos_iff.2 hn;omega
          have hkd:KeptO ({ L with hv:=v }:REnL).own ({ L with hv:=v }:REnL).own wr wr.drew:=KeptO.of_below (below_drewN (Below.refl _ wr) 1)
          have hAd:=HAj.out.below (w':=wr.drew) (below_drewN (Below.refl _ wr) 1)
          obtain⟨w6,hrun,hA6,hK6⟩:=hAd.setBy (a:=E.last+1) (x:=(i:Int)+1) (by unfold I64;omega) (by show R.nb≤_;omega)
          have hrun2:(Instr.mapUpdate 69 (.map (some L.mb)) (.int .i64 (E.last+1)) (.int .i64 ((i:Int)+1))).run Tryz.prog wr.drew=.ok () w6:=hrun
          have c14:wr.cell? ⟨L.R,14,none⟩=some (.map (some L.mb)):=HAj.out.c14
          have c1:wr.cell? ⟨L.R,1,none⟩=some (.int .i64 E.last):=by have:=HAj.out.sto.c1;simp only at this;rw [hlR] at this;exact this
          have c1b:w6.cell? ⟨L.R,1,none⟩=some (.int .i64 E.last):=by have:=hA6.sto.c1;simp only at this;rw [hlR] at this;exact this
          have ylt:L.R<wr.heap.size:=HAj.out.lt
          have ylt6:L.R<w6.heap.size:=hA6.lt
          have hA6d:=fun q=>hA6.below (w':=w6.drewN q) (below_drewN (Below.refl _ w6) q)
          have HK6:=hid (hkd.trans hK6)
          have HA6:=hid hA6
          have gw:IntKind.i64.wrap (E.last+1)=E.last+1:=IntWalk.i64_in _ (by omega)
          by_cases hf:1099511627776<E.last+1
          · have HIN:=hid (fun q=>refInst_order (P:=({ L with hv:=v }:REnL).tail R.step) (L.R+1) L.R R.last (E.last+1) L.lv (.slice adt ws.length capt) R.kept (w6.drewN q) (hA6d q).sto (.inr hf))
            have HINS:=hid (insR_full (i:=i) (r:=r) (R:=R) (E:=E) hwn hf)
            obtain⟨lz,hlz⟩:∃ lz,E.last=lz:=⟨_,rfl⟩
            rw [hlz] at hrun2 c1 c1b HIN gw HINS HA6
            clear hkd hAd hrun hA6 hK6 hA6d HAj heq hn hf hwn
            go_wp2
            go_region
            go_wp2
            refine region_quiet_at 10 (by kernel_rfl) (by kernel_rfl) (by kernel_rfl) (by kernel_rfl) (by kernel_rfl) (by kernel_rfl) (by kernel_rfl) ?_
            simp only [List.take_succ_cons,List.take_zero,List.drop_succ_cons,List.drop_zero]
            repeat (go_big_quiet_step (fail))
            refine wpQuiet_nil ?_
            intro _ hw'
            obtain⟨nq,hw2⟩:=hw'
            subst hw2
            go_wp2_with fail
            refine (HIN.out nq).mono ?_
            rintro e w7 ⟨rfl,hB7⟩
            have HB7:=hid ((below_drewN (Below.refl _ w6) nq).trans hB7)
            clear hB7
            obtain⟨t13,tf13,t1,tf1,t5,tf5,hne,hdr⟩:=HEND.out w7 v _ _ (HA6.out.below HB7.out) rfl rfl HINS.out
            have HZ:=hid (HA6.out.below HB7.out)
            have HK67:=hid (HK6.out.trans (KeptO.of_below HB7.out))
            clear HEND HINS HIN
            simp only at t13 hdr
            have tlt:=(Array.getElem?_eq_some_iff.1 HZ.out.blk).1
            simp only at tlt
            have HDR:=hid hdr
            have HKK:=hid (((KeptO.of_below HB1.out).trans HKj.out).trans HK67.out)
            have gs0:-9223372036854775808≤R.step+1:=by omega
            have gs1:R.step+1≤9223372036854775807:=by omega
            obtain⟨sp,hsp⟩:∃ sp,R.step=sp:=⟨_,rfl⟩
            rw [hsp] at t13 HDR gs0 gs1
            clear hdr hsp HZ HKj
            go_wp2_with fail
            refine HDR.out.mono ?_
            rintro e w9 ⟨rfl,L',a1,a2,a3,a4⟩
            have HP:=hid (show RefPost L (B+10000) E' w w9 from ⟨L',a1,HKK.out.trans a2,⟨a3.1,a3.2⟩,a4⟩)
            clear a1 a2 a3 a4 HDR
            go_wp2
            go_ret
            exact⟨rfl,HP.out⟩
          · obtain⟨gt,hwr,hadt,hgt,hgR⟩:∃ gt,Hid (∀ q,WRow (w6.drewN q) gt 0 ws)∧adt=some ⟨gt,0,none⟩∧gt<w6.heap.size∧gt≠L.R:=by
              rcases row_slice HO.out with ⟨e1,e2⟩ | ⟨gt,cap',e1,hg,hc⟩
              · exact (hn (List.eq_nil_of_length_eq_zero e2)).elim
              · have hob:(Value.slice adt ws.length capt).ownBlock=some gt:=by rw [e1];rfl
                have hb:=(HO.out.lt gt hob).1
                have hno:¬ L.own gt:=fun ho=>by have:=HOWN.out gt ho;omega
                have hsz:=HKj.out.size
                have hno2:¬ ({ L with hv:=v }:REnL).own gt:=fun ho=>by
                  rcases HKj.out.sub gt ho with h1 | h1
                  · exact hno h1
                  · omega
                have hblk:=(HK6.out.block gt (by omega) hno2).trans (HKj.out.block gt hg hno)
                have hsz6:=HK6.out.size
                refine⟨gt,fun q=>((vrow_wrow hc).same hblk).same ((below_drewN (Below.refl (w6.heap.size) w6) q).block gt (by omega)),by injection e1,by omega,fun e=>hno (.inl e)⟩
            subst hadt
            have HIN:=hid (fun q=>refInst_good (P:=({ L with hv:=v }:REnL).tail R.step) (L.R+1) L.R gt 0 capt R.last (E.last+1) L.lv R.kept ws (w6.drewN q) (hA6d q).sto (by have:=(hA6d q).lt;exact this) (hwr.out q) hgR (by simpa using hgt) HFN.out (by omega) (by omega) (by omega) (by omega))
            have HINS:=hid (insR_in (i:=i) (r:=r) (R:=R) (E:=E) hwn hf)
            have HSET:=hid (fun q (w7:World) (lv':Value) hS hK hsub=>(hA6d q).setSto (w':=w7) (lv':=lv') (last':=E.last+1) (kept':=R.kept++addTo (E.last+1) ws 10) hS hK hsub)
            rw [HWS.out] at HINS
            obtain⟨lz,hlz⟩:∃ lz,E.last=lz:=⟨_,rfl⟩
            rw [hlz] at hrun2 c1 c1b HIN gw HINS HA6 HSET
            clear hkd hAd hrun hA6 hK6 hA6d HAj heq hn hf hwn
            go_wp2
            go_region
            go_wp2
            refine region_quiet_at 10 (by kernel_rfl) (by kernel_rfl) (by kernel_rfl) (by kernel_rfl) (by kernel_rfl) (by kernel_rfl) (by kernel_rfl) ?_
            simp only [List.take_succ_cons,List.take_zero,List.drop_succ_cons,List.drop_zero]
            repeat (go_big_quiet_step (fail))
            refine wpQuiet_nil ?_
            intro _ hw'
            obtain⟨nq,hw2⟩:=hw'
            subst hw2
            go_wp2_with fail
            refine (HIN.out nq).mono ?_
            rintro e w7 ⟨rfl,lv',hS7,hK7,hg7⟩
            obtain⟨hZ7,hKZ7⟩:=HSET.out nq w7 lv' hS7 hK7 (fun g hg=>(hg7 g hg))
            obtain⟨t13,tf13,t1,tf1,t5,tf5,hne,hdr⟩:=HEND.out w7 v _ _ hZ7 rfl rfl HINS.out
            have HZ:=hid hZ7
            have HK67:=hid ((HK6.out.trans (KeptO.of_below (below_drewN (Below.refl _ w6) nq))).trans hKZ7)
            clear HEND HINS HIN HSET hS7 hK7 hg7 hZ7 hKZ7
            simp only at t13 hdr
            have tlt:=(Array.getElem?_eq_some_iff.1 HZ.out.blk).1
            simp only at tlt
            have HDR:=hid hdr
            have HKK:=hid (((KeptO.of_below HB1.out).trans HKj.out).trans HK67.out)
            have gs0:-9223372036854775808≤R.step+1:=by omega
            have gs1:R.step+1≤9223372036854775807:=by omega
            obtain⟨sp,hsp⟩:∃ sp,R.step=sp:=⟨_,rfl⟩
            rw [hsp] at t13 HDR gs0 gs1
            clear hdr hsp HZ HKj
            go_wp2_with fail
            refine HDR.out.mono ?_
            rintro e w9 ⟨rfl,L',a1,a2,a3,a4⟩
            have HP:=hid (show RefPost L (B+10000) E' w w9 from ⟨L',a1,HKK.out.trans a2,⟨a3.1,a3.2⟩,a4⟩)
            clear a1 a2 a3 a4 HDR
            go_wp2
            go_ret
            exact⟨rfl,HP.out⟩
end
end Go.Proofs.YtjefgmeejhakbaaGreatDoor
