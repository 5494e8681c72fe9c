/- The document's engine: Read, of the store, as at the beginning. -/
import Derived.Test.YtjefgmeejhakbaaGreatDoorFeReadM
namespace Go.Proofs.YtjefgmeejhakbaaGreatDoor
open Go.RowKit
section
variable {w w':World} {L:REnL} {B:Nat} {E E':Eng} {i:Nat} {t:Tx}
set_option maxRecDepth 100000 in
set_option maxHeartbeats 8000000 in
theorem rread_steady (hg:GoneOk 7) (h:RefAt w L B E) (hB:B+30000≤10000000) (hM:Mid2 E.ce noQ) (ht:E.txs[i]?=some t) (hs:t.state=0) {k:Nat} (hk:k<10) (hv:t.vals (k:Int)=none) {RR:(Int × Int) × Eng} (hR:readE 7 E i (k:Int)=some RR) (h0:t.level≠0) :
    Calls Tryz.prog 78 #[.pointer (some ⟨L.R,0,none⟩),.int .i64 ((i:Int)+1),.int .i64 (k:Int)] w fun e w'=>e=.returned (.tuple #[.int .i64 RR.1.1,.int .i64 RR.1.2])∧RefPost L (B+30000) RR.2 w w':=by
  obtain⟨i0,hi0,hz0,hz1,hz2⟩:=info_parts info90
  obtain⟨b,hb⟩:=h.place ht
  have HF:=hid (of_ok h true ht (fun _=>hs) hb)
  have hO:=h.owns (by omega) ht hb (k:Int)
  rw [hv] at hO
  simp only [Option.getD_none,Option.isSome_none] at hO
  have HO:=hid hO
  have hI:=in_any (k:Int) 0 9 w
  rw [show inB (k:Int) 0 9=true by simp only [inB,decide_eq_true_eq];omega] at hI
  have HI:=hid hI
  obtain⟨_,_,_,_,c0,c3,_⟩:=h.cells ht hb
  obtain⟨c1,hl0⟩:=h.lastc
  have hrd:=h.read (by omega) hk (seesP E t)
  have hvl:=h.ver_le hk (seesP E t)
  unfold readE at hR
  rw [ht] at hR
  simp only at hR
  rw [hv] at hR
  simp only at hR
  rw [if_neg (by simp [keyB];omega)] at hR
  obtain⟨⟨⟨a,x⟩,er⟩,hver⟩:∃ p,verP E (k:Int) (seesP E t)=p:=⟨_,rfl⟩
  rw [hver] at hrd hvl hR
  simp only at hrd hvl hR
  obtain⟨frm,hfrm⟩:∃ frm,(E.wr a).getD 0=frm:=⟨_,rfl⟩
  rw [hfrm] at hR
  obtain⟨E1,hE1⟩:∃ E1,E.setTx i (noteReadP t (k:Int) frm)=E1:=⟨_,rfl⟩
  rw [hE1] at hR
  have HRD:=hid hrd
  have HRF:=hid h
  have HT:=hid ht
  have HS:=hid hs
  have HB:=hid hb
  have HBB:=hid (show B≤10000000 by omega)
  have HAL:=hid hvl
  have HFRM:=hid hfrm
  have HBL:=hid (show b<w.heap.size from by
    obtain⟨R,hA,hRel⟩:=h
    obtain⟨r,hr,hX⟩:=hRel.getR ht
    obtain⟨l,hl,rfl⟩:=bs_getb hb
    exact (hA.txs i l r hl hr).lt)
  have HT1:=hid (show E1.txs[i]?=some (noteReadP t (k:Int) frm) from by rw [← hE1];exact setTx_get ht)
  have hsee:seesP E t=if t.level=0 then E.last else t.start:=rfl
  obtain⟨lv,hlv⟩:∃ lv,t.level=lv:=⟨_,rfl⟩
  obtain⟨st,hst⟩:∃ st,t.start=st:=⟨_,rfl⟩
  obtain⟨la,hla⟩:∃ la,E.last=la:=⟨_,rfl⟩
  rw [hlv] at c0 hsee h0 hR
  rw [hst] at c3 hsee
  rw [hla] at c1 hsee
  have HLV:=hid hlv
  have HST:=hid hst
  rw [if_neg h0] at hsee
  rw [hsee] at HRD
  have gl:(lv==0)=false:=by simpa using h0
  have HRR:=hid hR
  have HM:=hid hM
  have HV:=hid hv
  clear h hO hI ht hs hR hrd hvl hver hsee hlv hst hla hfrm hb hv hM
  go_enter Tryz.func78,Tryz.ntmps78
  go_wp2_with fail
  refine HF.out.mono ?_
  rintro e w1 ⟨rfl,hw1⟩
  rw [hw1]
  clear hw1 w1
  go_wp2_with fail
  refine HO.out.mono ?_
  rintro e w1 ⟨rfl,hw1⟩
  rw [hw1]
  clear hw1 w1
  go_wp2_with fail
  refine HI.out.mono ?_
  rintro e w1 ⟨rfl,hw1⟩
  rw [hw1]
  clear hw1 w1
  go_wp2_with fail
  refine HRD.out.mono ?_
  rintro e w1 ⟨rfl,hB1⟩
  have hs1:=hB1.size
  have h1:=HRF.out.below hB1
  have hB2:Below w1.heap.size w1 (w1.alloc (.cells #[.int .i64 a,.int .i64 x] 199)):=(Below.refl _ w1).alloc (Nat.le_refl _) _
  have h2:=h1.below hB2
  have bx:=heap_alloc_new w1 (.cells #[.int .i64 a,.int .i64 x] 199)
  have bx0:(w1.alloc (.cells #[.int .i64 a,.int .i64 x] 199)).cell? ⟨w1.heap.size,0,none⟩=some (.int .i64 a):=(cell_of_row _ w1.heap.size 0 _ _ (0,0) bx).trans rfl
  obtain⟨ad,n,cap,xs,hn,c6,f6,hbl,hrow,happ⟩:=readsA h2 HT.out HS.out HB.out HBB.out (k:=k) frm
  obtain⟨mb,c14,hlook⟩:=(h2.below (w':=(w1.alloc (.cells #[.int .i64 a,.int .i64 x] 199)).drew) (below_drewN (Below.refl _ _) 1)).by HAL.out
  rw [HFRM.out] at hlook
  have hbox:w1.heap.size≠b:=by
    have:=HBL.out
    omega
  have hbl1:b<w1.heap.size:=by
    have:=HBL.out
    omega
  have HB12:=hid (And.intro hB1 hB2)
  have HAPP:=hid happ
  have HRW:=hid hrow.drew
  have HNOB:=hid (show ¬ L.own w1.heap.size from fun ho=>by have:=HRF.out.own_lt ho;omega)
  clear h1 h2 bx hrow happ hB1 hB2 HRD
  go_wp2
  go_cut [] (fun wx=>∃ L1,Hid (RefAt wx L1 (B+1) E1)∧Hid (KeptO L.own L1.own (w1.alloc (.cells #[.int .i64 a,.int .i64 x] 199)) wx)∧Hid (HdE L1 L∧L1.bs=L.bs))
  case first =>
    go_region_law
      (refine step_append_lies _ (by rfl) _ _ _ (by rfl) 0 90 i0 _ 4 32 Tryz.underlying22 hi0 hz0 hz1 hz2 rfl (by omega) (.slice ad n cap) n xs (by rfl) (HRW.out.alloc _)
          ⟨w1.heap.size+1,0,none⟩ 1 1 [.int .i64 ((i:Int)+1),.int .i64 (k:Int),.bool false,.int .i64 frm] (by first | rfl | simp) (by rfl) (World.news_of_block (cs:=#[.int .i64 ((i:Int)+1),.int .i64 (k:Int),.bool false,.int .i64 frm]) (t:=90) (fr:=(0,0)) (alloc2_new w1 _ _)) (by simp [Value.oneCell'])
          (by omega) (by unfold maxLen;omega) (by omega) (by simp) (w1.heap.size+2) (by simp) ?_;intro gg cap' w2 ho2 hgrow2 hat2 hlt2
       obtain⟨cv6,fv6,hpost⟩:=HAPP.out _ w2 gg cap' (Below.alloc (below_drewN (Below.refl _ _) 1) (by simp) _) ho2 hgrow2 (hat2.imp id (fun e=>by simp;omega))
       rw [hE1] at hpost
       have HPOST:=hid hpost
       clear hpost ho2 hgrow2 hat2 hlt2)
    all_goals
      go_wp2_with fail
      go_meet
      obtain⟨L1,a1,a2,a3,a4⟩:=HPOST.out
      exact⟨L1,a1,a2,a3,a4⟩
  case rest =>
    obtain⟨L1,hA1,hK1,hH1⟩:=hcut
    have hb1:L1.bs[i]?=some b:=by rw [hH1.out.2];exact HB.out
    obtain⟨_,_,_,_,d0,d3,_⟩:=hA1.out.cells HT1.out hb1
    have bxc:wc.cell? ⟨w1.heap.size,1,none⟩=some (.int .i64 x):=by
      rw [World.cell?_of_block (a:=⟨w1.heap.size,1,none⟩) (hK1.out.block w1.heap.size (by simp) HNOB.out)]
      exact (cell_of_row _ w1.heap.size 1 _ _ (0,0) (heap_alloc_new w1 (.cells #[.int .i64 a,.int .i64 x] 199))).trans rfl
    simp only [noteReadP] at d0 d3
    by_cases h2:lv=2
    · subst h2
      rw [HLV.out] at d0
      rw [HST.out] at d3
      rw [if_pos rfl] at HRR
      have hnw:=(hA1.out.below (w':=wc.drew) (below_drewN (Below.refl _ _) 1)).newer (by omega) hk st
      have hnl:=hA1.out.newer_len hk st
      obtain⟨ts,hts⟩:∃ ts,newerP E1 (k:Int) st=ts:=⟨_,rfl⟩
      have hle:=fun (a:Int) (ha:a∈ts)=>hA1.out.newer_le hk (c:=st) (a:=a) (by rw [hts];exact ha)
      rw [hts] at hnw hnl
      rw [hH1.out.1.1] at hnw
      have HN:=hid hnw
      have HLE:=hid hle
      obtain⟨q1,EA,hq1⟩:∃ q1 EA,aheadTimes i ts E1=(q1,EA):=⟨_,_,rfl⟩
      have haow:aowP E1 i (k:Int)=if q1=true then (true,aheadEach i (thoseP EA (fun _ u=>writesB (k:Int) u)) EA) else (false,EA):=by
        unfold aowP
        rw [HT1.out]
        simp only [noteReadP]
        rw [HST.out,hts,hq1]
        cases q1<;>rfl
      have HRES:=hid (show (q1=true→RR=((x,er),aheadEach i (thoseP EA (fun _ u=>writesB (k:Int) u)) EA))∧(q1=false→∃ E',RR=((0,13),E')∧endF 7 (loseE EA i 13) i 3=some E') from by
        have hR:=HRR.out
        rw [haow] at hR
        refine⟨fun e=>by subst e;simp at hR;exact hR.symm,fun e=>?_⟩
        subst e
        simp only [Bool.false_eq_true,if_false] at hR
        obtain⟨E',h1,h2⟩:=Option.map_eq_some_iff.1 hR
        exact⟨E',h2.symm,h1⟩)
      have HQ1:=hid hq1
      have hE1s:E1.txs.map bareTx=E1.txs.map bareTx:=rfl
      have HMQ:=hid (show ∀ E6:Eng,E6.ce=E1.ce→Mid2 E6.ce noQ from fun E6 e=>by
        rw [e,← hE1]
        have:=ce_note (key:=(k:Int)) HT.out
        unfold noteE at this
        have hx:(E.setTx i (noteReadP t (k:Int) frm)).ce=E.ce:=ce_set_id HT.out (by rfl)
        rw [hx]
        exact HM.out)
      have HKc:=hid (((KeptO.of_below HB12.out.1).trans (KeptO.of_below HB12.out.2)).trans hK1.out)
      have HH1:=hid hH1.out
      have HA1:=hid hA1.out
      have hnoc:Hid (¬ L1.own w1.heap.size∧w1.heap.size<wc.heap.size):=by
        have h1:=hK1.out.size
        simp at h1
        refine⟨fun ho=>?_,by omega⟩
        rcases hK1.out.sub _ ho with h2 | h2
        · exact HNOB.out h2
        · simp at h2
          omega
      have HNL:=hid hnl
      have htl:ts.length≤9971:=by omega
      clear haow hq1 hts hnw hnl hle hA1 hK1 hH1 hb1 HRR HNOB HB12
      go_wp2
      go_region_held3 (fun W=>W.cell? ⟨b,3,none⟩=some (.int .i64 st))
        (first | go_keep | exact y3)
        (first | (go_at_call 136
                  refine HN.out.mono ?_
                  rintro e w3 ⟨tv,rfl,ho,hB3⟩
                  have hB4:=(below_drewN (Below.refl _ wc) 1).trans hB3
                  have y3:w3.cell? ⟨b,3,none⟩=some (.int .i64 st):=by
                    obtain⟨_,_,_,_,_,q3,_⟩:=(HA1.out.below hB4).cells HT1.out (show L1.bs[i]?=some b by rw [HH1.out.2];exact HB.out)
                    simp only [noteReadP] at q3
                    rw [HST.out] at q3
                    exact q3
                  obtain⟨ad3,cap3,hv3⟩:=row_form ho
                  subst hv3
                  have HO3:=hid ho
                  have HB4:=hid hB4
                  clear ho hB3 hB4))
      have hadg:Hid (∀ j a,ts[j]?=some a→∃ g,ad3=some ⟨g,0,none⟩∧¬ L1.own g∧g<w3.heap.size∧w3.cell? ⟨g,j,none⟩=some (.int .i64 a)):=fun j a ha=>by
        rcases row_slice HO3.out with ⟨e1,e2⟩ | ⟨g,cap',e1,hg,hc⟩
        · have:=(List.getElem?_eq_some_iff.1 ha).1;omega
        · have hgb:=(HO3.out.lt g (by rw [e1];rfl)).1
          injection e1 with e1
          exact⟨g,e1,fun hog=>by have:=HA1.out.own_lt hog;simp at hgb;omega,hg,hc j _ (by rw [intsV,List.getElem?_map,ha];rfl)⟩
      go_wp2
      go_loopw [105] (fun iv wr=>∃ (j:Nat) (Lj:REnL) (Ej:Eng),j≤ts.length∧iv=.int .i64 j∧Hid (RefAt wr Lj (B+1+2*j) Ej)∧Hid (aheadTimes i (ts.drop j) Ej=(q1,EA))∧Hid (Ej.ce=E1.ce)∧Hid (KeptO L1.own Lj.own w3 wr)∧Hid (HdE Lj L∧Lj.bs=L.bs)) (fun iv _=>ts.length-(intOf iv).toNat)
      case atStart=>exact⟨0,L1,E1,by omega,rfl,HA1.out.below HB4.out,hid (by simpa using HQ1.out),rfl,hid (KeptO.refl _ _),HH1⟩
      case round =>
        obtain⟨j,Lj,Ej,hj,rfl,HEJ,HRS,HCE,HKJ,HHJ⟩:=hrel
        have hti:∃ ti,Ej.txs[i]?=some ti∧cor ti=cor (noteReadP t (k:Int) frm):=cs_of (by rw [HCE.out];exact cs_get HT1.out)
        obtain⟨ti,hti,hcti⟩:=hti
        have hti2:ti.level=2∧ti.state=0:=⟨by have:=congrArg Cor.level hcti;exact this.trans HLV.out,by have:=congrArg Cor.state hcti;exact this.trans HS.out⟩
        have hbi:Lj.bs[i]?=some b:=by rw [HHJ.out.2];exact HB.out
        by_cases hlt:j<ts.length
        · obtain⟨aj,haj⟩:∃ aj,ts[j]?=some aj:=⟨ts[j],List.getElem?_eq_getElem hlt⟩
          obtain⟨g,e1,hng,hgl,hc⟩:=hadg.out j aj haj
          subst e1
          have q1':=(World.cell?_of_block (a:=⟨g,j,none⟩) (HKJ.out.block g hgl hng)).trans hc
          have hale:=HLE.out aj (List.mem_of_getElem? haj)
          have hdrop:ts.drop j=aj::ts.drop (j+1):=by
            rw [List.drop_eq_getElem_cons hlt]
            congr 1
            rw [List.getElem?_eq_getElem hlt] at haj
            injection haj
          have hlast:Ej.last=E1.last:=congrArg CE.last HCE.out
          obtain⟨mb2,c14,hlook⟩:=HEJ.out.by (a:=aj) (by rw [hlast];exact hale)
          rw [HHJ.out.1.1] at c14
          have hj0:(0:Int)≤(j:Int):=by omega
          have hj1:(j:Int)<(ts.length:Int):=by omega
          have hrs:=HRS.out
          rw [hdrop] at hrs
          unfold aheadTimes at hrs
          cases hwa:Ej.wr aj with
          | none =>
            rw [hwa] at hlook hrs
            simp only [Option.getD_none] at hlook hrs
            rw [show strictOf Ej 0=none by unfold strictOf;rw [if_neg (by omega)]] at hrs
            have HR2:=hid hrs
            clear hwa hrs hdrop hc haj hale hti hcti hti2 hbi
            go_wp2
            go_roundw
            case rel=>exact⟨j+1,Lj,Ej,by omega,by go_num,HEJ.out.mono (by omega),HR2.out,HCE,HKJ,HHJ⟩
            case measure=>simp [intOf];omega
          | some xx =>
            obtain⟨m,u,rfl,hu,hu2⟩:=HEJ.out.wrc hwa
            rw [hwa] at hlook hrs
            simp only [Option.getD_some] at hlook hrs
            obtain⟨bm,hbm⟩:=HEJ.out.place hu
            obtain⟨g2,cap2,hav,hcm,c12,hl200⟩:=HEJ.out.place2 hu hbm
            rw [hav,HHJ.out.1.1] at c12
            have hml:=(List.getElem?_eq_some_iff.1 hu).1
            obtain⟨nt,hnt⟩:∃ nt,Ej.txs.length=nt:=⟨_,rfl⟩
            rw [hnt] at c12 hml hl200
            have gby:(0:Int)<(m:Int)+1:=by omega
            have gs:IntKind.i64.wrap ((m:Int)+1-1)=(m:Int):=by rw [show (m:Int)+1-1=(m:Int) by omega];exact IntWalk.i64_in _ (by omega)
            have gm0:(0:Int)≤(m:Int):=by omega
            have gm1:(m:Int)<(nt:Int):=by omega
            have hsc:=HEJ.out.strict hu hbm
            rw [hu2] at hsc
            have hso:strictOf Ej ((m:Int)+1)=if u.level=2 then some m else none:=by
              unfold strictOf
              rw [if_pos (by rw [hnt];omega),show ((m:Int)+1-1).toNat=m by omega,hu]
            rw [hso] at hrs
            by_cases hl2:u.level=2
            · rw [if_pos hl2] at hrs
              simp only at hrs
              rw [hl2] at hsc
              have hsc2:Calls Tryz.prog 137 #[.pointer (some ⟨bm,0,none⟩)] wr fun e w'=>e=.returned (.bool true)∧w'=wr:=hsc
              have HSC:=hid hsc2
              have him:i≠m:=fun e=>by subst e;rw [hti] at hu;cases hu;omega
              have hah:=rahead_ref HEJ.out (by omega) him hti hu hti2.1 hl2 (by rw [hti2.2];decide) (by rw [hu2];decide) hbi hbm
              obtain⟨pb,E6,hp6⟩:∃ pb E6,putAheadP Ej i m=(pb,E6):=⟨_,_,rfl⟩
              have hce6:E6.ce=E1.ce:=by have:=ce_putAhead Ej i m;rw [hp6] at this;exact this.trans HCE.out
              rw [hp6] at hah hrs
              have HAH:=hid hah
              cases pb with
              | true =>
                have HR2:=hid hrs
                have HC6:=hid hce6
                clear hwa hrs hdrop hc haj hale hti hcti hti2 hbi hu hu2 hav hso hsc hsc2 hah hp6 hce6 hl2 him hnt
                go_wp2_with fail
                refine HSC.out.mono ?_
                rintro e w5 ⟨rfl,hw5⟩
                rw [hw5]
                clear hw5 w5
                go_wp2_with fail
                refine HAH.out.mono ?_
                rintro e w6 ⟨rfl,⟨L6,hA6,hK6,hR6,hb6⟩,_,_⟩
                have HF6:=hid (show RefAt w6 L6 (B+1+2*(j+1)) E6∧KeptO L1.own L6.own w3 w6∧HdE L6 L∧L6.bs=L.bs from ⟨hA6.mono (by omega),HKJ.out.trans hK6,hR6.trans HHJ.out.1,hb6.trans HHJ.out.2⟩)
                clear hA6 hK6 hR6 hb6 HAH
                go_wp2
                go_roundw
                case rel=>exact⟨j+1,L6,E6,by omega,by go_num,HF6.out.1,HR2.out,HC6,HF6.out.2.1,HF6.out.2.2⟩
                case measure=>simp [intOf];omega
              | false =>
                simp only at hrs
                injection hrs with hb0 hEA
                obtain⟨E',hRR,hE'⟩:=HRES.out.2 hb0.symm
                obtain⟨t6,ht6,hct6⟩:∃ t6,E6.txs[i]?=some t6∧cor t6=cor (noteReadP t (k:Int) frm):=cs_of (by rw [hce6];exact cs_get HT1.out)
                have hl6:liveB t6.state=true:=by have:=congrArg Cor.state hct6;rw [show t6.state=0 from this.trans HS.out];rfl
                have HGN:=hid (fun (W:World) (L6:REnL) (hA6:RefAt W L6 (B+1+2*j+2) E6)=>hg W L6 (B+1+2*j+2) E6 E' i t6 13 noQ hA6 (by omega) (HMQ.out E6 hce6) (HMQ.out E6 hce6).live7 ht6 hl6 (fun h=>h) (by rw [show E6=EA from hEA];exact hE'))
                have HRR:=hid hRR
                clear hwa hdrop hc haj hale hti hcti hti2 hbi hu hu2 hav hso hsc hsc2 hah hp6 hce6 hl2 him hnt hb0 hEA hRR hE' ht6 hct6 hl6
                go_wp2_with fail
                refine HSC.out.mono ?_
                rintro e w5 ⟨rfl,hw5⟩
                rw [hw5]
                clear hw5 w5
                go_wp2_with fail
                refine HAH.out.mono ?_
                rintro e w6 ⟨rfl,⟨L6,hA6,hK6,hR6,hb6⟩,_,_⟩
                have hgn:=HGN.out w6 L6 hA6
                rw [(hR6.trans HHJ.out.1).1] at hgn
                have HG6:=hid hgn
                have HF6:=hid (show KeptO L1.own L6.own w3 w6∧HdE L6 L∧L6.bs=L.bs from ⟨HKJ.out.trans hK6,hR6.trans HHJ.out.1,hb6.trans HHJ.out.2⟩)
                clear hA6 hK6 hR6 hb6 HAH hgn HGN
                go_wp2_with fail
                refine HG6.out.mono ?_
                rintro e w8 ⟨rfl,L8,hA8,hK8,hR8,hb8⟩
                have HF8:=hid (show RefPost L (B+30000) RR.2 w w8 from by
                  rw [HRR.out]
                  exact⟨L8,hA8.mono (by have:=HNL.out;omega),((HKc.out.trans (KeptO.of_below HB4.out)).trans HF6.out.1).trans hK8,hR8.trans HF6.out.2.1,hb8.trans HF6.out.2.2⟩)
                clear hA8 hK8 hR8 hb8 HG6
                go_wp2
                go_ret2
                rw [HRR.out]
                exact⟨rfl,by rw [HRR.out] at HF8;exact HF8.out⟩
            · rw [if_neg hl2] at hrs
              simp only at hrs
              have hsc2:Calls Tryz.prog 137 #[.pointer (some ⟨bm,0,none⟩)] wr fun e w'=>e=.returned (.bool false)∧w'=wr:=by
                rw [show (u.level==2&&(2:Int) != 3)=false by simp [hl2]] at hsc
                exact hsc
              have HSC:=hid hsc2
              have HR2:=hid hrs
              clear hwa hrs hdrop hc haj hale hti hcti hti2 hbi hu hu2 hav hso hsc hsc2 hl2 hnt
              go_wp2_with fail
              refine HSC.out.mono ?_
              rintro e w5 ⟨rfl,hw5⟩
              rw [hw5]
              clear hw5 w5
              go_wp2
              go_roundw
              case rel=>exact⟨j+1,Lj,Ej,by omega,by go_num,HEJ.out.mono (by omega),HR2.out,HCE,HKJ,HHJ⟩
              case measure=>simp [intOf];omega
        · have hjl:j=ts.length:=by omega
          have hrs:=HRS.out
          rw [hjl,List.drop_length] at hrs
          simp only [aheadTimes] at hrs
          injection hrs with hq hE
          have hRRf:=HRES.out.1 hq.symm
          obtain⟨ad5,cap5,hav,c12,hl200⟩:=HEJ.out.av
          obtain⟨nt,hnt⟩:∃ nt,Ej.txs.length=nt:=⟨_,rfl⟩
          rw [hnt] at hav hl200
          rw [hav,HHJ.out.1.1] at c12
          have bxr:wr.cell? ⟨w1.heap.size,1,none⟩=some (.int .i64 x):=by
            have hs3:=HB4.out.size
            rw [World.cell?_of_block (a:=⟨w1.heap.size,1,none⟩) (HKJ.out.block w1.heap.size (by have:=hnoc.out.2;omega) hnoc.out.1),World.cell?_of_block (a:=⟨w1.heap.size,1,none⟩) (HB4.out.block w1.heap.size hnoc.out.2)]
            exact bxc
          have HNOX:=hid (show ¬ Lj.own w1.heap.size∧w1.heap.size<wr.heap.size from by
            have hs3:=HB4.out.size
            have hs4:=HKJ.out.size
            refine⟨fun ho=>?_,by have:=hnoc.out.2;omega⟩
            rcases HKJ.out.sub _ ho with h1 | h1
            · exact hnoc.out.1 h1
            · have:=hnoc.out.2
              omega)
          have HKA:=hid ((HKc.out.trans (KeptO.of_below HB4.out)).trans HKJ.out)
          have HLAV:=hid (show L.av=.slice ad5 nt cap5 from by rw [← HHJ.out.1.2];exact hav)
          obtain⟨EF,hEF⟩:∃ EF,aheadEach i (thoseP EA (fun _ u=>writesB (k:Int) u)) EA=EF:=⟨_,rfl⟩
          rw [hEF] at hRRf
          have HRRF:=hid hRRf
          have HEF:=hid (show aheadEach i (restP EA (fun _ u=>writesB (k:Int) u) 0) EA=EF from hEF)
          have hEAl:EA.txs.length=nt:=by rw [← hE];exact hnt
          have HEAL:=hid hEAl
          have HCA:=hid (show EA.ce=E1.ce from by rw [← hE];exact HCE.out)
          have HEA:=hid (show RefAt wr Lj (B+1+2*ts.length) EA from by rw [← hE,← hjl];exact HEJ.out)
          have hj1:¬ (j:Int)<(ts.length:Int):=by omega
          clear hq hE hRRf hav hnt hEF hEAl HEJ HRS HCE HKJ hti hcti hti2 hbi hjl hlt
          rename World=>wA
          go_wp2
          go_loopw [149] (fun iv wr=>∃ (j2:Nat) (L2:REnL) (E2:Eng),j2≤nt∧iv=.int .i64 j2∧Hid (RefAt wr L2 (B+1+2*ts.length+2*j2) E2)∧Hid (aheadEach i (restP EA (fun _ u=>writesB (k:Int) u) j2) E2=EF)∧Hid (E2.ce=EA.ce)∧Hid (KeptO Lj.own L2.own wA wr)∧Hid (HdE L2 L∧L2.bs=L.bs)) (fun iv _=>nt-(intOf iv).toNat)
          case atStart=>exact⟨0,Lj,EA,by omega,rfl,HEA,HEF,rfl,hid (KeptO.refl _ _),HHJ⟩
          case round =>
            obtain⟨j2,L2,E2,hj2,rfl,HEJ,HRS,HCE,HKJ,HHJ2⟩:=hrel
            by_cases hlt:j2<nt
            · obtain⟨uA,huA⟩:∃ uA,EA.txs[j2]?=some uA:=⟨EA.txs[j2]'(by rw [HEAL.out];exact hlt),List.getElem?_eq_getElem _⟩
              obtain⟨u,hu,hcu⟩:∃ u,E2.txs[j2]?=some u∧cor u=cor uA:=cs_of (by rw [HCE.out];exact cs_get huA)
              obtain⟨ti,hti,hcti⟩:∃ ti,E2.txs[i]?=some ti∧cor ti=cor (noteReadP t (k:Int) frm):=cs_of (by rw [HCE.out,HCA.out];exact cs_get HT1.out)
              have hti2:ti.level=2∧ti.state=0∧ti.vals (k:Int)=none:=⟨by have:=congrArg Cor.level hcti;exact this.trans HLV.out,by have:=congrArg Cor.state hcti;exact this.trans HS.out,by have:=congrArg Cor.vals hcti;rw [show ti.vals=t.vals from this];exact HV.out⟩
              have hbi:L2.bs[i]?=some b:=by rw [HHJ2.out.2];exact HB.out
              obtain⟨bj,hbj⟩:=HEJ.out.place hu
              obtain⟨g6,cap6,hav6,hcj,_,_⟩:=HEJ.out.place2 hu hbj
              have hl2:E2.txs.length=nt:=by
                have:=congrArg (fun C:CE=>C.cs.length) HCE.out
                simp [Eng.ce] at this
                rw [this,HEAL.out]
              rw [HHJ2.out.1.2,HLAV.out,hl2] at hav6
              have e5:ad5=some ⟨g6,0,none⟩:=by injection hav6
              subst e5
              have hwb:writesB (k:Int) uA=writesB (k:Int) u:=by
                have f1:u.vals=uA.vals:=by have:=congrArg Cor.vals hcu;exact this
                have f2:u.level=uA.level:=by have:=congrArg Cor.level hcu;exact this
                have f3:u.state=uA.state:=by have:=congrArg Cor.state hcu;exact this
                unfold writesB
                rw [f1,f2,f3]
              have hstep:=restP_step (p:=fun _ u=>writesB (k:Int) u) huA
              rw [hwb] at hstep
              have how:=HEJ.out.owns (by omega) hu hbj (k:Int)
              have hac:=HEJ.out.alive hu hbj
              have hsc:=HEJ.out.strict hu hbj
              have hnq:=HEJ.out.neq hu hti hbj hbi
              have hj0:(0:Int)≤(j2:Int):=by omega
              have hj1:(j2:Int)<(nt:Int):=by omega
              have hrs:=HRS.out
              rw [hstep] at hrs
              have HNO:=hid (fun (h0:writesB (k:Int) u=false)=>show aheadEach i (restP EA (fun _ u=>writesB (k:Int) u) (j2+1)) E2=EF from by rw [h0] at hrs;exact hrs)
              have HYES:=hid (fun (h0:writesB (k:Int) u=true)=>show j2≠i∧aheadEach i (restP EA (fun _ u=>writesB (k:Int) u) (j2+1)) (putAheadP E2 i j2).2=EF∧(putAheadP E2 i j2).2.ce=EA.ce∧Calls Tryz.prog 138 #[.pointer (some ⟨b,0,none⟩),.pointer (some ⟨bj,0,none⟩)] wr fun e w'=>e=.returned (.bool (!(putAheadP E2 i j2).1))∧RefPost L2 (B+1+2*ts.length+2*j2+2) (putAheadP E2 i j2).2 wr w' from by
                rw [h0,if_pos rfl] at hrs
                unfold aheadEach at hrs
                have hc:=h0
                unfold writesB at hc
                simp only [Bool.and_eq_true,beq_iff_eq] at hc
                have hne:j2≠i:=fun e=>by subst e;rw [hti] at hu;cases hu;rw [hti2.2.2] at hc;cases hc.1
                have hl3:u.state≠3:=by rcases live_iff.1 hc.2.2 with e | e<;>omega
                refine⟨hne,hrs,(ce_putAhead E2 i j2).trans HCE.out,?_⟩
                refine (rahead_ref HEJ.out (by omega) (Ne.symm hne) hti hu hti2.1 hc.2.1 (by rw [hti2.2.1];decide) hl3 hbi hbj).mono ?_
                rintro e w6 ⟨h1,h2,_⟩
                exact⟨h1,h2⟩)
              unfold writesB at HNO HYES
              obtain⟨va,hva⟩:∃ va,(u.vals (k:Int)).getD 0=va:=⟨_,rfl⟩
              obtain⟨vb,hvb⟩:∃ vb,(u.vals (k:Int)).isSome=vb:=⟨_,rfl⟩
              rw [hva,hvb] at how
              rw [hvb] at HNO HYES
              obtain⟨al,hal⟩:∃ al,liveB u.state=al:=⟨_,rfl⟩
              rw [hal] at hac HNO HYES
              obtain⟨sb,hsb⟩:∃ sb,(u.level==2&&u.state != 3)=sb:=⟨_,rfl⟩
              have hls:al=true→(u.level==2)=sb:=fun e=>by
                subst e
                rw [← hsb]
                have:(u.state != 3)=true:=by rcases live_iff.1 hal with e | e<;>rw [e]<;>rfl
                rw [this,Bool.and_true]
              rw [hsb] at hsc
              have HOW:=hid how
              have HAC:=hid hac
              have HSC:=hid hsc
              have HLS:=hid hls
              obtain⟨ne,hne⟩:∃ ne,decide (j2≠i)=ne:=⟨_,rfl⟩
              rw [hne] at hnq
              have HVN:=hid (show vb=true→ne=true from fun e=>by
                rw [← hne]
                refine decide_eq_true (fun e'=>?_)
                subst e'
                rw [hti] at hu
                cases hu
                rw [← hvb,hti2.2.2] at e
                cases e)
              clear huA hu hcu hti hcti hti2 hbi hav6 hl2 hwb hstep how hac hsc hrs hva hvb hal hsb hls hne hbj
              cases vb with
              | false =>
                go_wp2_with fail
                refine HOW.out.mono ?_
                rintro e w5 ⟨rfl,hw5⟩
                rw [hw5]
                clear hw5 w5
                go_wp2
                go_roundw
                case rel=>exact⟨j2+1,L2,E2,by omega,by go_num,hid (HEJ.out.mono (by omega)),hid (HNO.out (by rfl)),HCE,HKJ,HHJ2⟩
                case measure=>simp [intOf];omega
              | true =>
                have hne:=HVN.out rfl
                subst hne
                cases al with
                | false =>
                  go_wp2_with fail
                  refine HOW.out.mono ?_
                  rintro e w5 ⟨rfl,hw5⟩
                  rw [hw5]
                  clear hw5 w5
                  go_wp2_with fail
                  refine HAC.out.mono ?_
                  rintro e w5 ⟨rfl,hw5⟩
                  rw [hw5]
                  clear hw5 w5
                  go_wp2
                  go_roundw
                  case rel=>exact⟨j2+1,L2,E2,by omega,by go_num,hid (HEJ.out.mono (by omega)),hid (HNO.out (by simp)),HCE,HKJ,HHJ2⟩
                  case measure=>simp [intOf];omega
                | true =>
                  cases sb with
                  | false =>
                    have hl2f:=HLS.out rfl
                    go_wp2_with fail
                    refine HOW.out.mono ?_
                    rintro e w5 ⟨rfl,hw5⟩
                    rw [hw5]
                    clear hw5 w5
                    go_wp2_with fail
                    refine HAC.out.mono ?_
                    rintro e w5 ⟨rfl,hw5⟩
                    rw [hw5]
                    clear hw5 w5
                    go_wp2_with fail
                    refine HSC.out.mono ?_
                    rintro e w5 ⟨rfl,hw5⟩
                    rw [hw5]
                    clear hw5 w5
                    go_wp2
                    go_roundw
                    case rel=>exact⟨j2+1,L2,E2,by omega,by go_num,hid (HEJ.out.mono (by omega)),hid (HNO.out (by rw [hl2f];rfl)),HCE,HKJ,HHJ2⟩
                    case measure=>simp [intOf];omega
                  | true =>
                    have hl2f:=HLS.out rfl
                    obtain⟨_,hr3,hc3,hah⟩:=HYES.out (by rw [hl2f];rfl)
                    obtain⟨pb,E6,hp6⟩:∃ pb E6,putAheadP E2 i j2=(pb,E6):=⟨_,_,rfl⟩
                    rw [hp6] at hr3 hc3 hah
                    have HR3:=hid hr3
                    have HC3:=hid hc3
                    have HAH:=hid hah
                    clear hr3 hc3 hah hp6 hl2f HYES HNO
                    go_wp2_with fail
                    refine HOW.out.mono ?_
                    rintro e w5 ⟨rfl,hw5⟩
                    rw [hw5]
                    clear hw5 w5
                    go_wp2_with fail
                    refine HAC.out.mono ?_
                    rintro e w5 ⟨rfl,hw5⟩
                    rw [hw5]
                    clear hw5 w5
                    go_wp2_with fail
                    refine HSC.out.mono ?_
                    rintro e w5 ⟨rfl,hw5⟩
                    rw [hw5]
                    clear hw5 w5
                    go_wp2_with fail
                    refine HAH.out.mono ?_
                    rintro e w6 ⟨rfl,L6,hA6,hK6,hR6,hb6⟩
                    have HF6:=hid (show RefAt w6 L6 (B+1+2*ts.length+2*(j2+1)) E6∧KeptO Lj.own L6.own wA w6∧HdE L6 L∧L6.bs=L.bs from ⟨hA6.mono (by omega),HKJ.out.trans hK6,hR6.trans HHJ2.out.1,hb6.trans HHJ2.out.2⟩)
                    clear hA6 hK6 hR6 hb6 HAH
                    go_wp2
                    go_roundw
                    case rel=>exact⟨j2+1,L6,E6,by omega,by go_num,HF6.out.1,HR3,HC3,HF6.out.2.1,HF6.out.2.2⟩
                    case measure=>simp [intOf];omega
            · have hjn:j2=nt:=by omega
              have hrs:=HRS.out
              rw [hjn,← HEAL.out,restP_end] at hrs
              simp only [aheadEach] at hrs
              have bxf:wr.cell? ⟨w1.heap.size,1,none⟩=some (.int .i64 x):=(World.cell?_of_block (a:=⟨w1.heap.size,1,none⟩) (HKJ.out.block w1.heap.size HNOX.out.2 HNOX.out.1)).trans bxr
              have HP:=hid (show RefPost L (B+30000) RR.2 w wr from by
                rw [HRRF.out]
                show RefPost L (B+30000) EF w wr
                rw [← hrs]
                exact⟨L2,HEJ.out.mono (by omega),HKA.out.trans HKJ.out,HHJ2.out.1,HHJ2.out.2⟩)
              have hj1:¬ (j2:Int)<(nt:Int):=by omega
              clear hrs hjn HEJ HRS HCE HKJ
              go_wp2
              go_ret2
              refine⟨?_,HP.out⟩
              rw [HRRF.out]
              rfl
    · have hR:=HRR.out
      rw [if_neg h2] at hR
      injection hR with hR
      have HR1:=hid (show RR.1=(x,er) from by rw [← hR])
      have HR2:=hid (show RR.2=E1 from by rw [← hR])
      have gl2:(lv==2)=false:=by simpa using h2
      clear hR
      rw [HLV.out] at d0
      have HP:=hid (show RefPost L (B+30000) RR.2 w wc from by
        rw [HR2.out]
        exact⟨L1,hA1.out.mono (by omega),((KeptO.of_below HB12.out.1).trans (KeptO.of_below HB12.out.2)).trans hK1.out,hH1.out.1,hH1.out.2⟩)
      clear hA1 hK1 hH1 hb1 d3
      go_wp2
      go_ret2
      rw [HR1.out]
      exact⟨rfl,HP.out⟩
end
end Go.Proofs.YtjefgmeejhakbaaGreatDoor
