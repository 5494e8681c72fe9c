/- The document's engine: puts, by a strict one. -/
import Derived.Test.YtjefgmeejhakbaaGreatDoorMgBC
import Derived.Test.YtjefgmeejhakbaaGreatDoorMgAX
namespace Go.Proofs.YtjefgmeejhakbaaGreatDoor
open Go.RowKit
section
variable {f:Nat}
set_option maxRecDepth 100000 in
set_option maxHeartbeats 16000000 in
theorem puts_strict (hgone:GoneOk f) {w:World} {L:REnL} {B:Nat} {E:Eng} {i:Nat} {t:Tx} {Q:Nat→Prop} {RR:Int × Eng} (hA:RefAt w L B E) (hBB:B+402≤10000000) (ht:E.txs[i]?=some t) (hs:t.state=0) (hk:0≤t.wk∧t.wk<10) (hq:¬ Q i) (hM:Mid2 (putE E i).2.ce Q) (hlv:(putE E i).2.ce.live≤f) (hW:writeR (endF f) E i=some RR)
    (h2:t.level=2) (hnew:newerP E t.wk t.start=[]) :
    Calls Tryz.prog 141 #[.pointer (some ⟨L.R,0,none⟩),.int .i64 ((i:Int)+1),.agg #[.int .i64 t.wk,.int .i64 t.wv]] w fun e w'=>e=.returned (.tuple #[])∧RefPost L (B+402) RR.2 w w':=by
  obtain⟨i0,hi0,hz0,hz1,hz2⟩:=info_parts info78
  obtain⟨R,hRA,hRel⟩:=hA
  obtain⟨r,hr,hX⟩:=hRel.getR ht
  obtain⟨k,hkk⟩:∃ k:Nat,t.wk=(k:Int):=⟨t.wk.toNat,by omega⟩
  have hk10:k<10:=by omega
  obtain⟨vx,hvx⟩:∃ vx,t.wv=vx:=⟨_,rfl⟩
  obtain⟨st,hst⟩:∃ st,t.start=st:=⟨_,rfl⟩
  have hB1:Below w.heap.size w (w.alloc (.cells #[.int .i64 (k:Int),.int .i64 vx] 78)):=(Below.refl _ w).alloc (Nat.le_refl _) _
  have hbx0:=heap_alloc_new w (.cells #[.int .i64 (k:Int),.int .i64 vx] 78)
  obtain⟨wB,hwB⟩:∃ wB,w.alloc (.cells #[.int .i64 (k:Int),.int .i64 vx] 78)=wB:=⟨_,rfl⟩
  rw [hwB] at hB1 hbx0
  have hsB:wB.heap.size=w.heap.size+1:=by rw [← hwB];simp
  have hRA0:=hRA.below hB1
  obtain⟨l,g,cap,hl,hT,hav,hcp⟩:=hRA0.place hr
  have c12:=hRA0.c12
  rw [hav] at c12
  have bx0:wB.cell? ⟨w.heap.size,0,none⟩=some (.int .i64 (k:Int)):=(cell_of_row _ w.heap.size 0 _ _ (0,0) hbx0).trans rfl
  have bx1:wB.cell? ⟨w.heap.size,1,none⟩=some (.int .i64 vx):=(cell_of_row _ w.heap.size 1 _ _ (0,0) hbx0).trans rfl
  have c3:wB.cell? ⟨l.b,3,none⟩=some (.int .i64 st):=(hT.cell 3).trans (by show some (Value.int .i64 r.start)=_;rw [hX.start,hst])
  have c0:wB.cell? ⟨l.b,0,none⟩=some (.int .i64 2):=(hT.cell 0).trans (by show some (Value.int .i64 r.level)=_;rw [hX.level,h2])
  have hi:=(List.getElem?_eq_some_iff.1 hr).1
  have hlen:=hRel.len
  have hle:=hRel.le
  obtain⟨m,hm⟩:∃ m,R.txs.length=m:=⟨_,rfl⟩
  have hm200:m≤200:=by omega
  rw [hm] at c12 hi hav
  have gs:IntKind.i64.wrap ((i:Int)+1-1)=(i:Int):=by rw [show (i:Int)+1-1=(i:Int) by omega];exact IntWalk.i64_in _ (by omega)
  have g0:(0:Int)≤(i:Int):=by omega
  have g1:(i:Int)<(m:Int):=by omega
  simp only [ptrV] at hcp
  have hRf:RefAt wB L B E:=⟨R,hRA0,hRel⟩
  have hN:=(hRf.below (w':=wB.drew) (below_drewN (Below.refl _ _) 1)).newer (by omega) hk10 st
  rw [show newerP E (k:Int) st=[] by rw [← hkk,← hst];exact hnew] at hN
  have HN:=hid hN
  have hlb:=hT.lt
  have hB1s:=hB1.size
  have c7:wB.cell? ⟨l.b,7,none⟩=some l.ow:=(hT.cell 7).trans rfl
  have how:=hT.ow
  obtain⟨ado,capo,hfo⟩:=row_form how
  obtain⟨no,hno⟩:∃ no,r.own.length=no:=⟨_,rfl⟩
  have hno':no≤10000000:=by rw [← hno];exact Nat.le_trans (hRel.szR hr).2.1 (by omega)
  rw [hno] at hfo how
  rw [hfo] at c7 how
  have HOW:=hid how
  have hE1:=hRel.put ht hr hs
  obtain⟨E1,hE1e⟩:∃ E1,E.setTx i { t with vals:=updT t.vals t.wk (some t.wv) }=E1:=⟨_,rfl⟩
  obtain⟨bb,EB,hbp⟩:∃ bb EB,behindP E1 i (k:Int)=(bb,EB):=⟨_,_,rfl⟩
  have hput1:putE E i=(if bb=true then 0 else 13,EB):=by
    unfold putE
    rw [ht]
    simp only
    rw [if_neg (by rw [hnew];simp),if_pos h2,hE1e,hkk,hbp]
    cases bb<;>rfl
  rw [hE1e,hkk,hvx] at hE1
  rw [hput1] at hM hlv
  have ht1:E1.txs[i]?=some { t with vals:=updT t.vals t.wk (some t.wv) }:=by rw [← hE1e];exact setTx_get ht
  have hE1l:E1.txs.length=m:=by rw [← hE1e,setTx_len];omega
  rw [hkk,hvx]
  have HPA:=hid (fun (w1:World) (hB3:Below wB.heap.size wB w1) (w2:World) (gg cap':Nat) (ho:w2.ownsRow 0 78 2 (.slice (some ⟨gg,0,none⟩) (no+1) cap') (no+1) (vrow r.own++[.int .i64 (k:Int),.int .i64 vx])) (hg:(w1.drew.alloc (.cells #[.int .i64 (k:Int),.int .i64 vx] 78)).grownBy w2 (Value.slice ado no capo).ownBlock) (hat:(Value.slice ado no capo).ownBlock=some gg∨gg=w1.heap.size+1) =>
    show w2.cell? ⟨l.b,7,none⟩=some (.slice ado no capo)∧w2.frozen? ⟨l.b,7,none⟩=false∧w2.cell? ⟨l.b,0,none⟩=some (.int .i64 2)∧w2.cell? ⟨L.R,12,none⟩=some (.slice (some ⟨g,0,none⟩) m cap)∧∃ L1,RefAt (w2.setCell ⟨l.b,7,none⟩ (.slice (some ⟨gg,0,none⟩) (no+1) cap')) L1 (B+1) E1∧KeptO L.own L1.own w1 (w2.setCell ⟨l.b,7,none⟩ (.slice (some ⟨gg,0,none⟩) (no+1) cap'))∧HdE L1 L∧L1.bs=L.bs from by
    have hd:Below w1.heap.size w1 (w1.drew.alloc (.cells #[.int .i64 (k:Int),.int .i64 vx] 78)):=(below_drewN (Below.refl _ w1) 1).alloc (by simp) _
    have hA3:=hRA0.below hB3
    have:=putsA hA3 hl hr hfo hno hd ho hg (hat.imp id (fun e=>by omega))
    obtain⟨a1,a2,a3,L1,a4,a5,a6,a7⟩:=this
    have hne:(Value.slice ado no capo).ownBlock≠some L.R:=fun e=>by
      obtain⟨ρ,T⟩:=hA3.tag
      have q1:=T.txr i l 1 L.R hl (by decide) (by show l.ow.ownBlock=_;rw [hfo];exact e)
      rw [T.eng] at q1
      cases q1
    have hRl:=hA3.lt
    have hds:=hd.size
    have hbk:w2.heap[L.R]?=w1.heap[L.R]?:=(hg.block L.R (by omega) (fun e=>hne e.symm)).trans (hd.block L.R hRl)
    refine⟨a1,a2,by rw [show r.level=2 by rw [hX.level,h2]] at a3;exact a3,?_,L1,⟨_,a4,hE1⟩,a5,a6,a7⟩
    rw [World.cell?_of_block (a:=⟨L.R,12,none⟩) hbk,hA3.c12,hav])
  have hnoB:¬ L.own w.heap.size:=fun ho=>by have:=hRA.own_lt ho;omega
  have HRES:=hid (show (bb=true→RR=(0,EB))∧(bb=false→∃ E',RR=(13,E')∧endF f (loseE EB i 13) i 3=some E') from by
    unfold writeR at hW
    rw [hput1] at hW
    simp only at hW
    refine⟨fun e=>by subst e;simpa using hW.symm,fun e=>?_⟩
    subst e
    simp only [Bool.false_eq_true,if_false] at hW
    rw [if_neg (by decide)] at hW
    cases he:endF f (loseE EB i 13) i 3 with
    | none=>rw [he] at hW;cases hW
    | some E2=>rw [he] at hW;simp at hW;exact⟨E2,hW.symm,rfl⟩)
  have HM:=hid (And.intro hM hlv)
  have HBP:=hid hbp
  have HB1:=hid hB1
  have HAV:=hid hav
  have HT1:=hid ht1
  have HE1L:=hid hE1l
  have HBI:=hid (rbs_get hl)
  have HS:=hid hs
  have H2:=hid h2
  clear hRA hRel hr hX hT hav hRA0 hRf hM hlv hW hput1 hnew ht hs hl hst hm hlen hle hbx0 hB1 hE1 hE1e ht1 how hfo hno hN hbp hi hE1l h2 hk
  subst hwB
  go_enter Tryz.func141,Tryz.ntmps141
  go_wp2
  go_region_held3 (fun W=>W.cell? ⟨w.heap.size,0,none⟩=some (.int .i64 (k:Int))∧W.cell? ⟨l.b,3,none⟩=some (.int .i64 st))
    (first | go_keep | exact⟨y1,y2⟩)
    (first | (go_at_call 136
              refine HN.out.mono ?_
              rintro e w1 ⟨tv,rfl,ho,hB2⟩
              have hB3:=(below_drewN (Below.refl _ (w.alloc (.cells #[.int .i64 (k:Int),.int .i64 vx] 78))) 1).trans hB2
              have y1:w1.cell? ⟨w.heap.size,0,none⟩=some (.int .i64 (k:Int)):=(hB3.cell (p:=⟨w.heap.size,0,none⟩) (by simp)).trans bx0
              have y3:w1.cell? ⟨w.heap.size,1,none⟩=some (.int .i64 vx):=(hB3.cell (p:=⟨w.heap.size,1,none⟩) (by simp)).trans bx1
              have y2:w1.cell? ⟨l.b,3,none⟩=some (.int .i64 st):=(hB3.cell (p:=⟨l.b,3,none⟩) hlb).trans c3
              have y0:w1.cell? ⟨l.b,0,none⟩=some (.int .i64 2):=(hB3.cell (p:=⟨l.b,0,none⟩) hlb).trans c0
              have y7:w1.cell? ⟨l.b,7,none⟩=some (.slice ado no capo):=(hB3.cell (p:=⟨l.b,7,none⟩) hlb).trans c7
              obtain⟨ad,cap3,rfl⟩:=row_form ho
              have hs1:=hB3.size
              have hlb1:l.b<w1.heap.size:=by omega
              have hbx1:w.heap.size<w1.heap.size:=by simp at hs1;omega
              have hrow:=owns_same HOW.out (fun g hg=>hB3.block g (HOW.out.lt g hg).2)
              have HB3:=hid hB3
              have HRW:=hid hrow.drew
              clear ho hB2 hB3 hrow))
  go_wp2
  go_region_law
    (refine step_append_lies _ (by rfl) _ _ _ (by rfl) 0 78 i0 _ 2 16 Tryz.underlying23 hi0 hz0 hz1 hz2 rfl (by omega) (.slice ado no capo) no (vrow r.own) (by rfl) (HRW.out.alloc _)
        ⟨w1.heap.size,0,none⟩ 1 1 [.int .i64 (k:Int),.int .i64 vx] (by rfl) (by rfl) (World.news_of_block (cs:=#[.int .i64 (k:Int),.int .i64 vx]) (t:=78) (fr:=(0,0)) (heap_alloc_new w1.drew _)) (by simp [Value.oneCell'])
        (by omega) (by unfold maxLen;omega) (by omega) (by simp) (w1.heap.size+1) (by simp) ?_;intro gg cap' w2 ho2 hgrow2 hat2 hlt2
     obtain⟨cv7,fv7,cv0,cv12,L1,hx1,hk1,hR1,hb1⟩:=HPA.out w1 HB3.out w2 gg cap' ho2 hgrow2 hat2
     have HX1:=hid hx1
     have HK1:=hid hk1
     have HB1':=hid (And.intro hR1 hb1)
     clear hx1 hk1 hR1 hb1 ho2 hgrow2 hat2 hlt2)
  all_goals
    obtain⟨W2,hW2⟩:∃ W2,w2.setCell ⟨l.b,7,none⟩ (.slice (some ⟨gg,0,none⟩) (no+1) cap')=W2:=⟨_,rfl⟩
    rw [hW2] at HX1 HK1 ⊢
    have q12:W2.cell? ⟨L.R,12,none⟩=some (.slice (some ⟨g,0,none⟩) m cap):=by
      obtain⟨R1,hA1,hRel1⟩:=HX1.out
      have:=hA1.c12
      rw [HB1'.out.1.1,HB1'.out.1.2,HAV.out] at this
      exact this
    have q0:W2.cell? ⟨l.b,0,none⟩=some (.int .i64 2):=by
      obtain⟨R1,hA1,hRel1⟩:=HX1.out
      obtain⟨r1,hr1,hX1⟩:=hRel1.getR HT1.out
      obtain⟨l1,hl1,hlb1'⟩:=bs_getb (show L1.bs[i]?=some l.b by rw [HB1'.out.2];exact HBI.out)
      have:=(hA1.txs i l1 r1 hl1 hr1).cell 0
      rw [hlb1'] at this
      refine this.trans ?_
      show some (Value.int .i64 r1.level)=_
      rw [hX1.level]
      show some (Value.int .i64 t.level)=_
      rw [H2.out]
    clear hW2 cv7 fv7 cv0 cv12 w2 y0 y2 y7 y3 c0 c3 c7 bx1 c12 HRW HN HOW HPA
    go_wp2
    go_loopw [68] (fun iv wr=>∃ (j:Nat) (Lj:REnL) (Ej:Eng),j≤m∧iv=.int .i64 j∧RefAt wr Lj (B+1+2*j) Ej∧aheadAll (fun x=>(x,i)) (restP E1 (hasReadB (k:Int) i) j) Ej=(bb,EB)∧Ej.txs.map bareTx=E1.txs.map bareTx∧KeptO L.own Lj.own w1 wr∧HdE Lj L∧Lj.bs=L.bs) (fun iv _=>m-(intOf iv).toNat)
    case atStart=>exact⟨0,L1,E1,by omega,rfl,HX1.out,HBP.out,rfl,HK1.out,HB1'.out.1,HB1'.out.2⟩
    case round =>
      obtain⟨j,Lj,Ej,hj,rfl,hEj,hrest,hbare,hKj,hHd,hbj⟩:=hrel
      rename World=>wo
      by_cases hlt:j<m
      · have hbx:wo.heap[w.heap.size]?=w1.heap[w.heap.size]?:=hKj.block w.heap.size hbx1 hnoB
        have bx:wo.cell? ⟨w.heap.size,0,none⟩=some (.int .i64 (k:Int)):=(World.cell?_of_block (a:=⟨w.heap.size,0,none⟩) hbx).trans y1
        obtain⟨tj1,htj1⟩:∃ tj1,E1.txs[j]?=some tj1:=⟨E1.txs[j]'(by rw [HE1L.out];exact hlt),List.getElem?_eq_getElem _⟩
        obtain⟨tj,htj,hbt⟩:=bare_get hbare htj1
        obtain⟨ti,hti,hbti⟩:=bare_get hbare HT1.out
        have hEl:=bare_len hbare
        obtain⟨Rj,hRj,hRelj⟩:=hEj
        obtain⟨rj,hrj,hXj⟩:=hRelj.getR htj
        obtain⟨ri,hri,hXi⟩:=hRelj.getR hti
        obtain⟨lj,gj,capj,hlj,hTj,havj,hcpj⟩:=hRj.place hrj
        have hRl:Rj.txs.length=m:=by rw [hRelj.len,hEl];exact HE1L.out
        rw [hHd.2,HAV.out,hRl] at havj
        have e1:gj=g:=by injection havj with e1 _ _;injection e1 with e1;injection e1 with e1;exact e1.symm
        subst e1
        clear havj
        simp only [ptrV] at hcpj
        have z6:wo.cell? ⟨lj.b,6,none⟩=some lj.rd:=(hTj.cell 6).trans rfl
        obtain⟨adr,capr,hfr⟩:=row_form hTj.rd
        obtain⟨nr,hnr⟩:∃ nr,rj.reads.length=nr:=⟨_,rfl⟩
        have hzj:=hRelj.szR hrj
        have hnr':nr≤10000000:=by rw [← hnr];exact Nat.le_trans hzj.1 (by omega)
        have hrd:=hTj.rd
        rw [hnr] at hfr hrd
        rw [hfr] at z6 hrd
        have HRD:=hid hrd
        have hj0:(0:Int)≤(j:Int):=by omega
        have hj1:(j:Int)<(m:Int):=by omega
        have HREF:=hid (show RefAt wo Lj (B+1+2*j) Ej from ⟨Rj,hRj,hRelj⟩)
        have hobox:w.heap.size<wo.heap.size:=Nat.lt_of_lt_of_le hbx1 hKj.size
        clear hbx
        go_wp2
        go_loopw [11,77] (fun fv iv wr=>∃ a:Nat,a≤nr∧iv=.int .i64 a∧fv=.bool ((rj.reads.take a).any (fun o=>o.2.1==(k:Int)))∧Below wo.heap.size wo wr) (fun _ iv _=>nr-(intOf iv).toNat)
        case atStart=>exact⟨0,by omega,rfl,rfl,Below.refl _ _⟩
        case round =>
          obtain⟨a,ha,rfl,rfl,hBq⟩:=hrel
          by_cases hla:a<nr
          · obtain⟨⟨o0,o1,o2,o3⟩,ho⟩:∃ o,rj.reads[a]?=some o:=⟨rj.reads[a]'(by omega),List.getElem?_eq_getElem _⟩
            rcases row_slice HRD.out with ⟨_,e0⟩ | ⟨gr,cr,er,hgr,hcr⟩
            · omega
            · have e2:adr=some ⟨gr,0,none⟩:=by injection er
              subst e2
              have hvs:=opsV_get rj.reads a _ ho
              have d0:=(hBq.cell (p:=⟨gr,a*4,none⟩) hgr).trans (hcr _ _ hvs.1)
              have d1:=(hBq.cell (p:=⟨gr,a*4+1,none⟩) hgr).trans (hcr _ _ hvs.2.1)
              have d2:=(hBq.cell (p:=⟨gr,a*4+2,none⟩) hgr).trans (hcr _ _ hvs.2.2.1)
              have d3:=(hBq.cell (p:=⟨gr,a*4+3,none⟩) hgr).trans (hcr _ _ hvs.2.2.2)
              simp only at d0 d1 d2 d3
              have bxq:=(hBq.cell (p:=⟨w.heap.size,0,none⟩) hobox).trans bx
              have hBq2:Below wo.heap.size wo (wr.alloc (.cells #[.int .i64 o0,.int .i64 o1,.bool o2,.int .i64 o3] 90)):=hBq.alloc hBq.size _
              have hne3:w.heap.size<wr.heap.size:=Nat.lt_of_lt_of_le hobox hBq.size
              have HST:=hid (any_take_succ ho (k:Int))
              have ha0:(0:Int)≤(a:Int):=by omega
              have ha1:(a:Int)<(nr:Int):=by omega
              have HBQ2:=hid hBq2
              clear ho hcr er hgr hvs hBq2 hBq
              obtain⟨p,hp⟩:∃ p,(rj.reads.take a).any (fun o=>o.2.1==(k:Int))=p:=⟨_,rfl⟩
              rw [hp] at HST ⊢
              clear hp
              cases p with
              | true =>
                go_wp2
                go_roundw
                case rel=>exact⟨a+1,by omega,by go_num,by rw [HST.out];rfl,HBQ2.out⟩
                case measure=>simp [intOf];omega
              | false =>
                go_wp2
                go_roundw
                case rel=>exact⟨a+1,by omega,by go_num,by rw [HST.out];rfl,HBQ2.out⟩
                case measure=>simp [intOf];omega
          · have hBq':=hBq
            obtain rfl:a=nr:=by omega
            have ha1:¬ (a:Int)<(a:Int):=by omega
            have hany:(rj.reads.take a).any (fun o=>o.2.1==(k:Int))=rj.reads.any (fun o=>o.2.1==(k:Int)):=by rw [← hnr,List.take_length]
            obtain⟨rd,hrdv⟩:∃ rd,rj.reads.any (fun o=>o.2.1==(k:Int))=rd:=⟨_,rfl⟩
            rw [hany,hrdv]
            have hbi:Lj.bs[i]?=some l.b:=by rw [hbj];exact HBI.out
            obtain⟨li,hli,hlib⟩:=bs_getb hbi
            have hTi:=hRj.txs i li ri hli hri
            have z5:wr.cell? ⟨lj.b,5,none⟩=some (.int .i64 rj.over):=((hTj.below hBq).cell 5).trans rfl
            have z4:wr.cell? ⟨l.b,4,none⟩=some (.int .i64 ri.begun):=by have:=((hTi.below hBq).cell 4).trans rfl;rw [hlib] at this;exact this
            have HSC:=hid (fun q=>rstrict_any ((hTj.below hBq).below (w':=wr.drewN q) (below_drewN (Below.refl _ _) q)))
            have HAC:=hid (fun q=>ralive_any ((hTj.below hBq).below (w':=wr.drewN q) (below_drewN (Below.refl _ _) q)))
            have hNQ:=fun q=>((HREF.out.below hBq).below (w':=wr.drewN q) (below_drewN (Below.refl _ _) q)).neq htj hti (rbs_get hlj) hbi
            have hhr:=hRelj.hasRead (i:=i) htj hri hrj hk10
            rw [hrdv] at hhr
            have hh1:hasReadB (k:Int) i j tj1=hasReadB (k:Int) i j tj:=by
              have f1:tj.seen=tj1.seen:=by have:=congrArg Tx.seen hbt;exact this
              have f2:tj.level=tj1.level:=by have:=congrArg Tx.level hbt;exact this
              have f3:tj.state=tj1.state:=by have:=congrArg Tx.state hbt;exact this
              have f4:tj.bae=tj1.bae:=by have:=congrArg Tx.bae hbt;exact this
              unfold hasReadB wasOverB
              rw [f1,f2,f3,f4]
            have hstep:=restP_step (p:=hasReadB (k:Int) i) htj1
            rw [hh1] at hstep
            have HNO:=hid (fun (h0:hasReadB (k:Int) i j tj=false)=>show aheadAll (fun x=>(x,i)) (restP E1 (hasReadB (k:Int) i) (j+1)) Ej=(bb,EB) from by rw [hstep,h0] at hrest;exact hrest)
            have hti2:ti.level=2∧ti.state=0:=⟨by have:=congrArg Tx.level hbti;exact this.trans H2.out,by have:=congrArg Tx.state hbti;exact this.trans HS.out⟩
            have HYES:=hid (fun (h0:hasReadB (k:Int) i j tj=true)=>show (((putAheadP Ej j i).1=true→aheadAll (fun x=>(x,i)) (restP E1 (hasReadB (k:Int) i) (j+1)) (putAheadP Ej j i).2=(bb,EB))∧((putAheadP Ej j i).1=false→bb=false∧(putAheadP Ej j i).2=EB)∧(putAheadP Ej j i).2.txs.map bareTx=E1.txs.map bareTx∧∃ t6,(putAheadP Ej j i).2.txs[i]?=some t6∧liveB t6.state=true) ∧
                (∀ W,Below wo.heap.size wo W→Calls Tryz.prog 138 #[.pointer (some ⟨lj.b,0,none⟩),.pointer (some ⟨l.b,0,none⟩)] W fun e w'=>e=.returned (.bool (!(putAheadP Ej j i).1))∧RefPost Lj (B+1+2*j+2) (putAheadP Ej j i).2 W w'∧w'.cell? ⟨lj.b,5,none⟩=W.cell? ⟨lj.b,5,none⟩∧w'.cell? ⟨l.b,4,none⟩=W.cell? ⟨l.b,4,none⟩)∧(∀ (W:World) (L6:REnL) (B6:Nat),RefAt W L6 B6 (putAheadP Ej j i).2→L6.bs=Lj.bs→(binOp .neq 171 (.pointer (some ⟨lj.b,0,none⟩)) (.pointer (some ⟨l.b,0,none⟩))).run Tryz.prog W=.ok (.bool true) W) from by
              rw [hstep,h0,if_pos rfl] at hrest
              unfold aheadAll at hrest
              have hc:=h0
              unfold hasReadB at hc
              simp only [Bool.and_eq_true,decide_eq_true_eq,beq_iff_eq] at hc
              refine⟨⟨fun e=>?_,fun e=>?_,(putAhead_bare Ej j i).trans hbare,?_⟩,fun W hBW=>rahead_ref (HREF.out.below hBW) (by omega) hc.2.1 htj hti hc.2.2.1 hti2.1 hc.2.2.2.1 (by rw [hti2.2];decide) (rbs_get hlj) hbi,fun W L6 B6 hA6 hb6=>?_⟩
              · rcases hpp:putAheadP Ej j i with ⟨pb,E6⟩
                rw [hpp] at hrest e
                simp only at e
                subst e
                exact hrest
              · rcases hpp:putAheadP Ej j i with ⟨pb,E6⟩
                rw [hpp] at hrest e
                simp only at e
                subst e
                simp only at hrest
                injection hrest with h1 h2
                exact⟨h1.symm,h2⟩
              · obtain⟨t6,ht6,hb6⟩:=bare_get (putAhead_bare Ej j i) hti
                exact⟨t6,ht6,by have:=congrArg Tx.state hb6;rw [show t6.state=ti.state from this,hti2.2];rfl⟩
              · obtain⟨t6,ht6,_⟩:=bare_get (putAhead_bare Ej j i) hti
                obtain⟨t7,ht7,_⟩:=bare_get (putAhead_bare Ej j i) htj
                have:=hA6.neq ht7 ht6 (by rw [hb6];exact rbs_get hlj) (by rw [hb6];exact hbi)
                rw [show decide (j≠i)=true by simpa using hc.2.1] at this
                exact this)
            obtain⟨sb,hsb⟩:∃ sb,(rj.level==2&&rj.state != 3)=sb:=⟨_,rfl⟩
            obtain⟨al,hal⟩:∃ al,liveB rj.state=al:=⟨_,rfl⟩
            obtain⟨ob,hob⟩:∃ ob,decide (ri.begun<rj.over)=ob:=⟨_,rfl⟩
            obtain⟨ne,hne⟩:∃ ne,decide (j≠i)=ne:=⟨_,rfl⟩
            rw [hsb,hal,hob,hne] at hhr
            rw [hsb] at HSC
            rw [hal] at HAC
            rw [hne] at hNQ
            have HHR:=hid hhr
            have HBQ:=hid hBq
            have HBARE:=hid hbare
            have HKJ:=hid hKj
            have HHD:=hid (And.intro hHd hbj)
            obtain⟨bg,hbg⟩:∃ bg,ri.begun=bg:=⟨_,rfl⟩
            obtain⟨ov,hov⟩:∃ ov,rj.over=ov:=⟨_,rfl⟩
            rw [hbg] at z4 hob
            rw [hov] at z5 hob
            clear hrest hbare hKj hHd hbj hRj hRelj hrj hri hXj hXi hlj hTj hli hTi htj hti htj1 hbt hbti hEl hRl hzj hnr hfr hrd hBq hBq' hstep hhr hh1 hany hrdv hsb hal hne hbg hov hti2 hbi hlib HRD hcpj z6
            go_wp2
            cases rd with
            | false =>
              go_quiet (first | (go_at_call 137;refine Calls.quiet_of_same (HSC.out _)) | (go_at_call 133;refine Calls.quiet_of_same (HAC.out _)))
              go_wp2
              go_roundw
              case rel=>exact⟨j+1,Lj,Ej,by omega,by go_num,(HREF.out.below (below_drewN HBQ.out _)).mono (by omega),HNO.out (by rw [HHR.out];rfl),HBARE.out,HKJ.out.trans (KeptO.of_below (below_drewN HBQ.out _)),HHD.out.1,HHD.out.2⟩
              case measure=>simp [intOf];omega
            | true =>
              cases ne with
              | false =>
                go_quiet (first | (go_at_call 137;refine Calls.quiet_of_same (HSC.out _)) | (go_at_call 133;refine Calls.quiet_of_same (HAC.out _)))
                go_wp2
                go_roundw
                case rel=>exact⟨j+1,Lj,Ej,by omega,by go_num,(HREF.out.below (below_drewN HBQ.out _)).mono (by omega),HNO.out (by rw [HHR.out];rfl),HBARE.out,HKJ.out.trans (KeptO.of_below (below_drewN HBQ.out _)),HHD.out.1,HHD.out.2⟩
                case measure=>simp [intOf];omega
              | true =>
                cases sb with
                | false =>
                  go_quiet (first | (go_at_call 137;refine Calls.quiet_of_same (HSC.out _)) | (go_at_call 133;refine Calls.quiet_of_same (HAC.out _)))
                  go_wp2
                  go_roundw
                  case rel=>exact⟨j+1,Lj,Ej,by omega,by go_num,(HREF.out.below (below_drewN HBQ.out _)).mono (by omega),HNO.out (by rw [HHR.out];rfl),HBARE.out,HKJ.out.trans (KeptO.of_below (below_drewN HBQ.out _)),HHD.out.1,HHD.out.2⟩
                  case measure=>simp [intOf];omega
                | true =>
                  cases al with
                  | true =>
                    clear hob
                    obtain⟨hyes,hAH,hNQ6⟩:=HYES.out (by rw [HHR.out];rfl)
                    obtain⟨pb,E6,hp6⟩:∃ pb E6,putAheadP Ej j i=(pb,E6):=⟨_,_,rfl⟩
                    rw [hp6] at hyes hAH hNQ6
                    have HY:=hid hyes
                    have HAH:=hid hAH
                    have HNQ6:=hid hNQ6
                    have hNQ1:(binOp .neq 171 (.pointer (some ⟨lj.b,0,none⟩)) (.pointer (some ⟨l.b,0,none⟩))).run Tryz.prog wr.drew=.ok (.bool true) wr.drew:=hNQ 1
                    clear hyes hAH hp6 hNQ6 HYES HNO
                    cases pb with
                    | true =>
                      refine region_quiet_at 28 (by kernel_rfl) (by kernel_rfl) (by kernel_rfl) (by kernel_rfl) (by kernel_rfl) (by kernel_rfl) (by kernel_rfl) ?_
                      simp only [List.take_succ_cons,List.take_zero,List.drop_succ_cons,List.drop_zero]
                      repeat (go_big_quiet_step (first | (go_at_call 137;refine Calls.quiet_of_same (HSC.out _)) | (go_at_call 133;refine Calls.quiet_of_same (HAC.out _))))
                      refine wpQuiet_nil ?_
                      intro _ hw'
                      obtain⟨nq,hw2⟩:=hw'
                      subst hw2
                      go_wp2_with fail
                      refine (HAH.out (wr.drewN nq) (below_drewN HBQ.out nq)).mono ?_
                      rintro e w6 ⟨rfl,⟨L6,hA6,hK6,hR6,hb6⟩,_,_⟩
                      have HF6:=hid (show RefAt w6 L6 (B+1+2*j+2) E6∧KeptO L.own L6.own w1 w6∧HdE L6 L∧L6.bs=L.bs from ⟨hA6,(HKJ.out.trans (KeptO.of_below (below_drewN HBQ.out nq))).trans hK6,hR6.trans HHD.out.1,hb6.trans HHD.out.2⟩)
                      clear hA6 hK6 hR6 hb6
                      all_goals
                        go_wp2
                        go_roundw
                        case rel=>exact⟨j+1,L6,E6,by omega,by go_num,HF6.out.1.mono (by omega),HY.out.1 (by first | rfl | trivial),HY.out.2.2.1,HF6.out.2.1,HF6.out.2.2.1,HF6.out.2.2.2⟩
                        case measure=>simp [intOf];omega
                    | false =>
                      obtain⟨hb0,hEB⟩:=HY.out.2.1 (by first | rfl | trivial)
                      obtain⟨E',hRR,hE'⟩:=HRES.out.2 hb0
                      obtain⟨t6,ht6,hl6⟩:=HY.out.2.2.2
                      have HGN:=hid (fun (W:World) (L6:REnL) (hA6:RefAt W L6 (B+1+2*j+2) E6)=>hgone W L6 (B+1+2*j+2) E6 E' i t6 13 Q hA6 (by omega) (by rw [show E6=EB from hEB];exact HM.out.1) (by rw [show E6=EB from hEB];exact HM.out.2) ht6 hl6 hq (by rw [show E6=EB from hEB];exact hE'))
                      have HRR:=hid hRR
                      clear hb0 hEB hRR hE' ht6 hl6
                      refine region_quiet_at 28 (by kernel_rfl) (by kernel_rfl) (by kernel_rfl) (by kernel_rfl) (by kernel_rfl) (by kernel_rfl) (by kernel_rfl) ?_
                      simp only [List.take_succ_cons,List.take_zero,List.drop_succ_cons,List.drop_zero]
                      repeat (go_big_quiet_step (first | (go_at_call 137;refine Calls.quiet_of_same (HSC.out _)) | (go_at_call 133;refine Calls.quiet_of_same (HAC.out _))))
                      refine wpQuiet_nil ?_
                      intro _ hw'
                      obtain⟨nq,hw2⟩:=hw'
                      subst hw2
                      go_wp2_with fail
                      refine (HAH.out (wr.drewN nq) (below_drewN HBQ.out nq)).mono ?_
                      rintro e w6 ⟨rfl,⟨L6,hA6,hK6,hR6,hb6⟩,_,_⟩
                      have HF6:=hid (show RefAt w6 L6 (B+1+2*j+2) E6∧KeptO L.own L6.own w1 w6∧HdE L6 L∧L6.bs=L.bs from ⟨hA6,(HKJ.out.trans (KeptO.of_below (below_drewN HBQ.out nq))).trans hK6,hR6.trans HHD.out.1,hb6.trans HHD.out.2⟩)
                      clear hA6 hK6 hR6 hb6
                      all_goals
                        have HG6:=hid (HGN.out w6 L6 HF6.out.1)
                        rw [HF6.out.2.2.1.1] at HG6
                        go_wp2_with fail
                        refine HG6.out.mono ?_
                        rintro e w8 ⟨rfl,L8,hA8,hK8,hR8,hb8⟩
                        have HF8:=hid (show RefPost L (B+402) RR.2 w w8 from by
                          rw [HRR.out]
                          exact⟨L8,hA8.mono (by omega),(((KeptO.of_below HB1.out).trans (KeptO.of_below HB3.out)).trans HF6.out.2.1).trans hK8,hR8.trans HF6.out.2.2.1,hb8.trans HF6.out.2.2.2⟩)
                        clear hA8 hK8 hR8 hb8 HG6 HGN
                        go_wp2
                        refine bodyPost_ret (results_none rfl _ _ _) rfl ?_
                        exact⟨rfl,HF8.out⟩
                  | false =>
                    cases ob with
                    | false =>
                      have gob:¬ bg<ov:=by simpa using hob
                      clear hob
                      go_quiet (first | (go_at_call 137;refine Calls.quiet_of_same (HSC.out _)) | (go_at_call 133;refine Calls.quiet_of_same (HAC.out _)))
                      go_wp2
                      go_roundw
                      case rel=>exact⟨j+1,Lj,Ej,by omega,by go_num,(HREF.out.below (below_drewN HBQ.out _)).mono (by omega),HNO.out (by rw [HHR.out];rfl),HBARE.out,HKJ.out.trans (KeptO.of_below (below_drewN HBQ.out _)),HHD.out.1,HHD.out.2⟩
                      case measure=>simp [intOf];omega
                    | true =>
                      have gob:bg<ov:=by simpa using hob
                      clear hob
                      obtain⟨hyes,hAH,hNQ6⟩:=HYES.out (by rw [HHR.out];rfl)
                      obtain⟨pb,E6,hp6⟩:∃ pb E6,putAheadP Ej j i=(pb,E6):=⟨_,_,rfl⟩
                      rw [hp6] at hyes hAH hNQ6
                      have HY:=hid hyes
                      have HAH:=hid hAH
                      have HNQ6:=hid hNQ6
                      have hNQ1:(binOp .neq 171 (.pointer (some ⟨lj.b,0,none⟩)) (.pointer (some ⟨l.b,0,none⟩))).run Tryz.prog wr.drew=.ok (.bool true) wr.drew:=hNQ 1
                      clear hyes hAH hp6 hNQ6 HYES HNO
                      cases pb with
                      | true =>
                        refine region_quiet_at 28 (by kernel_rfl) (by kernel_rfl) (by kernel_rfl) (by kernel_rfl) (by kernel_rfl) (by kernel_rfl) (by kernel_rfl) ?_
                        simp only [List.take_succ_cons,List.take_zero,List.drop_succ_cons,List.drop_zero]
                        repeat (go_big_quiet_step (first | (go_at_call 137;refine Calls.quiet_of_same (HSC.out _)) | (go_at_call 133;refine Calls.quiet_of_same (HAC.out _))))
                        refine wpQuiet_nil ?_
                        intro _ hw'
                        obtain⟨nq,hw2⟩:=hw'
                        subst hw2
                        go_wp2_with fail
                        refine (HAH.out (wr.drewN nq) (below_drewN HBQ.out nq)).mono ?_
                        rintro e w6 ⟨rfl,⟨L6,hA6,hK6,hR6,hb6⟩,_,_⟩
                        have HF6:=hid (show RefAt w6 L6 (B+1+2*j+2) E6∧KeptO L.own L6.own w1 w6∧HdE L6 L∧L6.bs=L.bs from ⟨hA6,(HKJ.out.trans (KeptO.of_below (below_drewN HBQ.out nq))).trans hK6,hR6.trans HHD.out.1,hb6.trans HHD.out.2⟩)
                        clear hA6 hK6 hR6 hb6
                        all_goals
                          go_wp2
                          go_roundw
                          case rel=>exact⟨j+1,L6,E6,by omega,by go_num,HF6.out.1.mono (by omega),HY.out.1 (by first | rfl | trivial),HY.out.2.2.1,HF6.out.2.1,HF6.out.2.2.1,HF6.out.2.2.2⟩
                          case measure=>simp [intOf];omega
                      | false =>
                        obtain⟨hb0,hEB⟩:=HY.out.2.1 (by first | rfl | trivial)
                        obtain⟨E',hRR,hE'⟩:=HRES.out.2 hb0
                        obtain⟨t6,ht6,hl6⟩:=HY.out.2.2.2
                        have HGN:=hid (fun (W:World) (L6:REnL) (hA6:RefAt W L6 (B+1+2*j+2) E6)=>hgone W L6 (B+1+2*j+2) E6 E' i t6 13 Q hA6 (by omega) (by rw [show E6=EB from hEB];exact HM.out.1) (by rw [show E6=EB from hEB];exact HM.out.2) ht6 hl6 hq (by rw [show E6=EB from hEB];exact hE'))
                        have HRR:=hid hRR
                        clear hb0 hEB hRR hE' ht6 hl6
                        refine region_quiet_at 28 (by kernel_rfl) (by kernel_rfl) (by kernel_rfl) (by kernel_rfl) (by kernel_rfl) (by kernel_rfl) (by kernel_rfl) ?_
                        simp only [List.take_succ_cons,List.take_zero,List.drop_succ_cons,List.drop_zero]
                        repeat (go_big_quiet_step (first | (go_at_call 137;refine Calls.quiet_of_same (HSC.out _)) | (go_at_call 133;refine Calls.quiet_of_same (HAC.out _))))
                        refine wpQuiet_nil ?_
                        intro _ hw'
                        obtain⟨nq,hw2⟩:=hw'
                        subst hw2
                        go_wp2_with fail
                        refine (HAH.out (wr.drewN nq) (below_drewN HBQ.out nq)).mono ?_
                        rintro e w6 ⟨rfl,⟨L6,hA6,hK6,hR6,hb6⟩,_,_⟩
                        have HF6:=hid (show RefAt w6 L6 (B+1+2*j+2) E6∧KeptO L.own L6.own w1 w6∧HdE L6 L∧L6.bs=L.bs from ⟨hA6,(HKJ.out.trans (KeptO.of_below (below_drewN HBQ.out nq))).trans hK6,hR6.trans HHD.out.1,hb6.trans HHD.out.2⟩)
                        clear hA6 hK6 hR6 hb6
                        all_goals
                          have HG6:=hid (HGN.out w6 L6 HF6.out.1)
                          rw [HF6.out.2.2.1.1] at HG6
                          go_wp2_with fail
                          refine HG6.out.mono ?_
                          rintro e w8 ⟨rfl,L8,hA8,hK8,hR8,hb8⟩
                          have HF8:=hid (show RefPost L (B+402) RR.2 w w8 from by
                            rw [HRR.out]
                            exact⟨L8,hA8.mono (by omega),(((KeptO.of_below HB1.out).trans (KeptO.of_below HB3.out)).trans HF6.out.2.1).trans hK8,hR8.trans HF6.out.2.2.1,hb8.trans HF6.out.2.2.2⟩)
                          clear hA8 hK8 hR8 hb8 HG6 HGN
                          go_wp2
                          refine bodyPost_ret (results_none rfl _ _ _) rfl ?_
                          exact⟨rfl,HF8.out⟩
      · have hjm:j=m:=by omega
        have hj1:¬ (j:Int)<(m:Int):=by omega
        have HF:=hid (show RefPost L (B+402) RR.2 w wo from by
          have hnil:restP E1 (hasReadB (k:Int) i) j=[]:=by rw [hjm,← HE1L.out];exact restP_end _ _
          rw [hnil] at hrest
          simp only [aheadAll] at hrest
          injection hrest with h1 h2
          rw [HRES.out.1 h1.symm,← h2]
          exact⟨Lj,hEj.mono (by omega),((KeptO.of_below HB1.out).trans (KeptO.of_below HB3.out)).trans hKj,hHd,hbj⟩)
        clear hEj hrest hbare hKj hHd hbj hjm
        go_wp2
        refine bodyPost_end (results_none rfl _ _ _) rfl ?_
        exact⟨rfl,HF.out⟩
end
end Go.Proofs.YtjefgmeejhakbaaGreatDoor
