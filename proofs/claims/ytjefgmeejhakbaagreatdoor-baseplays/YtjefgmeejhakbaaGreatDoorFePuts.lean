/- The document's engine: puts. -/
import Derived.Test.YtjefgmeejhakbaaGreatDoorFePutsS
namespace Go.Proofs.YtjefgmeejhakbaaGreatDoor
open Go.RowKit
section
variable {f:Nat}
set_option maxRecDepth 100000 in
set_option maxHeartbeats 8000000 in
theorem puts_step (hgone:GoneOk f):PutsOk f:=by
  intro w L B E i t Q RR hA hBB ht hs hk hq hM hlv hW
  obtain⟨i0,hi0,hz0,hz1,hz2⟩:=info_parts info78
  obtain⟨R,hRA,hRel⟩:=hA
  obtain⟨r,hr,hX⟩:=hRel.getR ht
  obtain⟨k,hkk⟩:∃ k:Nat,t.wk=(k:Int):=⟨t.wk.toNat,by omega⟩
  have hk10:k<10:=by omega
  obtain⟨vx,hvx⟩:∃ vx,t.wv=vx:=⟨_,rfl⟩
  obtain⟨st,hst⟩:∃ st,t.start=st:=⟨_,rfl⟩
  obtain⟨lv,hlvl⟩:∃ lv,t.level=lv:=⟨_,rfl⟩
  rw [hkk,hvx]
  have hB1:Below w.heap.size w (w.alloc (.cells #[.int .i64 (k:Int),.int .i64 vx] 78)):=(Below.refl _ w).alloc (Nat.le_refl _) _
  have hbx0:=heap_alloc_new w (.cells #[.int .i64 (k:Int),.int .i64 vx] 78)
  obtain⟨wB,hwB⟩:∃ wB,w.alloc (.cells #[.int .i64 (k:Int),.int .i64 vx] 78)=wB:=⟨_,rfl⟩
  rw [hwB] at hB1 hbx0
  have hsB:wB.heap.size=w.heap.size+1:=by rw [← hwB];simp
  have hRA0:=hRA.below hB1
  obtain⟨l,g,cap,hl,hT,hav,hcp⟩:=hRA0.place hr
  have c12:=hRA0.c12
  rw [hav] at c12
  have bx0:wB.cell? ⟨w.heap.size,0,none⟩=some (.int .i64 (k:Int)):=(cell_of_row _ w.heap.size 0 _ _ (0,0) hbx0).trans rfl
  have bx1:wB.cell? ⟨w.heap.size,1,none⟩=some (.int .i64 vx):=(cell_of_row _ w.heap.size 1 _ _ (0,0) hbx0).trans rfl
  have c3:wB.cell? ⟨l.b,3,none⟩=some (.int .i64 st):=(hT.cell 3).trans (by show some (Value.int .i64 r.start)=_;rw [hX.start,hst])
  have c0:wB.cell? ⟨l.b,0,none⟩=some (.int .i64 lv):=(hT.cell 0).trans (by show some (Value.int .i64 r.level)=_;rw [hX.level,hlvl])
  have hi:=(List.getElem?_eq_some_iff.1 hr).1
  have hlen:=hRel.len
  have hle:=hRel.le
  obtain⟨m,hm⟩:∃ m,R.txs.length=m:=⟨_,rfl⟩
  have hm200:m≤200:=by omega
  rw [hm] at c12 hi
  have gs:IntKind.i64.wrap ((i:Int)+1-1)=(i:Int):=by rw [show (i:Int)+1-1=(i:Int) by omega];exact IntWalk.i64_in _ (by omega)
  have g0:(0:Int)≤(i:Int):=by omega
  have g1:(i:Int)<(m:Int):=by omega
  simp only [ptrV] at hcp
  have hRf:RefAt wB L B E:=⟨R,hRA0,hRel⟩
  have HN:=hid ((hRf.below (w':=wB.drew) (below_drewN (Below.refl _ _) 1)).newer (by omega) hk10 st)
  obtain⟨ts,hts⟩:∃ ts,newerP E (k:Int) st=ts:=⟨_,rfl⟩
  rw [hts] at HN
  have htl:ts.length≤100000:=by
    rw [← hts,← hRel.newer hk10 st]
    have:=newsR_length (k:Int) st R.kept
    have:=hRel.keptB
    omega
  have hlb:=hT.lt
  have HRF:=hid hRf
  have hB1s:=hB1.size
  by_cases hnew:lv≠0∧ts≠[]
  · have hput:putE E i=(10,E):=by
      unfold putE
      rw [ht]
      simp only
      rw [hkk,hst,hlvl,hts,if_pos hnew]
    rw [hput] at hM hlv
    unfold writeR at hW
    rw [hput] at hW
    simp only at hW
    rw [if_neg (by decide)] at hW
    obtain⟨E',hE',rfl⟩:∃ E',endF f (loseE E i 10) i 3=some E'∧RR=(10,E'):=by
      cases he:endF f (loseE E i 10) i 3 with
      | none=>rw [he] at hW;cases hW
      | some E2=>rw [he] at hW;simp at hW;exact⟨E2,rfl,hW.symm⟩
    have HG:=hid (fun (W:World) (hB2:Below wB.heap.size wB W)=>hgone W L B E E' i t 10 Q (hRf.below hB2) (by omega) hM hlv ht (by rw [hs];rfl) hq hE')
    have gl:(lv != 0)=true:=by simpa using hnew.1
    have gt:(0:Int)<(ts.length:Int):=by have:=List.length_pos_iff.2 hnew.2;omega
    have HB1:=hid hB1
    clear hRA hRel hr hX hT hav hRA0 hRf hM hlv hW hput hE' hnew ht hs hq hts hl hst hlvl hm hlen hle hbx0 hi hB1
    subst hwB
    go_enter Tryz.func141,Tryz.ntmps141
    go_wp2
    go_region_held3 (fun W=>W.cell? ⟨w.heap.size,0,none⟩=some (.int .i64 (k:Int))∧W.cell? ⟨l.b,3,none⟩=some (.int .i64 st))
      (first | go_keep | exact⟨y1,y2⟩)
      (first | (go_at_call 136
                refine HN.out.mono ?_
                rintro e w1 ⟨tv,rfl,ho,hB2⟩
                have hB3:=(below_drewN (Below.refl _ (w.alloc (.cells #[.int .i64 (k:Int),.int .i64 vx] 78))) 1).trans hB2
                have y1:w1.cell? ⟨w.heap.size,0,none⟩=some (.int .i64 (k:Int)):=(hB3.cell (p:=⟨w.heap.size,0,none⟩) (by simp)).trans bx0
                have y2:w1.cell? ⟨l.b,3,none⟩=some (.int .i64 st):=(hB3.cell (p:=⟨l.b,3,none⟩) hlb).trans c3
                have y0:w1.cell? ⟨l.b,0,none⟩=some (.int .i64 lv):=(hB3.cell (p:=⟨l.b,0,none⟩) hlb).trans c0
                obtain⟨ad,cap3,rfl⟩:=row_form ho
                have HB3:=hid hB3
                clear ho hB2 hB3))
    go_wp2_with fail
    refine (HG.out w1 HB3.out).mono ?_
    rintro e w5 ⟨rfl,L5,hA5,hK5,hR5,hb5⟩
    have HF:=hid (show RefPost L (B+402) E' w w5 from ⟨L5,hA5.mono (by omega),((KeptO.of_below HB1.out).trans (KeptO.of_below HB3.out)).trans hK5,hR5,hb5⟩)
    clear hA5 hK5 hR5 hb5 HG
    go_wp2
    refine bodyPost_ret (results_none rfl _ _ _) rfl ?_
    exact⟨rfl,HF.out⟩
  · have c7:wB.cell? ⟨l.b,7,none⟩=some l.ow:=(hT.cell 7).trans rfl
    have how:=hT.ow
    obtain⟨ado,capo,hfo⟩:=row_form how
    obtain⟨no,hno⟩:∃ no,r.own.length=no:=⟨_,rfl⟩
    have hno':no≤10000000:=by rw [← hno];exact Nat.le_trans (hRel.szR hr).2.1 (by omega)
    rw [hno] at hfo how
    rw [hfo] at c7 how
    have HOW:=hid how
    have hE1:=hRel.put ht hr hs
    obtain⟨E1,hE1e⟩:∃ E1,E.setTx i { t with vals:=updT t.vals t.wk (some t.wv) }=E1:=⟨_,rfl⟩
    have hput1:putE E i=(if t.level=2 then (match behindP E1 i (k:Int) with | (true,E2)=>(0,E2) | (false,E2)=>(13,E2)) else (0,E1):Int × Eng):=by
      unfold putE
      rw [ht,← hE1e]
      simp only
      rw [if_neg (by rw [hkk,hst,hlvl,hts];exact hnew),← hkk]
      rfl
    rw [hE1e,hkk,hvx] at hE1
    have ht1:E1.txs[i]?=some { t with vals:=updT t.vals t.wk (some t.wv) }:=by rw [← hE1e];exact setTx_get ht
    have hlvr:r.level=lv:=by rw [hX.level,hlvl]
    have HPA:=hid (fun (w1:World) (hB3:Below wB.heap.size wB w1) (w2:World) (gg cap':Nat) (ho:w2.ownsRow 0 78 2 (.slice (some ⟨gg,0,none⟩) (no+1) cap') (no+1) (vrow r.own++[.int .i64 (k:Int),.int .i64 vx])) (hg:(w1.drew.alloc (.cells #[.int .i64 (k:Int),.int .i64 vx] 78)).grownBy w2 (Value.slice ado no capo).ownBlock) (hat:(Value.slice ado no capo).ownBlock=some gg∨gg=w1.heap.size+1) =>
      show w2.cell? ⟨l.b,7,none⟩=some (.slice ado no capo)∧w2.frozen? ⟨l.b,7,none⟩=false∧w2.cell? ⟨l.b,0,none⟩=some (.int .i64 lv)∧∃ L1,RefAt (w2.setCell ⟨l.b,7,none⟩ (.slice (some ⟨gg,0,none⟩) (no+1) cap')) L1 (B+1) E1∧KeptO L.own L1.own w (w2.setCell ⟨l.b,7,none⟩ (.slice (some ⟨gg,0,none⟩) (no+1) cap'))∧HdE L1 L∧L1.bs=L.bs from by
      have hd:Below w1.heap.size w1 (w1.drew.alloc (.cells #[.int .i64 (k:Int),.int .i64 vx] 78)):=(below_drewN (Below.refl _ w1) 1).alloc (by simp) _
      have:=putsA (hRA0.below hB3) hl hr hfo hno hd ho hg (hat.imp id (fun e=>by omega))
      obtain⟨a1,a2,a3,L1,a4,a5,a6,a7⟩:=this
      exact⟨a1,a2,by rw [← hlvr];exact a3,L1,⟨_,a4,hE1⟩,((KeptO.of_below hB1).trans (KeptO.of_below hB3)).trans a5,a6,a7⟩)
    by_cases h2:lv=2
    · have hnil:ts=[]:=Classical.byContradiction (fun h'=>hnew ⟨by omega,h'⟩)
      have:=puts_strict hgone ⟨R,hRA,hRel⟩ hBB ht hs hk hq hM hlv hW (by rw [hlvl];exact h2) (by rw [hkk,hst,hts];exact hnil)
      rw [hkk,hvx] at this
      exact this
    · have hR0:RR=(0,E1):=by
        unfold writeR at hW
        rw [hput1,hlvl,if_neg h2] at hW
        simpa using hW.symm
      subst hR0
      have gl2:(lv != 2)=true:=by simpa using h2
      by_cases h0:lv=0
      · have gl:(lv != 0)=false:=by simp [h0]
        clear h0 h2 hRA hRel hr hX hT hav hRA0 hRf hM hlv hW hput1 hnew ht hs hq hts hl hst hlvl hm hlen hle hbx0 hi hB1 hE1 hE1e ht1 hlvr how hfo hno
        subst hwB
        go_enter Tryz.func141,Tryz.ntmps141
        go_wp2
        go_region_held3 (fun W=>W.cell? ⟨w.heap.size,0,none⟩=some (.int .i64 (k:Int))∧W.cell? ⟨l.b,3,none⟩=some (.int .i64 st))
          (first | go_keep | exact⟨y1,y2⟩)
          (first | (go_at_call 136
                    refine HN.out.mono ?_
                    rintro e w1 ⟨tv,rfl,ho,hB2⟩
                    have hB3:=(below_drewN (Below.refl _ (w.alloc (.cells #[.int .i64 (k:Int),.int .i64 vx] 78))) 1).trans hB2
                    have y1:w1.cell? ⟨w.heap.size,0,none⟩=some (.int .i64 (k:Int)):=(hB3.cell (p:=⟨w.heap.size,0,none⟩) (by simp)).trans bx0
                    have y3:w1.cell? ⟨w.heap.size,1,none⟩=some (.int .i64 vx):=(hB3.cell (p:=⟨w.heap.size,1,none⟩) (by simp)).trans bx1
                    have y2:w1.cell? ⟨l.b,3,none⟩=some (.int .i64 st):=(hB3.cell (p:=⟨l.b,3,none⟩) hlb).trans c3
                    have y0:w1.cell? ⟨l.b,0,none⟩=some (.int .i64 lv):=(hB3.cell (p:=⟨l.b,0,none⟩) hlb).trans c0
                    have y7:w1.cell? ⟨l.b,7,none⟩=some (.slice ado no capo):=(hB3.cell (p:=⟨l.b,7,none⟩) hlb).trans c7
                    obtain⟨ad,cap3,rfl⟩:=row_form ho
                    have hs1:=hB3.size
                    have hlb1:l.b<w1.heap.size:=by omega
                    have hbx1:w.heap.size<w1.heap.size:=by simp at hs1;omega
                    have hrow:=owns_same HOW.out (fun g hg=>hB3.block g (HOW.out.lt g hg).2)
                    have HB3:=hid hB3
                    have HRW:=hid hrow.drew
                    clear ho hB2 hB3 hrow))
        go_wp2
        go_region_law
          (refine step_append_lies _ (by rfl) _ _ _ (by rfl) 0 78 i0 _ 2 16 Tryz.underlying23 hi0 hz0 hz1 hz2 rfl (by omega) (.slice ado no capo) no (vrow r.own) (by rfl) (HRW.out.alloc _)
              ⟨w1.heap.size,0,none⟩ 1 1 [.int .i64 (k:Int),.int .i64 vx] (by rfl) (by rfl) (World.news_of_block (cs:=#[.int .i64 (k:Int),.int .i64 vx]) (t:=78) (fr:=(0,0)) (heap_alloc_new w1.drew _)) (by simp [Value.oneCell'])
              (by omega) (by unfold maxLen;omega) (by omega) (by simp) (w1.heap.size+1) (by simp) ?_;intro gg cap' w2 ho2 hgrow2 hat2 hlt2
           obtain⟨cv7,fv7,cv0,L1,hx1,hk1,hR1,hb1⟩:=HPA.out w1 HB3.out w2 gg cap' ho2 hgrow2 hat2
           have HX1:=hid hx1
           have HK1:=hid hk1
           have HB1':=hid (And.intro hR1 hb1)
           clear hx1 hk1 hR1 hb1 ho2 hgrow2 hat2 hlt2)
        all_goals
          have HF:=hid (show RefPost L (B+402) E1 w _ from ⟨L1,HX1.out.mono (by omega),HK1.out,HB1'.out.1,HB1'.out.2⟩)
          go_wp2
          refine bodyPost_ret (results_none rfl _ _ _) rfl ?_
          exact⟨rfl,HF.out⟩
      · have gl:(lv != 0)=true:=by simpa using h0
        have gt:¬ (0:Int)<(ts.length:Int):=by
          have:ts=[]:=Classical.byContradiction (fun h'=>hnew ⟨h0,h'⟩)
          rw [this]
          simp
        clear h0 h2 hRA hRel hr hX hT hav hRA0 hRf hM hlv hW hput1 hnew ht hs hq hts hl hst hlvl hm hlen hle hbx0 hi hB1 hE1 hE1e ht1 hlvr how hfo hno
        subst hwB
        go_enter Tryz.func141,Tryz.ntmps141
        go_wp2
        go_region_held3 (fun W=>W.cell? ⟨w.heap.size,0,none⟩=some (.int .i64 (k:Int))∧W.cell? ⟨l.b,3,none⟩=some (.int .i64 st))
          (first | go_keep | exact⟨y1,y2⟩)
          (first | (go_at_call 136
                    refine HN.out.mono ?_
                    rintro e w1 ⟨tv,rfl,ho,hB2⟩
                    have hB3:=(below_drewN (Below.refl _ (w.alloc (.cells #[.int .i64 (k:Int),.int .i64 vx] 78))) 1).trans hB2
                    have y1:w1.cell? ⟨w.heap.size,0,none⟩=some (.int .i64 (k:Int)):=(hB3.cell (p:=⟨w.heap.size,0,none⟩) (by simp)).trans bx0
                    have y3:w1.cell? ⟨w.heap.size,1,none⟩=some (.int .i64 vx):=(hB3.cell (p:=⟨w.heap.size,1,none⟩) (by simp)).trans bx1
                    have y2:w1.cell? ⟨l.b,3,none⟩=some (.int .i64 st):=(hB3.cell (p:=⟨l.b,3,none⟩) hlb).trans c3
                    have y0:w1.cell? ⟨l.b,0,none⟩=some (.int .i64 lv):=(hB3.cell (p:=⟨l.b,0,none⟩) hlb).trans c0
                    have y7:w1.cell? ⟨l.b,7,none⟩=some (.slice ado no capo):=(hB3.cell (p:=⟨l.b,7,none⟩) hlb).trans c7
                    obtain⟨ad,cap3,rfl⟩:=row_form ho
                    have hs1:=hB3.size
                    have hlb1:l.b<w1.heap.size:=by omega
                    have hbx1:w.heap.size<w1.heap.size:=by simp at hs1;omega
                    have hrow:=owns_same HOW.out (fun g hg=>hB3.block g (HOW.out.lt g hg).2)
                    have HB3:=hid hB3
                    have HRW:=hid hrow.drew
                    clear ho hB2 hB3 hrow))
        go_wp2
        go_region_law
          (refine step_append_lies _ (by rfl) _ _ _ (by rfl) 0 78 i0 _ 2 16 Tryz.underlying23 hi0 hz0 hz1 hz2 rfl (by omega) (.slice ado no capo) no (vrow r.own) (by rfl) (HRW.out.alloc _)
              ⟨w1.heap.size,0,none⟩ 1 1 [.int .i64 (k:Int),.int .i64 vx] (by rfl) (by rfl) (World.news_of_block (cs:=#[.int .i64 (k:Int),.int .i64 vx]) (t:=78) (fr:=(0,0)) (heap_alloc_new w1.drew _)) (by simp [Value.oneCell'])
              (by omega) (by unfold maxLen;omega) (by omega) (by simp) (w1.heap.size+1) (by simp) ?_;intro gg cap' w2 ho2 hgrow2 hat2 hlt2
           obtain⟨cv7,fv7,cv0,L1,hx1,hk1,hR1,hb1⟩:=HPA.out w1 HB3.out w2 gg cap' ho2 hgrow2 hat2
           have HX1:=hid hx1
           have HK1:=hid hk1
           have HB1':=hid (And.intro hR1 hb1)
           clear hx1 hk1 hR1 hb1 ho2 hgrow2 hat2 hlt2)
        all_goals
          have HF:=hid (show RefPost L (B+402) E1 w _ from ⟨L1,HX1.out.mono (by omega),HK1.out,HB1'.out.1,HB1'.out.2⟩)
          go_wp2
          refine bodyPost_ret (results_none rfl _ _ _) rfl ?_
          exact⟨rfl,HF.out⟩
theorem puts_ok:∀ f,GoneOk f∧PutsOk f∧DropsOk f
 | 0=>by
  have h0:GoneOk 0:=fun _ _ _ _ _ _ _ _ _ _ _ _ _ _ _ _ h=>by cases h
  have h1:=puts_step h0
  exact⟨h0,h1,drops_step h1⟩
 | f+1=>by
  have h0:=gone_step (puts_ok f).2.2
  have h1:=puts_step h0
  exact⟨h0,h1,drops_step h1⟩
end
end Go.Proofs.YtjefgmeejhakbaaGreatDoor
