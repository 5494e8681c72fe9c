/- law.BasePlays: its walk. -/
import Derived.Test.YtjefgmeejhakbaaGreatDoorMgBE
namespace Go.Proofs.YtjefgmeejhakbaaGreatDoor
open Go.RowKit
set_option maxRecDepth 100000 in
set_option maxHeartbeats 1000000 in
theorem bplays_long (ad:Option Addr) (m cap:Nat) (full:Int) (w:World) (h:80<m) :
  Calls Tryz.prog 8 #[.slice ad m cap,.int .i64 full] w fun e w'=>e=.returned (.bool true)∧Below w.heap.size w w':=by
 have g1:(80:Int)<(m:Int):=by omega
 clear h
 go_enter Tryz.func8,Tryz.ntmps8
 go_wp2
 go_ret
 exact⟨rfl,Below.refl _ _⟩
set_option maxRecDepth 100000 in
theorem open_nil (w:World):Calls Tryz.prog 38 #[.pointer none] w fun e w'=>e=.returned (.tuple #[.pointer none,.iface 24 (.int .i64 7)])∧w'=w:=by
 go_enter Tryz.func38,Tryz.ntmps38
 go_wp2
 go_ret2
 exact⟨rfl,rfl⟩
theorem Opened.base {w1 w2:World} {d b:Nat} {dv:List Value} {D:Dsk} {recs:List (List (Int × Int))} (hD:DiskAt w1 d dv D) (h:Opened w1 d recs b w2):∃ L,BasAt w2 b d L (engO recs.length recs.flatten) dv D recs.length 0 false:=by
 obtain⟨L',hbas,hen,hB1,hO,hb,hnb⟩:=h
 exact⟨L',hbas,hD.below hB1,hen,hnb,fun g hg=>⟨fun ho=>by have:=hO g ho;have:=hD.own_lt hg;omega,fun e=>by have:=hD.own_lt hg;omega⟩⟩
theorem bp_start {w w1 w2 w3 w4:World} {b c:Nat} {M:REnL} (hH:Handle w) (hw1:w.alloc (.cells Tryz.zeroCells96 96)=w1) (ho:Opened w1 w.heap.size [] b w2) (h23:Below w2.heap.size w2 w3)
  (hn:RbAt w4 c M.R (.slice none 0 0) 0 [] 0 false false 0∧RefAt w4 M 0 eng0∧Below w3.heap.size w3 w4∧(∀ g,M.own g→w3.heap.size≤g)∧w3.heap.size≤c∧¬ M.own c) :
  ∃ L,BpSt w.heap.size w4 b w.heap.size c dv0 dsk0 (.slice none 0 0) [] L M 0 eng0 [] 0 false false 0∧Below w.heap.size w w4:=by
 obtain⟨L,hbas,hen,hB1,hO,hb,hnb⟩:=ho
 obtain⟨hR,hr,hB4,hO4,hc,hnc⟩:=hn
 have hD1:DiskAt w1 w.heap.size dv0 dsk0:=by rw [← hw1];exact disk0 w
 have hs1:w1.heap.size=w.heap.size+1:=by rw [← hw1];simp
 have f01:Below w.heap.size w w1:=by rw [← hw1];exact (Below.refl _ w).alloc (Nat.le_refl _) _
 have hs2:=hB1.size
 have hs3:=h23.size
 have hs4:=hB4.size
 have h24:Below w2.heap.size w2 w4:=h23.trans (hB4.mono hs3)
 have h14:Below w1.heap.size w1 w4:=hB1.trans (h24.mono hs2)
 have f04:Below w.heap.size w w4:=f01.trans (h14.mono (by omega))
 have blt:b<w2.heap.size:=(Array.getElem?_eq_some_iff.1 hbas).1
 have hpos:=hH.pos
 refine⟨L,⟨⟨⟨hen.below h24,hr,fun g h1 h2=>by have:=hen.own_lt h1;have:=hO4 g h2;omega⟩,mid2O 0 [],fun g hg=>?_,by omega,hpos,hH.below f04 hpos⟩,(h24.block b blt).trans hbas,hD1.below h14,hR,fun g hg=>?_,fun g hg ho=>?_,fun g hg e=>?_,fun g hg=>?_,fun g hg=>?_,dskG0,Int.le_refl _,rfl,(fun e=>by cases e),saved0⟩,f04⟩
 ·rcases hg with hg | hg
  ·have:=hO g hg;omega
  ·have:=hO4 g hg;omega
 ·have hgl:g<w2.heap.size:=by
   rcases hg with rfl | hg
   ·exact blt
   ·rw [dOwn0 hg];omega
  refine⟨fun ho=>?_,fun ho=>?_⟩
  ·rcases ho with ho | ho
   ·rcases hg with rfl | hg
    ·exact hnb ho
    ·have:=hO g ho;rw [dOwn0 hg] at this;omega
   ·have:=hO4 g ho;omega
  ·rcases ho with rfl | ho
   ·omega
   ·cases ho
 ·rcases hg with rfl | hg
  ·rcases ho with ho | ho
   ·have:=hen.own_lt ho;omega
   ·exact hnc ho
  ·cases hg
 ·rw [dOwn0 hg] at e;omega
 ·rcases hg with rfl | hg
  ·omega
  ·rw [dOwn0 hg];exact Nat.le_refl _
 ·rcases hg with rfl | hg
  ·omega
  ·cases hg
set_option maxRecDepth 100000 in
set_option maxHeartbeats 16000000 in
theorem bplays_walk (ad:Option Addr) (m cap:Nat) (full:Int) (w:World) (hm:m≤80) (hA:LActsAt w ad m) (hH:Handle w) :
  Calls Tryz.prog 8 #[.slice ad m cap,.int .i64 full] w fun e w'=>e=.returned (.bool true)∧Below w.heap.size w w':=by
 have g1:¬ (80:Int)<(m:Int):=by omega
 obtain⟨k,hk,hk250⟩:=many_nat 251 full (by omega)
 obtain⟨w1,hw1⟩:∃ w1,w.alloc (.cells Tryz.zeroCells96 96)=w1:=⟨_,rfl⟩
 have hD1:DiskAt w1 w.heap.size dv0 dsk0:=by rw [← hw1];exact disk0 w
 have HO1:=hid (open_any' hD1 dskOk0.1)
 have HD1:=hid hD1
 have HW1:=hid hw1
 have HH:=hid hH
 have HA:=hid hA
 have hpos:=hH.pos
 have f01:Below w.heap.size w w1:=by rw [← hw1];exact (Below.refl _ w).alloc (Nat.le_refl _) _
 have HF1:=hid f01
 clear hD1 hw1 hH hA f01
 go_enter Tryz.func8,Tryz.ntmps8
 go_wp2_with fail
 rw [HW1.out]
 refine HO1.out.mono ?_
 rintro e w2 ⟨b,L2,rfl,hO2⟩
 have hP2:Opened w1 w.heap.size [] b w2:=⟨L2,hO2⟩
 obtain⟨L3,hB3⟩:=hP2.base HD1.out
 have HP2:=hid hP2
 have HB3:=hid hB3
 have HF2:=hid (HF1.out.trans (hO2.2.2.1.mono HF1.out.size))
 clear hO2 HO1 hP2 hB3 HD1 HF1
 go_wp2_with fail
 refine (open_nil w2).mono ?_
 rintro e w3 ⟨rfl,hw3⟩
 rw [hw3]
 clear hw3 w3
 go_wp2_with fail
 refine (bengine_any HB3.out).mono ?_
 rintro e w3 ⟨rfl,hw3⟩
 rw [hw3]
 clear hw3 w3 HB3
 go_wp2_with fail
 refine (bare_true 7 (.iface 24 (.int .i64 7)) w2 (.inr (.inl ⟨rfl,rfl⟩)) (HH.out.below HF2.out hpos)).mono ?_
 rintro e w3 ⟨rfl,hB23⟩
 have HB23:=hid hB23
 clear hB23 HF2
 go_wp2_with fail
 refine (newBase_any w3).mono ?_
 rintro e w4 ⟨c,M,rfl,hN⟩
 obtain⟨L,hS,hF⟩:=bp_start HH.out HW1.out HP2.out HB23.out hN
 have HS:Hid (BpFin w.heap.size w b w.heap.size c L.s M.R 10000 0 false w4):=⟨dv0,dsk0,.slice none 0 0,[],L,M,eng0,[],false,0,hS.mono (by omega),rfl,rfl,hF⟩
 clear hS hF hN HB23 HP2 HW1 HH
 go_wp2
 go_loopw [6,7,11] (fun vb ve vi wr=>∃ (j mm b' sL rM:Nat) (torn:Int) (off:Bool),vb=.pointer (some ⟨b',0,none⟩)∧ve=.nilIface∧vi=.int .i64 j∧j≤k∧mm≤j%100+1∧Hid (BpFin w.heap.size w b' w.heap.size c sL rM (10000+70000*mm) torn off wr)) (fun _ _ vi _=>k-(intOf vi).toNat)
 case atStart=>exact⟨0,0,b,L.s,M.R,0,false,rfl,rfl,rfl,Nat.zero_le _,Nat.zero_le _,HS.out.mono (by omega)⟩
 case round =>
  obtain⟨j,mm,b',sL,rM,torn,off,rfl,rfl,rfl,hj,hmm,HJ⟩:=hrel
  clear HS
  by_cases hlt:j<k
  ·have hlt':(j:Int)<(k:Int):=by omega
   have gj1:IntKind.i64.wrap ((j:Int)+1)=(j:Int)+1:=IntWalk.i64_in _ (by omega)
   obtain⟨dv1,D1,lv1,kept1,L1,M1,E1,recs1,down1,left1,h1,e1,e2,f1⟩:=HJ.out
   have H1:=hid (And.intro h1 f1)
   clear h1 e1 e2 f1 HJ
   by_cases h99:j%100=99
   ·have g99:((j:Int).tmod 100==99)=true:=by rw [Int.tmod_eq_emod_of_nonneg (by omega)];simp;omega
    go_wp2_with fail
    refine (H1.out.1.open1).mono ?_
    rintro e w5 ⟨b5,rfl,hO5⟩
    have HO5:=hid hO5
    clear hO5
    go_wp2_with fail
    refine (H1.out.1.open2 HO5.out).mono ?_
    rintro e w6 ⟨rfl,L6,M6,h6,f6⟩
    have HZ:=hid (And.intro h6 (H1.out.2.trans f6))
    clear h6 f6 H1 HO5
    go_wp2
    refine BpSt.fill HZ.out.1 (by omega) (j:Int) _ _ rfl rfl rfl rfl ?_
    intro f w7 hf hS7
    have H7:=hid (hS7.from HZ.out.2)
    simp only [putF,slots17,List.setIfInBounds_toArray,List.set_cons_succ,List.set_cons_zero]
    rw [hf]
    clear hS7 hf
    go_wp2
    exact⟨⟨j+1,1,b5,L6.s,M6.R,0,off,rfl,rfl,by go_num,by omega,by omega,H7.out.mono (by omega)⟩,by simp [intOf];omega⟩
   ·have g99:((j:Int).tmod 100==99)=false:=by rw [Int.tmod_eq_emod_of_nonneg (by omega)];simp;omega
    go_wp2
    refine BpSt.fill H1.out.1 (by omega) (j:Int) _ _ rfl rfl rfl rfl ?_
    intro f w7 hf hS7
    have H7:=hid (hS7.from H1.out.2)
    simp only [putF,slots17,List.setIfInBounds_toArray,List.set_cons_succ,List.set_cons_zero]
    rw [hf]
    clear hS7 hf
    go_wp2
    exact⟨⟨j+1,mm+1,b',L1.s,M1.R,torn,off,rfl,rfl,by go_num,by omega,by omega,H7.out.mono (by omega)⟩,by simp [intOf];omega⟩
  ·have hge:¬ (j:Int)<(k:Int):=by omega
   have HQ:Hid (BpFin w.heap.size w b' w.heap.size c sL rM 7100000 torn off wr):=HJ.out.mono (by omega)
   clear HJ hlt
   go_wp2
   go_loopw [6,7,12,13] (fun vb ve vi _ wz=>∃ (i b2 sL2 rM2:Nat) (torn2:Int) (off2:Bool),vb=.pointer (some ⟨b2,0,none⟩)∧ve=.nilIface∧vi=.int .i64 i∧i≤m∧Hid (BpFin w.heap.size w b2 w.heap.size c sL2 rM2 (7100000+i*30000) torn2 off2 wz)) (fun _ _ vi _ _=>m-(intOf vi).toNat)
   case atStart=>exact⟨0,b',sL,rM,torn,off,rfl,rfl,rfl,Nat.zero_le _,HQ.out.mono (by omega)⟩
   case round =>
    obtain⟨i,b2,sL2,rM2,torn2,off2,rfl,rfl,rfl,hi,HI⟩:=hrel
    clear HQ
    by_cases hlt2:i<m
    ·have hlt2':(i:Int)<(m:Int):=by omega
     have hi0:(0:Int)≤(i:Int):=by omega
     have gi1:IntKind.i64.wrap ((i:Int)+1)=(i:Int)+1:=IntWalk.i64_in _ (by omega)
     obtain⟨dv1,D1,lv1,kept1,L1,M1,E1,recs1,down1,left1,h1,e1,e2,f1⟩:=HI.out
     obtain⟨bb,ofs,a0,a1,a2,a3,rfl,hk2,z0,z1,z2,z3⟩:=HA.out i hlt2
     have hbb:bb<w.heap.size:=World.block_lt_of_cell? w _ z0
     have y0:=(f1.cell (p:=⟨bb,ofs+i*4,none⟩) hbb).trans z0
     have y1:=(f1.cell (p:=⟨bb,ofs+i*4+1,none⟩) hbb).trans z1
     have y2:=(f1.cell (p:=⟨bb,ofs+i*4+2,none⟩) hbb).trans z2
     have y3:=(f1.cell (p:=⟨bb,ofs+i*4+3,none⟩) hbb).trans z3
     have H1:=hid (And.intro h1 f1)
     have HK2:=hid hk2
     clear h1 e1 e2 f1 HI z0 z1 z2 z3 hk2
     obtain⟨w5,hw5⟩:∃ w5,wr.alloc (.cells #[.int .i64 a0,.int .i64 a1,.int .i64 a2,.int .i64 a3] 53)=w5:=⟨_,rfl⟩
     obtain⟨X,hX⟩:∃ X,wr.heap.size=X:=⟨_,rfl⟩
     have hB5:Below wr.heap.size wr w5:=by rw [← hw5];exact (Below.refl _ wr).alloc (Nat.le_refl _) _
     have hX5:w5.heap[X]?=some (.cells #[.int .i64 a0,.int .i64 a1,.int .i64 a2,.int .i64 a3] 53 (0,0)):=by rw [← hw5,← hX];exact heap_alloc_new wr _
     have H5:=hid (And.intro (H1.out.1.below hB5) (H1.out.2.trans (hB5.mono H1.out.1.duo.le)))
     have HX5:=hid hX5
     have HW5:=hid (And.intro hw5 hX)
     have HN:=hid (show (¬ oA b2 w.heap.size dv1 X∧¬ L1.own X)∧¬ oR c lv1 X∧X≠w.heap.size from ⟨⟨fun ho=>by have:=H1.out.1.lt_A ho;omega,fun ho=>by have:=H1.out.1.duo.duo.en.own_lt ho;omega⟩,fun ho=>by have:=H1.out.1.rb.own_lt ho;omega,fun e=>by have:=H1.out.1.lt_A (.inr (.inl rfl));omega⟩)
     clear hB5 hX5 hw5 hX H1
     go_upto_block 4 with fail
     rw [HW5.out.1,HW5.out.2]
     have c0:w5.cell? ⟨X,0,none⟩=some (.int .i64 a0):=(cell_of_row _ _ 0 _ 53 (0,0) HX5.out).trans rfl
     have c1:w5.cell? ⟨X,1,none⟩=some (.int .i64 a1):=(cell_of_row _ _ 1 _ 53 (0,0) HX5.out).trans rfl
     have c2:w5.cell? ⟨X,2,none⟩=some (.int .i64 a2):=(cell_of_row _ _ 2 _ 53 (0,0) HX5.out).trans rfl
     have c3:w5.cell? ⟨X,3,none⟩=some (.int .i64 a3):=(cell_of_row _ _ 3 _ 53 (0,0) HX5.out).trans rfl
     have hXl:X<w5.heap.size:=World.block_lt_of_cell? w5 _ c0
     clear y0 y1 y2 y3 HW5
     go_cut [6,7] (fun vb ve wx=>∃ (b3 sL3 rM3:Nat) (torn3:Int) (off3:Bool),vb=.pointer (some ⟨b3,0,none⟩)∧ve=.nilIface∧Hid (BpFin w.heap.size w b3 w.heap.size c sL3 rM3 (7100000+i*30000+30000) torn3 off3 wx))
     case first =>
      by_cases e3:a0=3
      ·as_aux_lemma =>
       subst e3
       go_wp2
       refine BpSt.com H5.out.1 (by omega) c1 HN.out.1.1 HN.out.1.2 _ _ rfl rfl rfl rfl ?_
       intro f w7 hf hS7
       have H7:=hid (hS7.from H5.out.2)
       simp only [putF,slots27,List.setIfInBounds_toArray,List.set_cons_succ,List.set_cons_zero]
       rw [hf]
       clear hS7 hf
       go_wp2
       go_meet
       exact⟨b2,_,_,torn2,off2,rfl,rfl,H7.out.mono (by omega)⟩
      ·have q3:(a0==3)=false:=by simpa using e3
       by_cases e7:a0=7
       ·as_aux_lemma =>
        subst e7
        go_wp2_with fail
        refine (H5.out.1.cut1 a2).mono ?_
        rintro e w6 ⟨rfl,hT⟩
        have HT:=hid hT
        have d2:w6.cell? ⟨X,2,none⟩=some (.int .i64 a2):=(World.cell?_of_block (a:=⟨X,2,none⟩) (hT.2.2 X HN.out.2.2)).trans c2
        clear hT
        go_wp2_with fail
        refine (H5.out.1.cut2 HK2.out HT.out).mono ?_
        rintro e w7 ⟨rfl,h7,f7,fr7⟩
        have d3:w7.cell? ⟨X,3,none⟩=some (.int .i64 a3):=(World.cell?_of_block (a:=⟨X,3,none⟩) (fr7 X hXl HN.out.2.2 HN.out.2.1)).trans c3
        have H7:=hid (And.intro h7 (H5.out.2.trans f7))
        clear h7 f7 fr7 HT d2
        go_wp2_with fail
        refine (H7.out.1.torn_ a3).mono ?_
        rintro e w8 ⟨rfl,h8,f8⟩
        have H8:=hid (And.intro h8 (H7.out.2.trans f8))
        clear h8 f8 H7 d3
        go_wp2
        go_meet
        exact⟨b2,L1.s,M1.R,_,_,rfl,rfl,dv1,_,lv1,kept1,L1,M1,E1,recs1,down1,_,H8.out.1.mono (by omega),rfl,rfl,H8.out.2⟩
       ·have q7:(a0==7)=false:=by simpa using e7
        by_cases e8:a0=8
        ·subst e8
         by_cases k0:a2=0
         ·as_aux_lemma =>
          subst k0
          go_wp2_with fail
          refine (H5.out.1.cut1 (-1)).mono ?_
          rintro e w6 ⟨rfl,hT⟩
          have HT:=hid hT
          have r5:=(H5.out.1.rb1 hT).cell 5
          simp only [List.getElem?_toArray,List.getElem?_cons_zero,List.getElem?_cons_succ] at r5
          have rf5:=(H5.out.1.rb1 hT).free 5
          clear hT
          obtain⟨h6,f6⟩:=H5.out.1.on HT.out
          have H6:=hid (And.intro h6 (H5.out.2.trans f6))
          clear h6 f6
          go_wp2_with fail
          refine (H6.out.1.open1).mono ?_
          rintro e w7 ⟨b7,rfl,hO7⟩
          have HO7:=hid hO7
          clear hO7
          go_wp2_with fail
          refine (H6.out.1.open2 HO7.out).mono ?_
          rintro e w8 ⟨rfl,L8,M8,h8,f8⟩
          have H8:=hid (And.intro h8 (H6.out.2.trans f8))
          clear h8 f8 H6 HO7 HT r5 rf5
          go_wp2
          go_meet
          exact⟨b7,L8.s,M8.R,0,false,rfl,rfl,dv1,_,lv1,kept1,L8,M8,_,recs1,false,_,H8.out.1.mono (by omega),rfl,rfl,H8.out.2⟩
         ·as_aux_lemma =>
          have qk:(a2==0)=false:=by simpa using k0
          go_wp2_with fail
          refine (H5.out.1.open1).mono ?_
          rintro e w7 ⟨b7,rfl,hO7⟩
          have HO7:=hid hO7
          clear hO7
          go_wp2_with fail
          refine (H5.out.1.open2 HO7.out).mono ?_
          rintro e w8 ⟨rfl,L8,M8,h8,f8⟩
          have H8:=hid (And.intro h8 (H5.out.2.trans f8))
          clear h8 f8 HO7
          go_wp2
          go_meet
          exact⟨b7,L8.s,M8.R,0,off2,rfl,rfl,dv1,D1,lv1,kept1,L8,M8,_,recs1,false,left1,H8.out.1.mono (by omega),rfl,rfl,H8.out.2⟩
        ·as_aux_lemma =>
         have q8:(a0==8)=false:=by simpa using e8
         have HEN:=hid (fun q=>bengine_any (H5.out.1.base.drewN q))
         have r0:=H5.out.1.rb.cell 0
         simp only [List.getElem?_toArray,List.getElem?_cons_zero] at r0
         have hcl:c<w5.heap.size:=World.block_lt_of_cell? w5 _ r0
         have HDS:=hid (fun q=>(H5.out.1.below (below_drewN (Below.refl _ w5) q)).does (by omega) a0 a1 a2 a3 HK2.out)
         go_wp2
         refine region_quiet_at 7 (by kernel_rfl) (by kernel_rfl) (by kernel_rfl) (by kernel_rfl) (by kernel_rfl) (by kernel_rfl) (by kernel_rfl) ?_
         simp only [List.take_succ_cons,List.take_zero,List.drop_succ_cons,List.drop_zero]
         repeat (go_big_quiet_step ((go_at_call 39;refine Calls.quiet_of_same (HEN.out _))))
         refine wpQuiet_nil ?_
         intro _ hw'
         obtain⟨nq,hw2⟩:=hw'
         subst hw2
         go_wp2_with fail
         refine (HDS.out nq).mono ?_
         rintro e w8 ⟨rfl,L8,M8,E8,h8,e81,e82,f8⟩
         have H8:=hid (And.intro h8 ((H5.out.2.trans ((below_drewN (Below.refl _ w5) nq).mono H5.out.1.duo.le)).trans f8))
         clear h8 f8 e81 e82 HDS HEN
         go_wp2
         go_meet
         exact⟨b2,L8.s,M8.R,torn2,off2,rfl,rfl,dv1,D1,lv1,kept1,L8,M8,E8,recs1,down1,left1,H8.out.1.mono (by omega),rfl,rfl,H8.out.2⟩
     case rest =>
      as_aux_lemma =>
      obtain⟨b3,sL3,rM3,torn3,off3,rfl,rfl,H6⟩:=hcut
      obtain⟨dv2,D2,lv2,kept2,L2',M2,E2,recs2,down2,left2,h2,e21,e22,f2⟩:=H6.out
      have HFIN:=hid (H6.out)
      clear c0 c1 c2 c3 hXl H5 HX5 HN H6 HK2
      have r0:=h2.rb.cell 0
      have r3:=h2.rb.cell 3
      have r4:=h2.rb.cell 4
      simp only [List.getElem?_toArray,List.getElem?_cons_zero,List.getElem?_cons_succ] at r0 r3 r4
      have H2:=hid (And.intro h2 f2)
      have HEN:=hid (fun q=>bengine_any (h2.base.drewN q))
      have HUS:=hid (fun q=>bused_any (h2.base.drewN q))
      have HDN:=hid (fun q=>bdown_any (h2.base.drewN q))
      have HAL:=hid (fun q=>(h2.below (below_drewN (Below.refl _ _) q)).duo.posts.alike (by omega))
      clear h2 e21 e22 f2
      go_wp2
      refine region_quiet_at 28 (by kernel_rfl) (by kernel_rfl) (by kernel_rfl) (by kernel_rfl) (by kernel_rfl) (by kernel_rfl) (by kernel_rfl) ?_
      simp only [List.take_succ_cons,List.take_zero,List.drop_succ_cons,List.drop_zero]
      repeat (go_big_quiet_step (first | (go_at_call 39;refine Calls.quiet_of_same (HEN.out _)) | (go_at_call 48;refine Calls.quiet_of_same (HUS.out _)) | (go_at_call 49;refine Calls.quiet_of_same (HDN.out _))))
      refine wpQuiet_nil ?_
      intro _ hw'
      obtain⟨nq,hw2⟩:=hw'
      subst hw2
      go_wp2_with fail
      refine (HAL.out nq).mono ?_
      rintro e w8 ⟨rfl,h8⟩
      obtain⟨L9,M9,E9,h9,e91,e92,f9⟩:=(H2.out.1.below (below_drewN (Below.refl _ wc) nq)).act_post h8
      have H9:=hid (And.intro h9 ((H2.out.2.trans ((below_drewN (Below.refl _ wc) nq).mono H2.out.1.duo.le)).trans f9))
      clear h8 h9 e91 e92 f9 HAL HEN HUS HDN
      go_wp2
      exact⟨⟨i+1,b3,L9.s,M9.R,torn3,off3,rfl,rfl,by go_num,by omega,dv2,D2,lv2,kept2,L9,M9,E9,recs2,down2,left2,H9.out.1.mono (by omega),rfl,rfl,H9.out.2⟩,by simp [intOf];omega⟩
    ·have hge2:¬ (i:Int)<(m:Int):=by omega
     obtain⟨dv1,D1,lv1,kept1,L1,M1,E1,recs1,down1,left1,h1,e1,e2,f1⟩:=HI.out
     have HF:=hid f1
     clear h1 e1 e2 f1 HI hlt2
     go_wp2
     go_ret
     exact⟨rfl,HF.out⟩
end Go.Proofs.YtjefgmeejhakbaaGreatDoor
