/- law.alike: all that both tell is the same. -/
import Derived.Test.YtjefgmeejhakbaaGreatDoorMgAC
import Derived.Test.YtjefgmeejhakbaaGreatDoorMgAX
import Derived.Test.YtjefgmeejhakbaaGreatDoorMgAP
namespace Go.Proofs.YtjefgmeejhakbaaGreatDoor
open Go.RowKit
section
variable {b0:Nat} {w w':World} {L L':EnL} {M M':REnL} {B B':Nat} {E E':Eng}
set_option maxRecDepth 100000 in
set_option maxHeartbeats 8000000 in
theorem alike_true (h:DuoOk b0 w L M B E) (hB:B≤10000000) :
    Calls Tryz.prog 21 #[.pointer (some ⟨L.s,0,none⟩),.pointer (some ⟨M.R,0,none⟩)] w fun e w'=>e=.returned (.bool true)∧Below w.heap.size w w':=by
  have hfit:=h.duo.rf.fits hB
  have hcl:=h.duo.rf.comNw.1
  obtain⟨ad,cap,ah,caph,c0,c1,c15,hrow,hlt,hhl,hrd⟩:=h.duo.rf.tells
  obtain⟨ada,capa,hav,c12,hl200⟩:=h.duo.rf.av
  rw [hav] at c12
  obtain⟨n,hn⟩:∃ n,E.txs.length=n:=⟨_,rfl⟩
  obtain⟨la,hla⟩:∃ la,E.last=la:=⟨_,rfl⟩
  obtain⟨mk,hmk⟩:∃ mk,manyP E.ks=mk:=⟨_,rfl⟩
  obtain⟨hh,hhh⟩:∃ hh,histP E=hh:=⟨_,rfl⟩
  obtain⟨al,hal⟩:∃ al,allE E=al:=⟨_,rfl⟩
  have hall:al.length≤10:=by rw [← hal];exact allK_length _ 10
  have hhl2:hh.length≤4000000000:=by rw [← hhh];omega
  have TX:Hid (∀ W,Below w.heap.size w W→Calls Tryz.prog 32 #[.pointer (some ⟨L.s,0,none⟩)] W fun e w'=>e=.returned (.int .i64 (n:Int))∧w'=W):=fun W hW=>by rw [← hn];exact txsE_any (h.duo.en.below hW)
  have LX:Hid (∀ W,Below w.heap.size w W→Calls Tryz.prog 86 #[.pointer (some ⟨L.s,0,none⟩)] W fun e w'=>e=.returned (.int .i64 la)∧w'=W):=fun W hW=>by rw [← hla];exact lastE_any (h.duo.en.below hW)
  have MX:Hid (∀ W,Below w.heap.size w W→Calls Tryz.prog 87 #[.pointer (some ⟨L.s,0,none⟩)] W fun e w'=>e=.returned (.int .i64 (mk:Int))∧w'=W):=fun W hW=>by rw [← hmk];exact manyE_any (h.duo.en.below hW) (fun l hl=>Nat.le_trans (hfit.len l hl) (by omega))
  have AX:Hid (∀ W,Below w.heap.size w W→Calls Tryz.prog 29 #[.pointer (some ⟨L.s,0,none⟩)] W fun e w'=>∃ tv,e=.returned tv∧w'.ownsRow W.heap.size 78 2 tv al.length (vrow al)∧Below W.heap.size W w'):=fun W hW=>by rw [← hal];exact allE_any (h.duo.en.below hW) hfit
  have AR:Hid (∀ W,Below w.heap.size w W→Calls Tryz.prog 88 #[.pointer (some ⟨M.R,0,none⟩),.int .i64 la] W fun e w'=>∃ tv,e=.returned tv∧w'.ownsRow W.heap.size 78 2 tv al.length (vrow al)∧Below W.heap.size W w'):=fun W hW=>by rw [← hal,← hla];exact (h.duo.rf.below hW).allc (by omega)
  have HX:Hid (∀ W,Below w.heap.size w W→Calls Tryz.prog 25 #[.pointer (some ⟨L.s,0,none⟩)] W fun e w'=>∃ tv,e=.returned tv∧w'.ownsRow W.heap.size 90 4 tv hh.length (opsV hh)∧Below W.heap.size W w'):=fun W hW=>by rw [← hhh];exact hist_big (h.duo.en.below hW) (fun i hi t ht=>Nat.le_trans (hrd i hi t ht) hB) hcl
  rw [hn] at c12 hl200
  rw [hla] at c1
  rw [hmk] at c0
  rw [hhh] at c15 hrow
  have S:Hid (∀ W,Below w.heap.size w W→W.cell? ⟨M.R,12,none⟩=some (.slice ada n capa)∧W.cell? ⟨M.R,1,none⟩=some (.int .i64 la)∧W.cell? ⟨M.R,0,none⟩=some (.slice ad mk cap)∧W.cell? ⟨M.R,15,none⟩=some (.slice ah hh.length caph)):=fun W hW=>⟨(hW.cell (p:=⟨M.R,12,none⟩) hlt).trans c12,(hW.cell (p:=⟨M.R,1,none⟩) hlt).trans c1,(hW.cell (p:=⟨M.R,0,none⟩) hlt).trans c0,(hW.cell (p:=⟨M.R,15,none⟩) hlt).trans c15⟩
  have HRW:=hid hrow
  have HD:=hid h
  have d0:Hid (Below w.heap.size w w.drew):=below_drewN (Below.refl _ w) 1
  have HNN:=hid (And.intro hn (And.intro hla hal))
  clear h hfit hcl hhl hrd hav hn hla hmk hhh hal hrow
  go_enter Tryz.func21,Tryz.ntmps21
  go_wp2
  go_region_held3 (fun W=>W.cell? ⟨M.R,12,none⟩=some (.slice ada n capa)∧W.cell? ⟨M.R,1,none⟩=some (.int .i64 la)∧W.cell? ⟨M.R,0,none⟩=some (.slice ad mk cap)∧W.cell? ⟨M.R,15,none⟩=some (.slice ah hh.length caph))
    (first
      | go_keep
      | exact S.out _ d0.out
      | exact S.out _ b2.out
      | exact S.out _ b3.out
      | exact S.out _ b4.out
      | exact S.out _ b5.out
      | exact S.out _ b6.out)
    (first
      | (go_at_call 32
         refine (TX.out _ d0.out).mono ?_
         rintro e w1 ⟨rfl,hw1⟩
         rw [hw1]
         clear hw1 w1)
      | (go_at_call 86
         refine (LX.out _ d0.out).mono ?_
         rintro e w1 ⟨rfl,hw1⟩
         rw [hw1]
         clear hw1 w1)
      | (go_at_call 87
         refine (MX.out _ d0.out).mono ?_
         rintro e w1 ⟨rfl,hw1⟩
         rw [hw1]
         clear hw1 w1)
      | (go_at_call 29
         refine (AX.out _ d0.out).mono ?_
         rintro e w2 ⟨tv,rfl,ho,hb⟩
         have b2:=hid (d0.out.trans (hb.mono d0.out.size))
         have O2:=hid ho
         clear ho hb)
      | (go_at_call 88
         refine (AR.out _ b2.out).mono ?_
         rintro e w3 ⟨tv2,rfl,ho,hb⟩
         have b3:=hid (b2.out.trans (hb.mono b2.out.size))
         have O3:=hid (And.intro (owns_same O2.out (fun g hg=>hb.block g (O2.out.lt g hg).2)) ho)
         clear ho hb)
      | (go_at_call 15
         refine (sameW_true _ _ tv tv2 al w3 (by omega) O3.out.1 O3.out.2).mono ?_
         rintro e w4 ⟨rfl,hb⟩
         have b4:=hid (b3.out.trans (hb.mono b3.out.size))
         clear hb)
      | (go_at_call 25
         refine (HX.out _ b4.out).mono ?_
         rintro e w5 ⟨tv3,rfl,ho,hb⟩
         have b5:=hid (b4.out.trans (hb.mono b4.out.size))
         have O5:=hid ho
         clear ho hb)
      | (go_at_call 89
         refine (sameO_true _ 0 tv3 (.slice ah hh.length caph) hh w5 hhl2 O5.out (owns_same HRW.out (fun g hg=>b5.out.block g (HRW.out.lt g hg).2))).mono ?_
         rintro e w6 ⟨rfl,hb⟩
         have b6:=hid (b5.out.trans (hb.mono b5.out.size))
         clear hb))
  clear O2 O3 O5 TX LX MX AX AR HX
  have HN:=hid (fun (W:World) (hW:Below w.heap.size w W)=>HD.out.hand.kept (KeptO.of_below (o:=both L M) hW) (both_not_0 HD.out))
  go_wp2
  go_loopw [5] (fun iv wr=>∃ j:Nat,j≤n+2∧iv=.int .i64 j∧Hid (Below w.heap.size w wr)) (fun iv _=>n+2-(intOf iv).toNat)
  case atStart=>exact⟨0,by omega,rfl,b6⟩
  case round =>
    obtain⟨j,hj,rfl,HB⟩:=hrel
    obtain⟨s12,s1,s0,s15⟩:=S.out wr HB.out
    have slt:M.R<wr.heap.size:=by have:=HB.out.size;omega
    by_cases hle:j≤n+1
    · have g1:(j:Int)≤(n:Int)+1:=by omega
      have hi64:I64 (j:Int):=by unfold I64;omega
      by_cases hsk:12<j∧(j:Int)<(n:Int)-8
      · have g2:(12:Int)<(j:Int):=by omega
        have g3:(j:Int)<(n:Int)-8:=hsk.2
        clear s1 s0 s15 hsk
        go_wp2
        go_roundw
        case rel=>exact⟨j+1,by omega,by go_num,HB⟩
        case measure=>simp [intOf];omega
      · by_cases h12:12<j
        · have g2:(12:Int)<(j:Int):=by omega
          have g3:¬ (j:Int)<(n:Int)-8:=fun h'=>hsk ⟨h12,h'⟩
          clear hsk h12
          rcases num_cases E (j:Int) with hms | ⟨k,t,hkj,ht⟩
          · clear s1 s0 s15
            go_wp2_with fail
            refine (of_miss (HD.out.duo.rf.below HB.out) false hms).mono ?_
            rintro e u1 ⟨rfl,hu1⟩
            rw [hu1]
            clear hu1 u1
            go_wp2_with fail
            refine (state_err (HD.out.duo.en.below HB.out) hms).mono ?_
            rintro e u1 ⟨rfl,hu1⟩
            rw [hu1]
            clear hu1 u1
            go_wp2_with fail
            refine ((HD.out.duo.rf.below HB.out).writes_miss hms).mono ?_
            rintro e u1 ⟨rfl,hu1⟩
            rw [hu1]
            clear hu1 u1
            go_wp2_with fail
            refine (writesE_err (HD.out.duo.en.below HB.out) hms).mono ?_
            rintro e u1 ⟨rfl,hu1⟩
            rw [hu1]
            clear hu1 u1
            go_wp2_with fail
            refine (bare_true 7 (errV 7) wr (errV_at wr 7) (HN.out wr HB.out)).mono ?_
            rintro e u1 ⟨rfl,hb1⟩
            have B1:=hid (HB.out.trans (hb1.mono HB.out.size))
            clear hb1
            go_wp2_with fail
            refine (bare_true 7 (errV 7) u1 (errV_at u1 7) (HN.out u1 B1.out)).mono ?_
            rintro e u2 ⟨rfl,hb1⟩
            have B2:=hid (B1.out.trans (hb1.mono B1.out.size))
            clear hb1
            go_wp2_with fail
            refine (sameW_nil none none 0 0 u2).mono ?_
            rintro e u3 ⟨rfl,hu1⟩
            rw [hu1]
            clear hu1 u3
            go_wp2_with fail
            refine (waitsE_any (HD.out.duo.en.below B2.out) hi64).mono ?_
            rintro e u3 ⟨rfl,q3,hu3⟩
            have B3:=hid (show Below w.heap.size w u3 from by rw [hu3];exact below_drewN B2.out q3)
            clear hu3
            go_wp2_with fail
            refine ((HD.out.duo.rf.below B3.out).waits (j:Int)).mono ?_
            rintro e u4 ⟨rfl,q4,hu4⟩
            have B4:=hid (show Below w.heap.size w u4 from by rw [hu4];exact below_drewN B3.out q4)
            clear hu4
            go_wp2
            go_roundw
            case rel=>exact⟨j+1,by omega,by go_num,B4⟩
            case measure=>simp [intOf];omega
          · clear s1 s0 s15
            have hjk:j=k+1:=by omega
            subst hjk
            obtain⟨bj,hbj⟩:=HD.out.duo.rf.place ht
            have HT:=hid ht
            have HBB:=hid hbj
            have hcast:((k+1:Nat):Int)=(k:Int)+1:=by omega
            rw [hcast] at g1 g2 g3 hi64 ⊢
            clear ht hbj hkj hcast
            go_wp2_with fail
            refine (of_ok (HD.out.duo.rf.below HB.out) false HT.out (fun e=>by cases e) HBB.out).mono ?_
            rintro e u1 ⟨rfl,hu1⟩
            rw [hu1]
            clear hu1 u1
            go_wp2_with fail
            refine (state_ok (HD.out.duo.en.below HB.out) HT.out).mono ?_
            rintro e u0 ⟨rfl,q0,hu0⟩
            have B0:=hid (show Below w.heap.size w u0 from by rw [hu0];exact below_drewN HB.out q0)
            clear hu0
            go_wp2_with fail
            refine ((HD.out.duo.rf.below B0.out).writes (by omega) HT.out).mono ?_
            rintro e u1 ⟨tv5,rfl,ho,hb1⟩
            have B1:=hid (B0.out.trans (hb1.mono B0.out.size))
            have O1:=hid ho
            clear ho hb1
            go_wp2_with fail
            refine (writesE_ok (HD.out.duo.en.below B1.out) HT.out).mono ?_
            rintro e u2 ⟨tv6,rfl,ho,hb1⟩
            have B2:=hid (B1.out.trans (hb1.mono B1.out.size))
            have O2:=hid (And.intro (owns_same O1.out (fun g hg=>hb1.block g (O1.out.lt g hg).2)) ho)
            clear ho hb1 O1
            go_wp2_with fail
            refine (bare_true 0 .nilIface u2 (errV_at u2 0) (HN.out u2 B2.out)).mono ?_
            rintro e u3 ⟨rfl,hb1⟩
            have B3:=hid (B2.out.trans (hb1.mono B2.out.size))
            have O3:=hid (And.intro (owns_same O2.out.1 (fun g hg=>hb1.block g (O2.out.1.lt g hg).2)) (owns_same O2.out.2 (fun g hg=>hb1.block g (O2.out.2.lt g hg).2)))
            clear hb1 O2
            go_wp2_with fail
            refine (bare_true 0 .nilIface u3 (errV_at u3 0) (HN.out u3 B3.out)).mono ?_
            rintro e u4 ⟨rfl,hb1⟩
            have B4:=hid (B3.out.trans (hb1.mono B3.out.size))
            have O4:=hid (And.intro (owns_same O3.out.1 (fun g hg=>hb1.block g (O3.out.1.lt g hg).2)) (owns_same O3.out.2 (fun g hg=>hb1.block g (O3.out.2.lt g hg).2)))
            clear hb1 O3
            go_wp2_with fail
            refine (sameW_true _ _ tv6 tv5 (writesP t.vals) u4 (Nat.le_trans (writesP_len _) (by omega)) O4.out.2 O4.out.1).mono ?_
            rintro e u5 ⟨rfl,hb1⟩
            have B5:=hid (B4.out.trans (hb1.mono B4.out.size))
            clear hb1 O4
            go_wp2_with fail
            refine (waitsE_any (HD.out.duo.en.below B5.out) hi64).mono ?_
            rintro e u6 ⟨rfl,q6,hu6⟩
            have B6:=hid (show Below w.heap.size w u6 from by rw [hu6];exact below_drewN B5.out q6)
            clear hu6
            go_wp2_with fail
            refine ((HD.out.duo.rf.below B6.out).waits ((k:Int)+1)).mono ?_
            rintro e u7 ⟨rfl,q7,hu7⟩
            have B7:=hid (show Below w.heap.size w u7 from by rw [hu7];exact below_drewN B6.out q7)
            clear hu7
            obtain⟨z1,z2,_⟩:=(HD.out.duo.rf.below B7.out).cells HT.out HBB.out
            have zlt:bj<u7.heap.size:=World.block_lt_of_cell? u7 _ z1
            go_wp2
            go_roundw
            case rel=>exact⟨k+2,by omega,by go_num,B7⟩
            case measure=>simp [intOf];omega
        · have g2:¬ (12:Int)<(j:Int):=by omega
          clear hsk h12
          rcases num_cases E (j:Int) with hms | ⟨k,t,hkj,ht⟩
          · clear s1 s0 s15
            go_wp2_with fail
            refine (of_miss (HD.out.duo.rf.below HB.out) false hms).mono ?_
            rintro e u1 ⟨rfl,hu1⟩
            rw [hu1]
            clear hu1 u1
            go_wp2_with fail
            refine (state_err (HD.out.duo.en.below HB.out) hms).mono ?_
            rintro e u1 ⟨rfl,hu1⟩
            rw [hu1]
            clear hu1 u1
            go_wp2_with fail
            refine ((HD.out.duo.rf.below HB.out).writes_miss hms).mono ?_
            rintro e u1 ⟨rfl,hu1⟩
            rw [hu1]
            clear hu1 u1
            go_wp2_with fail
            refine (writesE_err (HD.out.duo.en.below HB.out) hms).mono ?_
            rintro e u1 ⟨rfl,hu1⟩
            rw [hu1]
            clear hu1 u1
            go_wp2_with fail
            refine (bare_true 7 (errV 7) wr (errV_at wr 7) (HN.out wr HB.out)).mono ?_
            rintro e u1 ⟨rfl,hb1⟩
            have B1:=hid (HB.out.trans (hb1.mono HB.out.size))
            clear hb1
            go_wp2_with fail
            refine (bare_true 7 (errV 7) u1 (errV_at u1 7) (HN.out u1 B1.out)).mono ?_
            rintro e u2 ⟨rfl,hb1⟩
            have B2:=hid (B1.out.trans (hb1.mono B1.out.size))
            clear hb1
            go_wp2_with fail
            refine (sameW_nil none none 0 0 u2).mono ?_
            rintro e u3 ⟨rfl,hu1⟩
            rw [hu1]
            clear hu1 u3
            go_wp2_with fail
            refine (waitsE_any (HD.out.duo.en.below B2.out) hi64).mono ?_
            rintro e u3 ⟨rfl,q3,hu3⟩
            have B3:=hid (show Below w.heap.size w u3 from by rw [hu3];exact below_drewN B2.out q3)
            clear hu3
            go_wp2_with fail
            refine ((HD.out.duo.rf.below B3.out).waits (j:Int)).mono ?_
            rintro e u4 ⟨rfl,q4,hu4⟩
            have B4:=hid (show Below w.heap.size w u4 from by rw [hu4];exact below_drewN B3.out q4)
            clear hu4
            go_wp2
            go_roundw
            case rel=>exact⟨j+1,by omega,by go_num,B4⟩
            case measure=>simp [intOf];omega
          · clear s1 s0 s15
            have hjk:j=k+1:=by omega
            subst hjk
            obtain⟨bj,hbj⟩:=HD.out.duo.rf.place ht
            have HT:=hid ht
            have HBB:=hid hbj
            have hcast:((k+1:Nat):Int)=(k:Int)+1:=by omega
            rw [hcast] at g1 g2 hi64 ⊢
            clear ht hbj hkj hcast
            go_wp2_with fail
            refine (of_ok (HD.out.duo.rf.below HB.out) false HT.out (fun e=>by cases e) HBB.out).mono ?_
            rintro e u1 ⟨rfl,hu1⟩
            rw [hu1]
            clear hu1 u1
            go_wp2_with fail
            refine (state_ok (HD.out.duo.en.below HB.out) HT.out).mono ?_
            rintro e u0 ⟨rfl,q0,hu0⟩
            have B0:=hid (show Below w.heap.size w u0 from by rw [hu0];exact below_drewN HB.out q0)
            clear hu0
            go_wp2_with fail
            refine ((HD.out.duo.rf.below B0.out).writes (by omega) HT.out).mono ?_
            rintro e u1 ⟨tv5,rfl,ho,hb1⟩
            have B1:=hid (B0.out.trans (hb1.mono B0.out.size))
            have O1:=hid ho
            clear ho hb1
            go_wp2_with fail
            refine (writesE_ok (HD.out.duo.en.below B1.out) HT.out).mono ?_
            rintro e u2 ⟨tv6,rfl,ho,hb1⟩
            have B2:=hid (B1.out.trans (hb1.mono B1.out.size))
            have O2:=hid (And.intro (owns_same O1.out (fun g hg=>hb1.block g (O1.out.lt g hg).2)) ho)
            clear ho hb1 O1
            go_wp2_with fail
            refine (bare_true 0 .nilIface u2 (errV_at u2 0) (HN.out u2 B2.out)).mono ?_
            rintro e u3 ⟨rfl,hb1⟩
            have B3:=hid (B2.out.trans (hb1.mono B2.out.size))
            have O3:=hid (And.intro (owns_same O2.out.1 (fun g hg=>hb1.block g (O2.out.1.lt g hg).2)) (owns_same O2.out.2 (fun g hg=>hb1.block g (O2.out.2.lt g hg).2)))
            clear hb1 O2
            go_wp2_with fail
            refine (bare_true 0 .nilIface u3 (errV_at u3 0) (HN.out u3 B3.out)).mono ?_
            rintro e u4 ⟨rfl,hb1⟩
            have B4:=hid (B3.out.trans (hb1.mono B3.out.size))
            have O4:=hid (And.intro (owns_same O3.out.1 (fun g hg=>hb1.block g (O3.out.1.lt g hg).2)) (owns_same O3.out.2 (fun g hg=>hb1.block g (O3.out.2.lt g hg).2)))
            clear hb1 O3
            go_wp2_with fail
            refine (sameW_true _ _ tv6 tv5 (writesP t.vals) u4 (Nat.le_trans (writesP_len _) (by omega)) O4.out.2 O4.out.1).mono ?_
            rintro e u5 ⟨rfl,hb1⟩
            have B5:=hid (B4.out.trans (hb1.mono B4.out.size))
            clear hb1 O4
            go_wp2_with fail
            refine (waitsE_any (HD.out.duo.en.below B5.out) hi64).mono ?_
            rintro e u6 ⟨rfl,q6,hu6⟩
            have B6:=hid (show Below w.heap.size w u6 from by rw [hu6];exact below_drewN B5.out q6)
            clear hu6
            go_wp2_with fail
            refine ((HD.out.duo.rf.below B6.out).waits ((k:Int)+1)).mono ?_
            rintro e u7 ⟨rfl,q7,hu7⟩
            have B7:=hid (show Below w.heap.size w u7 from by rw [hu7];exact below_drewN B6.out q7)
            clear hu7
            obtain⟨z1,z2,_⟩:=(HD.out.duo.rf.below B7.out).cells HT.out HBB.out
            have zlt:bj<u7.heap.size:=World.block_lt_of_cell? u7 _ z1
            go_wp2
            go_roundw
            case rel=>exact⟨k+2,by omega,by go_num,B7⟩
            case measure=>simp [intOf];omega
    · have g1:¬ (j:Int)≤(n:Int)+1:=by omega
      go_wp2
      go_ret
      exact⟨rfl,HB.out⟩
end
end Go.Proofs.YtjefgmeejhakbaaGreatDoor
