/- The document's engine: Read, of the store. -/
import Derived.Test.YtjefgmeejhakbaaGreatDoorMgBC
namespace Go.Proofs.YtjefgmeejhakbaaGreatDoor
open Go.RowKit
theorem alloc2_new (w1:World) (o o':Obj):((w1.alloc o).drew.alloc o').heap[w1.heap.size+1]?=some o':=by
 have:=heap_alloc_new (w1.alloc o).drew o'
 simpa using this
section
variable {w w':World} {L:REnL} {B:Nat} {E E':Eng} {i:Nat} {t:Tx}
set_option maxRecDepth 100000 in
set_option maxHeartbeats 8000000 in
theorem rread_loose (h:RefAt w L B E) (hB:B+30000≤10000000) (ht:E.txs[i]?=some t) (hs:t.state=0) {k:Nat} (hk:k<10) (hv:t.vals (k:Int)=none) {RR:(Int × Int) × Eng} (hR:readE 7 E i (k:Int)=some RR) (h0:t.level=0) :
    Calls Tryz.prog 78 #[.pointer (some ⟨L.R,0,none⟩),.int .i64 ((i:Int)+1),.int .i64 (k:Int)] w fun e w'=>e=.returned (.tuple #[.int .i64 RR.1.1,.int .i64 RR.1.2])∧RefPost L (B+30000) RR.2 w w':=by
  obtain⟨i0,hi0,hz0,hz1,hz2⟩:=info_parts info90
  obtain⟨b,hb⟩:=h.place ht
  have HF:=hid (of_ok h true ht (fun _=>hs) hb)
  have hO:=h.owns (by omega) ht hb (k:Int)
  rw [hv] at hO
  simp only [Option.getD_none,Option.isSome_none] at hO
  have HO:=hid hO
  have hI:=in_any (k:Int) 0 9 w
  rw [show inB (k:Int) 0 9=true by simp only [inB,decide_eq_true_eq];omega] at hI
  have HI:=hid hI
  obtain⟨_,_,_,_,c0,c3,_⟩:=h.cells ht hb
  obtain⟨c1,hl0⟩:=h.lastc
  have hrd:=h.read (by omega) hk (seesP E t)
  have hvl:=h.ver_le hk (seesP E t)
  unfold readE at hR
  rw [ht] at hR
  simp only at hR
  rw [hv] at hR
  simp only at hR
  rw [if_neg (by simp [keyB];omega)] at hR
  obtain⟨⟨⟨a,x⟩,er⟩,hver⟩:∃ p,verP E (k:Int) (seesP E t)=p:=⟨_,rfl⟩
  rw [hver] at hrd hvl hR
  simp only at hrd hvl hR
  obtain⟨frm,hfrm⟩:∃ frm,(E.wr a).getD 0=frm:=⟨_,rfl⟩
  rw [hfrm] at hR
  obtain⟨E1,hE1⟩:∃ E1,E.setTx i (noteReadP t (k:Int) frm)=E1:=⟨_,rfl⟩
  rw [hE1] at hR
  have HRD:=hid hrd
  have HRF:=hid h
  have HT:=hid ht
  have HS:=hid hs
  have HB:=hid hb
  have HBB:=hid (show B≤10000000 by omega)
  have HAL:=hid hvl
  have HFRM:=hid hfrm
  have HBL:=hid (show b<w.heap.size from by
    obtain⟨R,hA,hRel⟩:=h
    obtain⟨r,hr,hX⟩:=hRel.getR ht
    obtain⟨l,hl,rfl⟩:=bs_getb hb
    exact (hA.txs i l r hl hr).lt)
  have HT1:=hid (show E1.txs[i]?=some (noteReadP t (k:Int) frm) from by rw [← hE1];exact setTx_get ht)
  have hsee:seesP E t=if t.level=0 then E.last else t.start:=rfl
  obtain⟨lv,hlv⟩:∃ lv,t.level=lv:=⟨_,rfl⟩
  obtain⟨st,hst⟩:∃ st,t.start=st:=⟨_,rfl⟩
  obtain⟨la,hla⟩:∃ la,E.last=la:=⟨_,rfl⟩
  rw [hlv] at c0 hsee h0 hR
  rw [hst] at c3 hsee
  rw [hla] at c1 hsee
  have HLV:=hid hlv
  have HST:=hid hst
  rw [if_neg (by omega)] at hR
  injection hR with hR
  have HR1:=hid (show RR.1=(x,er) from by rw [← hR])
  have HR2:=hid (show RR.2=E1 from by rw [← hR])
  rw [if_pos h0] at hsee
  rw [hsee] at HRD
  subst h0
  clear h hO hI ht hs hR hrd hvl hver hsee hlv hst hla hfrm hb hv
  go_enter Tryz.func78,Tryz.ntmps78
  go_wp2_with fail
  refine HF.out.mono ?_
  rintro e w1 ⟨rfl,hw1⟩
  rw [hw1]
  clear hw1 w1
  go_wp2_with fail
  refine HO.out.mono ?_
  rintro e w1 ⟨rfl,hw1⟩
  rw [hw1]
  clear hw1 w1
  go_wp2_with fail
  refine HI.out.mono ?_
  rintro e w1 ⟨rfl,hw1⟩
  rw [hw1]
  clear hw1 w1
  go_wp2_with fail
  refine HRD.out.mono ?_
  rintro e w1 ⟨rfl,hB1⟩
  have hs1:=hB1.size
  have h1:=HRF.out.below hB1
  have hB2:Below w1.heap.size w1 (w1.alloc (.cells #[.int .i64 a,.int .i64 x] 199)):=(Below.refl _ w1).alloc (Nat.le_refl _) _
  have h2:=h1.below hB2
  have bx:=heap_alloc_new w1 (.cells #[.int .i64 a,.int .i64 x] 199)
  have bx0:(w1.alloc (.cells #[.int .i64 a,.int .i64 x] 199)).cell? ⟨w1.heap.size,0,none⟩=some (.int .i64 a):=(cell_of_row _ w1.heap.size 0 _ _ (0,0) bx).trans rfl
  obtain⟨ad,n,cap,xs,hn,c6,f6,hbl,hrow,happ⟩:=readsA h2 HT.out HS.out HB.out HBB.out (k:=k) frm
  obtain⟨mb,c14,hlook⟩:=(h2.below (w':=(w1.alloc (.cells #[.int .i64 a,.int .i64 x] 199)).drew) (below_drewN (Below.refl _ _) 1)).by HAL.out
  rw [HFRM.out] at hlook
  have hbox:w1.heap.size≠b:=by
    have:=HBL.out
    omega
  have hbl1:b<w1.heap.size:=by
    have:=HBL.out
    omega
  have HB12:=hid (And.intro hB1 hB2)
  have HAPP:=hid happ
  have HRW:=hid hrow.drew
  have HNOB:=hid (show ¬ L.own w1.heap.size from fun ho=>by have:=HRF.out.own_lt ho;omega)
  clear h1 h2 bx hrow happ hB1 hB2 HRD
  go_wp2
  go_cut [] (fun wx=>∃ L1,Hid (RefAt wx L1 (B+1) E1)∧Hid (KeptO L.own L1.own (w1.alloc (.cells #[.int .i64 a,.int .i64 x] 199)) wx)∧Hid (HdE L1 L∧L1.bs=L.bs))
  case first =>
    go_region_law
      (refine step_append_lies _ (by rfl) _ _ _ (by rfl) 0 90 i0 _ 4 32 Tryz.underlying22 hi0 hz0 hz1 hz2 rfl (by omega) (.slice ad n cap) n xs (by rfl) (HRW.out.alloc _)
          ⟨w1.heap.size+1,0,none⟩ 1 1 [.int .i64 ((i:Int)+1),.int .i64 (k:Int),.bool false,.int .i64 frm] (by first | rfl | simp) (by rfl) (World.news_of_block (cs:=#[.int .i64 ((i:Int)+1),.int .i64 (k:Int),.bool false,.int .i64 frm]) (t:=90) (fr:=(0,0)) (alloc2_new w1 _ _)) (by simp [Value.oneCell'])
          (by omega) (by unfold maxLen;omega) (by omega) (by simp) (w1.heap.size+2) (by simp) ?_;intro gg cap' w2 ho2 hgrow2 hat2 hlt2
       obtain⟨cv6,fv6,hpost⟩:=HAPP.out _ w2 gg cap' (Below.alloc (below_drewN (Below.refl _ _) 1) (by simp) _) ho2 hgrow2 (hat2.imp id (fun e=>by simp;omega))
       rw [hE1] at hpost
       have HPOST:=hid hpost
       clear hpost ho2 hgrow2 hat2 hlt2)
    all_goals
      go_wp2_with fail
      go_meet
      obtain⟨L1,a1,a2,a3,a4⟩:=HPOST.out
      exact⟨L1,a1,a2,a3,a4⟩
  case rest =>
    obtain⟨L1,hA1,hK1,hH1⟩:=hcut
    have hb1:L1.bs[i]?=some b:=by rw [hH1.out.2];exact HB.out
    obtain⟨_,_,_,_,d0,d3,_⟩:=hA1.out.cells HT1.out hb1
    have bxc:wc.cell? ⟨w1.heap.size,1,none⟩=some (.int .i64 x):=by
      rw [World.cell?_of_block (a:=⟨w1.heap.size,1,none⟩) (hK1.out.block w1.heap.size (by simp) HNOB.out)]
      exact (cell_of_row _ w1.heap.size 1 _ _ (0,0) (heap_alloc_new w1 (.cells #[.int .i64 a,.int .i64 x] 199))).trans rfl
    simp only [noteReadP] at d0 d3
    rw [HLV.out] at d0
    have HP:=hid (show RefPost L (B+30000) RR.2 w wc from by
      rw [HR2.out]
      exact⟨L1,hA1.out.mono (by omega),((KeptO.of_below HB12.out.1).trans (KeptO.of_below HB12.out.2)).trans hK1.out,hH1.out.1,hH1.out.2⟩)
    clear hA1 hK1 hH1 hb1 d3
    go_wp2
    go_ret2
    rw [HR1.out]
    exact⟨rfl,HP.out⟩
end
end Go.Proofs.YtjefgmeejhakbaaGreatDoor
