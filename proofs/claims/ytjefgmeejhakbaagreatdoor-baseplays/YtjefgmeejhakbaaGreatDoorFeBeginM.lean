/- The document's engine: Begin, where it begins one. -/
import Derived.Test.YtjefgmeejhakbaaGreatDoorMgBC
namespace Go.Proofs.YtjefgmeejhakbaaGreatDoor
open Go.RowKit
section
variable {w w':World} {L:REnL} {B:Nat} {E E':Eng} {i:Nat} {t:Tx}
set_option maxRecDepth 100000 in
set_option maxHeartbeats 8000000 in
theorem rbegin_ok (h:RefAt w L B E) {level:Int} (hc:begC E level=0) (hB:(B:Int)≤1000000000) :
    Calls Tryz.prog 77 #[.pointer (some ⟨L.R,0,none⟩),.int .i64 level] w fun e w'=>e=.returned (.tuple #[.int .i64 ((E.txs.length:Int)+1),.int .i64 0])∧∃ L' b,RefAt w' L' (B+1001) { E with txs:=E.txs++[newTx level E.last] }∧KeptO L.own L'.own w w'∧L'.R=L.R∧L'.bs=L.bs++[b]:=by
  obtain⟨i0,hi0,hz0,hz1,hz2⟩:=info_parts info171
  have hlv:¬ (level≠0∧level≠1∧level≠2):=fun h'=>by unfold begC at hc;rw [if_pos h'] at hc;cases hc
  have hl2:E.txs.length<200:=by
    unfold begC at hc
    rw [if_neg hlv] at hc
    by_cases h':200≤E.txs.length
    · rw [if_pos h'] at hc;cases hc
    · omega
  have hlive:E.ce.live<6:=by
    unfold begC at hc
    rw [if_neg hlv,if_neg (by omega)] at hc
    by_cases h':6≤E.ce.live
    · rw [if_pos h'] at hc;cases hc
    · omega
  obtain⟨ad,n,cap,sp,la,hn,hla,hsp0,hsp1,c12,c13,f13,c1,hlt,hrow,happ⟩:=begin_facts h hl2 level
  have hav:L.av=.slice ad n cap:=by
    obtain⟨ad',cap',hav,c12',_⟩:=h.av
    rw [c12] at c12'
    injection c12' with e
    exact e.symm
  have hI:=in_any level 0 2 w
  rw [show inB level 0 2=true by simp only [inB,decide_eq_true_eq];omega] at hI
  obtain⟨W0,hW0⟩:∃ W0,w.setCell ⟨L.R,13,none⟩ (.int .i64 (sp+1))=W0:=⟨_,rfl⟩
  rw [hW0] at hrow happ
  have d12:W0.cell? ⟨L.R,12,none⟩=some (.slice ad n cap):=by rw [← hW0,World.cell?_setCell_other _ _ _ _ (by simp)];exact c12
  have d13:W0.cell? ⟨L.R,13,none⟩=some (.int .i64 (sp+1)):=by rw [← hW0];exact World.cell?_setCell_same _ _ _ c13
  have d1:W0.cell? ⟨L.R,1,none⟩=some (.int .i64 la):=by rw [← hW0,World.cell?_setCell_other _ _ _ _ (by simp)];exact c1
  have hsz0:W0.heap.size=w.heap.size:=by rw [← hW0];simp
  obtain⟨H0,hH0⟩:∃ H0,w.heap.size=H0:=⟨_,rfl⟩
  rw [hH0] at hsz0 happ hlt
  have hltR:L.R<W0.heap.size:=by omega
  have HRW:=hid hrow.drew
  have HAPP:=hid happ
  have HRF:=hid h
  have HN:=hid hn
  have HAV:=hid hav
  have HI:=hid hI
  have HLL:=hid (And.intro hlive hla)
  have hn200:n<200:=by omega
  clear h hav hn hI hc hrow happ hlv hlive hla hl2
  go_enter Tryz.func77,Tryz.ntmps77
  go_wp2
  go_loop [6,14] (fun nv iv=>∃ j:Nat,j≤n∧iv=.int .i64 j∧nv=.int .i64 (cntL E j:Nat)) (fun _ iv=>n-(intOf iv).toNat)
  case atStart=>exact⟨0,by omega,rfl,rfl⟩
  case round =>
    obtain⟨j,hj,rfl,rfl⟩:=hrel
    have hcl:=cntL_le E j
    by_cases hlt:j<n
    · obtain⟨u,hu⟩:∃ u,E.txs[j]?=some u:=⟨E.txs[j]'(by rw [HN.out];exact hlt),List.getElem?_eq_getElem _⟩
      obtain⟨bj,hbj⟩:=HRF.out.place hu
      obtain⟨g,cap2,hav2,hcj,_,_⟩:=HRF.out.place2 hu hbj
      rw [HAV.out] at hav2
      have e1:ad=some ⟨g,0,none⟩:=by injection hav2
      subst e1
      have hac:=HRF.out.alive hu hbj
      have hst:=cntL_step hu
      have hj0:(0:Int)≤(j:Int):=by omega
      have hj1:(j:Int)<(n:Int):=by omega
      obtain⟨al,hal⟩:∃ al,liveB u.state=al:=⟨_,rfl⟩
      rw [hal] at hac hst
      have HAC:=hid hac
      have HST:=hid hst
      clear hu hbj hav2 hac hst hal
      cases al with
      | true =>
        go_wp2_with fail
        refine HAC.out.mono ?_
        rintro e w5 ⟨rfl,hw5⟩
        rw [hw5]
        clear hw5 w5
        go_wp2
        go_round
        case rel=>exact⟨j+1,by omega,by go_num,by rw [HST.out];go_num⟩
        case measure=>simp [intOf];omega
      | false =>
        go_wp2_with fail
        refine HAC.out.mono ?_
        rintro e w5 ⟨rfl,hw5⟩
        rw [hw5]
        clear hw5 w5
        go_wp2
        go_round
        case rel=>exact⟨j+1,by omega,by go_num,by rw [HST.out];rfl⟩
        case measure=>simp [intOf];omega
    · have hjn:j=n:=by omega
      subst hjn
      have hj1:¬ (j:Int)<(j:Int):=by omega
      have hcnt:cntL E j=E.ce.live:=by rw [← HN.out];exact cntL_all E
      have gl:¬ (200:Int)≤(j:Int):=by have:=HN.out;omega
      have gn:¬ (6:Int)≤((cntL E j:Nat):Int):=by have:=HLL.out.1;omega
      have gs0:-9223372036854775808≤sp+1:=by omega
      have gs1:sp+1≤9223372036854775807:=by omega
      clear hcnt
      go_wp2_with fail
      refine HI.out.mono ?_
      rintro e w5 ⟨rfl,hw5⟩
      rw [hw5]
      clear hw5 w5
      go_wp2
      have hcs:rtxCells (newRL H0) (newR level la (sp+1))=#[.int .i64 level,.int .i64 0,.int .i64 0,.int .i64 la,.int .i64 (sp+1),.int .i64 0,.slice none 0 0,.slice none 0 0,.int .i64 0,.int .i64 0,.slice none 0 0,.slice none 0 0]:=rfl
      have hnews:=(alloc3_new W0 (.cells (rtxCells (newRL H0) (newR level la (sp+1))) 177) (.cells #[.pointer (some ⟨H0,0,none⟩)] 171)).1
      rw [hcs] at hnews
      have happ:=HAPP.out
      rw [hcs] at happ
      have HAPP2:=hid happ
      have HNW:=hid hnews
      have HW0:=hid hW0
      have HHH:=hid hH0
      clear happ HAPP hcs hW0 hH0 hnews
      subst hsz0
      go_region_law
        (refine step_append_lies _ (by rfl) _ _ _ (by rfl) (L.R+1) 171 i0 _ 1 8 Tryz.underlying111 hi0 hz0 hz1 hz2 rfl (by omega) (.slice ad j cap) j (L.bs.map ptrV) (by rfl) ((HRW.out.alloc _).alloc _)
            ⟨W0.heap.size+1,0,none⟩ 1 1 [.pointer (some ⟨W0.heap.size,0,none⟩)] (by first | rfl | simp) (by rfl) (World.news_of_block (cs:=#[.pointer (some ⟨W0.heap.size,0,none⟩)]) (t:=171) (fr:=(0,0)) HNW.out) (by simp [Value.oneCell'])
            (by omega) (by unfold maxLen;omega) (by omega) (by simp;omega) (W0.heap.size+2) (by simp) ?_;intro gg cap' w2 ho2 hgrow2 hat2 hlt2
         obtain⟨cv12,fv12,hpost⟩:=HAPP2.out w2 gg cap' ho2 hgrow2 hat2
         have HPOST:=hid hpost
         have glt:L.R<w2.heap.size:=by have:=hgrow2.size;simp at this;omega
         clear hpost ho2 hgrow2 hat2 hlt2)
      all_goals
        go_wp2
        go_ret2
        rw [HN.out]
        refine⟨?_,HPOST.out⟩
        go_num
end
end Go.Proofs.YtjefgmeejhakbaaGreatDoor
