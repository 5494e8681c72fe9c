/- BpRun BpCase EpWalk: put together for a claim. -/
import Derived.Test.YtjefgmeejhakbaaGreatDoorBpFill
import Derived.Test.YtjefgmeejhakbaaGreatDoorMgAW
/- Both bases: one is begun, writes, and is committed. -/
namespace Go.Proofs.YtjefgmeejhakbaaGreatDoor
open Go.RowKit
section
variable {b0:Nat} {w w' w0:World} {b d c:Nat} {dv:List Value} {D:Dsk} {lv:Value} {kept:List (Int × Int × Int)} {L:EnL} {M:REnL} {B B':Nat} {E E':Eng} {recs:List (List (Int × Int))} {torn:Int} {down off:Bool} {left:Int}
theorem BpSt.act_postE (h:BpSt b0 w b d c dv D lv kept L M B E recs torn down off left) (hp:ActPostE b0 L M B' E' w w'):∃ L' M',BpSt b0 w' b d c dv D lv kept L' M' B' E' recs torn down off left∧L'.s=L.s∧M'.R=M.R∧Below b0 w w':=by
 obtain⟨L',M',hD,hB,e1,e2,hK⟩:=hp
 have new:∀ g,g<w.heap.size→¬ both L M g→¬ both L' M' g:=fun g hg hn ho=>by
  rcases hK.sub g ho with h1 | h1
  ·exact hn h1
  ·omega
 refine⟨L',M',⟨hD,?_,h.dsk.same hK.size (fun g hg=>hK.block g (h.dsk.own_lt hg) (h.sA g (.inr hg)).1),?_,fun g hg=>⟨new g (h.lt_A hg) (h.sA g hg).1,(h.sA g hg).2⟩,fun g hg=>new g (h.rb.own_lt hg) (h.sR g hg),h.sd,h.lA,h.lR,h.ok,h.tn,h.cut,h.lft,h.sav⟩,e1,e2,hB⟩
 ·rw [e1];exact (hK.block b h.base.lt (h.sA b (.inl rfl)).1).trans h.bas
 ·rw [e2];exact h.rb.same (fun g hg=>hK.block g (h.rb.own_lt hg) (h.sR g hg))
def BpS (b0:Nat) (w0:World) (b d c:Nat) (dv:List Value) (D:Dsk) (lv:Value) (kept:List (Int × Int × Int)) (recs:List (List (Int × Int))) (torn:Int) (down off:Bool) (left:Int) (sL rM:Nat) (E:Eng) (B:Nat) (W:World):Prop :=
 ∃ L M,BpSt b0 W b d c dv D lv kept L M B E recs torn down off left∧L.s=sL∧M.R=rM∧Below b0 w0 W
def BpFin (b0:Nat) (w0:World) (b d c sL rM B:Nat) (torn:Int) (off:Bool) (W:World):Prop :=
 ∃ dv D lv kept L M E recs down left,BpSt b0 W b d c dv D lv kept L M B E recs torn down off left∧L.s=sL∧M.R=rM∧Below b0 w0 W
variable {sL rM:Nat} {W:World}
theorem BpS.engine (h:BpS b0 w0 b d c dv D lv kept recs torn down off left sL rM E B W):Calls Tryz.prog 39 #[.pointer (some ⟨b,0,none⟩)] W fun e w'=>e=.returned (.pointer (some ⟨sL,0,none⟩))∧w'=W:=by
 obtain⟨L,M,h1,rfl,_,_⟩:=h
 exact bengine_any h1.base
theorem BpS.c0 (h:BpS b0 w0 b d c dv D lv kept recs torn down off left sL rM E B W):W.cell? ⟨c,0,none⟩=some (.pointer (some ⟨rM,0,none⟩)):=by
 obtain⟨L,M,h1,_,rfl,_⟩:=h
 exact h1.rb.cell 0
theorem txs_cell {W:World} {M:REnL} (h:RefAt W M B E):∃ ad cap,W.cell? ⟨M.R,12,none⟩=some (.slice ad E.txs.length cap):=by
 obtain⟨ada,capa,hav,c12,_⟩:=h.av
 rw [hav] at c12
 exact⟨ada,capa,c12⟩
theorem BpS.txs (h:BpS b0 w0 b d c dv D lv kept recs torn down off left sL rM E B W):∃ ad cap,W.cell? ⟨rM,12,none⟩=some (.slice ad E.txs.length cap):=by
 obtain⟨L,M,h1,_,rfl,_⟩:=h
 exact txs_cell h1.duo.duo.rf
theorem begE_mid (h:Mid2 E.ce noQ):Mid2 (begE E).ce noQ:=by
 unfold begE
 by_cases hc:begC E 0=0
 ·rw [if_pos hc]
  have hn:¬ ((0:Int)≠0∧(0:Int)≠1∧(0:Int)≠2):=by omega
  have hl:E.txs.length<200:=by
   unfold begC at hc
   rw [if_neg hn] at hc
   by_cases h':200≤E.txs.length
   ·rw [if_pos h'] at hc;cases hc
   ·omega
  have ho:E.ce.live<6:=by
   unfold begC at hc
   rw [if_neg hn,if_neg (by omega)] at hc
   by_cases h':6≤E.ce.live
   ·rw [if_pos h'] at hc;cases hc
   ·omega
  exact h.begin (.inl rfl) hl ho
 ·rw [if_neg hc];exact h
theorem BpFin.below (h:BpFin b0 w0 b d c sL rM B torn off W) (hB:Below W.heap.size W w'):BpFin b0 w0 b d c sL rM B torn off w':=by
 obtain⟨dv,D,lv,kept,L,M,E,recs,down,left,h1,e1,e2,f⟩:=h
 exact⟨dv,D,lv,kept,L,M,E,recs,down,left,h1.below hB,e1,e2,f.trans (hB.mono h1.duo.le)⟩
theorem BpFin.hand (h:BpFin b0 w0 b d c sL rM B torn off W):Handle W:=by
 obtain⟨dv,D,lv,kept,L,M,E,recs,down,left,h1,_⟩:=h
 exact h1.duo.hand
theorem BpFin.bare (h:BpFin b0 w0 b d c sL rM B torn off W) (rc:Int):Calls Tryz.prog 40 #[errV rc,.int .i64 rc] W fun e w'=>e=.returned (.bool true)∧BpFin b0 w0 b d c sL rM B torn off w' :=
 (bare_true rc (errV rc) W (errV_at W rc) h.hand).mono (fun _ _ hh=>⟨hh.1,h.below hh.2⟩)
def BpHalf (b0:Nat) (w0:World) (b d c sL rM B:Nat) (torn:Int) (off:Bool) (n:Nat) (tx rc:Int) (W:World):Prop :=
 W.cell? ⟨c,0,none⟩=some (.pointer (some ⟨rM,0,none⟩))∧(∃ ad cap,W.cell? ⟨rM,12,none⟩=some (.slice ad n cap))∧Below b0 w0 W∧Calls Tryz.prog 44 #[.pointer (some ⟨c,0,none⟩),.int .i64 tx] W fun e w'=>e=.returned (.int .i64 rc)∧BpFin b0 w0 b d c sL rM B torn off w'
theorem BpS.commit (h:BpS b0 w0 b d c dv D lv kept recs torn down off left sL rM E B W) (hB:B+10000≤10000000) (tx:Int):Calls Tryz.prog 43 #[.pointer (some ⟨b,0,none⟩),.int .i64 tx] W fun e w'=>e=.returned (errV (rcOf E tx down recs.length (powerB D)))∧BpHalf b0 w0 b d c sL rM (B+10000) torn off E.txs.length tx (rcOf E tx down recs.length (powerB D)) w':=by
 obtain⟨L,M,h1,rfl,rfl,f⟩:=h
 obtain⟨rc,P1,rfl,a1,a2,a3⟩:=h1.commit hB tx
 refine a1.mono ?_
 rintro e w1 ⟨he,hP⟩
 obtain⟨b1,b2,b3,_⟩:=a2 w1 hP
 refine⟨he,b3.cell 0,txs_cell b2,f.trans b1,(a3 w1 hP).mono ?_⟩
 rintro e w2 ⟨he2,dv',D',lv',kept',L',M',E',recs',down',left',q1,q2,q3,q4⟩
 exact⟨he2,dv',D',lv',kept',L',M',E',recs',down',left',q1,q2,q3,f.trans q4⟩
theorem BpFin.from {w1:World} (hB:Below b0 w0 w1) (h:BpFin b0 w1 b d c sL rM B torn off W):BpFin b0 w0 b d c sL rM B torn off W:=by
 obtain⟨dv,D,lv,kept,L,M,E,recs,down,left,h1,e1,e2,f⟩:=h
 exact⟨dv,D,lv,kept,L,M,E,recs,down,left,h1,e1,e2,hB.trans f⟩
theorem BpFin.mono (h:BpFin b0 w0 b d c sL rM B torn off W) (hB:B≤B'):BpFin b0 w0 b d c sL rM B' torn off W:=by
 obtain⟨dv,D,lv,kept,L,M,E,recs,down,left,h1,h2⟩:=h
 exact⟨dv,D,lv,kept,L,M,E,recs,down,left,h1.mono hB,h2⟩
theorem BpSt.fill (h:BpSt b0 w b d c dv D lv kept L M B E recs torn down off left) (hB:B+80000≤10000000) (j:Int) (Q:Exit→Act→World→Prop) (a:Act) (hsz:a.tmps.size=229) (h6:a.tmps.getD 6 undef=.pointer (some ⟨b,0,none⟩)) (h10:a.tmps.getD 10 undef=.pointer (some ⟨c,0,none⟩)) (h11:a.tmps.getD 11 undef=.int .i64 j)
  (hfin:∀ (f:Nat→Value) (w':World),f 54=.bool false→BpFin b0 w b d c L.s M.R (B+60000+10000) torn off w'→Q .normal { a with tmps:=putF slots17 0 f a.tmps } w') :
  Code.wp Tryz.prog (Code.region 17 ops17 true) Q a w:=by
 have hm1:=begE_mid h.duo.mid
 obtain⟨E2,hE2⟩:=act_writeE hm1 ((begE E).txs.length:Int) (j.tmod 3) j
 refine fill_region (S0:=BpS b0 w b d c dv D lv kept recs torn down off left L.s M.R E B) (S1:=BpS b0 w b d c dv D lv kept recs torn down off left L.s M.R (begE E) (B+30000)) (S2:=BpS b0 w b d c dv D lv kept recs torn down off left L.s M.R E2 (B+60000)) (S3:=BpHalf b0 w b d c L.s M.R (B+60000+10000) torn off E2.txs.length (E2.txs.length:Int) (rcOf E2 (E2.txs.length:Int) down recs.length (powerB D))) (S4:=BpFin b0 w b d c L.s M.R (B+60000+10000) torn off) (k1:=(begE E).txs.length) (k2:=E2.txs.length) (n1:=((begE E).txs.length:Int)) (n2:=(E2.txs.length:Int)) (rc:=rcOf E2 (E2.txs.length:Int) down recs.length (powerB D)) rfl rfl ?_ (fun W hW=>hW.engine) (fun W hW=>hW.engine) (fun W hW=>?_) (fun W hW=>hW.txs) (fun W hW=>?_) (fun W hW=>?_) (fun W hW=>?_) (fun W hW=>?_) (fun W hW=>hW.2.2.2) (fun W hW=>hW.bare _) Q a hsz h6 h10 h11 hfin
 ·exact⟨L,M,h.below (below_drewN (Below.refl _ w) 1),rfl,rfl,(below_drewN (Below.refl _ w) 1).mono (Nat.le_refl _)⟩
 ·rcases hW with h1 | h1 | h1 | h1
  ·exact h1.c0
  ·exact h1.c0
  ·exact h1.c0
  ·exact h1.1
 ·rcases hW with h1 | h1
  ·exact h1.txs
  ·exact h1.2.1
 ·obtain⟨L1,M1,h1,e1,e2,f⟩:=hW
  rw [← e1,← e2]
  refine (act_beginE h1.duo (by omega) 0 0).mono ?_
  rintro e w2 ⟨he,hp⟩
  obtain⟨L2,M2,h2,e3,e4,f2⟩:=h1.act_postE hp
  exact⟨he,L2,M2,h2.mono (by omega),e3,e4,f.trans f2⟩
 ·obtain⟨L1,M1,h1,e1,e2,f⟩:=hW
  rw [← e1,← e2]
  refine (hE2 _ _ _ _ _ h1.duo (by omega)).mono ?_
  rintro e w2 ⟨he,hp⟩
  obtain⟨L2,M2,h2,e3,e4,f2⟩:=h1.act_postE hp
  exact⟨he,L2,M2,h2.mono (by omega),e3,e4,f.trans f2⟩
 ·exact hW.commit (by omega) (E2.txs.length:Int)
end
end Go.Proofs.YtjefgmeejhakbaaGreatDoor
/- law.BasePlays: a commit of both bases, in whatever order its region is. -/
namespace Go.Proofs.YtjefgmeejhakbaaGreatDoor
open Go.RowKit
noncomputable def ops27:Array Oper:=((Tryz.f8.body.bind (findReg 27)).getD #[])
def slots27:List Tmp:=[151,152,153,154,155,156,157,158,159,160]
def p27 (b c X:Nat) (tx rc:Int) (i:Nat) (u:Value):Prop:=match i with
 | 0=>u=.pointer (some ⟨b,0,none⟩)
 | 1=>u=.pointer (some ⟨X,1,none⟩)
 | 2=>u=.int .i64 tx
 | 3=>u=errV rc
 | 4=>u=.pointer (some ⟨c,0,none⟩)
 | 5=>u=.pointer (some ⟨X,1,none⟩)
 | 6=>u=.int .i64 tx
 | 7=>u=.int .i64 rc
 | 8=>u=.bool true
 | 9=>u=.bool false
 | _=>True
structure G27 (S0 S1 S2:World→Prop) (listed:Array Bool) (W:World):Prop where
 s0:¬ DoneAt listed 3→S0 W
 s1:DoneAt listed 3→¬ DoneAt listed 7→S1 W
 s2:DoneAt listed 7→S2 W
section
variable {S0 S1 S2:World→Prop} {listed:Array Bool} {W W':World}
theorem G27.quiet (h:G27 S0 S1 S2 listed W) {i:Nat} (hi:i≠3∧i≠7):G27 S0 S1 S2 (listed.setIfInBounds i true) W:=by
 have e3:=done_set_ne (listed:=listed) (i:=i) (j:=3) (fun e=>hi.1 e.symm)
 have e7:=done_set_ne (listed:=listed) (i:=i) (j:=7) (fun e=>hi.2 e.symm)
 exact⟨fun h1=>h.s0 (fun h2=>h1 (e3.2 h2)),fun h1 h2=>h.s1 (e3.1 h1) (fun h3=>h2 (e7.2 h3)),fun h1=>h.s2 (e7.1 h1)⟩
end
set_option maxRecDepth 1000000 in
set_option maxHeartbeats 4000000 in
theorem com_region {S0 S1 S2:World→Prop} {b c X:Nat} {tx rc:Int} {w:World} (hs0:S0 w.drew)
  (hx:∀ W,(S0 W∨S1 W)→W.cell? ⟨X,1,none⟩=some (.int .i64 tx))
  (hd0:∀ W,S0 W→Calls Tryz.prog 43 #[.pointer (some ⟨b,0,none⟩),.int .i64 tx] W fun e w'=>e=.returned (errV rc)∧S1 w')
  (hd1:∀ W,S1 W→Calls Tryz.prog 44 #[.pointer (some ⟨c,0,none⟩),.int .i64 tx] W fun e w'=>e=.returned (.int .i64 rc)∧S2 w')
  (hd2:∀ W,S2 W→Calls Tryz.prog 40 #[errV rc,.int .i64 rc] W fun e w'=>e=.returned (.bool true)∧S2 w')
  (Q:Exit→Act→World→Prop) (a:Act) (hsz:a.tmps.size=229) (h6:a.tmps.getD 6 undef=.pointer (some ⟨b,0,none⟩)) (h10:a.tmps.getD 10 undef=.pointer (some ⟨c,0,none⟩)) (h13:a.tmps.getD 13 undef=.pointer (some ⟨X,0,none⟩))
  (hfin:∀ (f:Nat→Value) (w':World),f 9=.bool false→S2 w'→Q .normal { a with tmps:=putF slots27 0 f a.tmps } w') :
  Code.wp Tryz.prog (Code.region 27 ops27 true) Q a w:=by
 obtain⟨ops,hops⟩:∃ ops,ops27=ops:=⟨_,rfl⟩
 rw [hops]
 have cov7:covB ops 7=true:=by rw [← hops];kernel_rfl
 have cov8:covB ops 8=true:=by rw [← hops];kernel_rfl
 have size27:ops.size=10:=by rw [← hops];kernel_rfl
 refine region_fixed (by rfl) slots27 (p27 b c X tx rc) (G27 S0 S1 S2) (by rw [← hops];kernel_rfl) (by rw [hsz,← hops];kernel_rfl) (by rw [← hops];kernel_rfl) ⟨fun _=>hs0,fun h=>(not_done_replicate _ _ h).elim,fun h=>(not_done_replicate _ _ h).elim⟩ ?step ?fin
 case fin =>
  intro f listed w' hp hdn hG
  exact hfin f w' (hp 9 (by rw [size27];omega)) (hG.s2 (hdn 7 (by rw [size27];omega)))
 case step =>
 intro i o listed a' W hi ho hls hcl haft hnd hG hF
 have hi':i<10:=by rw [size27] at hi;exact hi
 have f6:a'.tmps.getD 6 undef=.pointer (some ⟨b,0,none⟩):=(hF.other 6 (by decide)).trans h6
 have f10:a'.tmps.getD 10 undef=.pointer (some ⟨c,0,none⟩):=(hF.other 10 (by decide)).trans h10
 have f13:a'.tmps.getD 13 undef=.pointer (some ⟨X,0,none⟩):=(hF.other 13 (by decide)).trans h13
 clear h6 h10 h13 hi hfin hs0
 obtain rfl | rfl | rfl | rfl | rfl | rfl | rfl | rfl | rfl | rfl:i=0∨i=1∨i=2∨i=3∨i=4∨i=5∨i=6∨i=7∨i=8∨i=9:=by omega
 ·have h1:=(show ops27.toList[0]?=some _ from rfl)
  rw [Array.getElem?_toList,hops] at h1
  obtain rfl:=Option.some.inj (ho.symm.trans h1)
  clear h1
  refine wpOp_gval ho (wanted_none rfl) (v:=.pointer (some ⟨b,0,none⟩)) (w':=W) ?_ ⟨_,rfl,rfl,hG.quiet (by omega)⟩
  simp [execOp,Act.eval,f6,go_sem]
 ·have h1:=(show ops27.toList[1]?=some _ from rfl)
  rw [Array.getElem?_toList,hops] at h1
  obtain rfl:=Option.some.inj (ho.symm.trans h1)
  clear h1
  refine wpOp_gval ho (wanted_none rfl) (v:=.pointer (some ⟨X,1,none⟩)) (w':=W) ?_ ⟨_,rfl,rfl,hG.quiet (by omega)⟩
  simp [execOp,Act.eval,f13,go_sem]
 ·have h1:=(show ops27.toList[2]?=some _ from rfl)
  rw [Array.getElem?_toList,hops] at h1
  obtain rfl:=Option.some.inj (ho.symm.trans h1)
  clear h1
  have e152:a'.tmps.getD 152 undef=.pointer (some ⟨X,1,none⟩):=hF.done 1 152 rfl (haft ⟨1,.data⟩ (by simp) rfl)
  have hc:=hx W (.inl (hG.s0 (fun hd=>hnd (hcl 3 _ (by have h3:=(show ops27.toList[3]?=some _ from rfl);rw [Array.getElem?_toList,hops] at h3;exact h3) hd ⟨2,.data⟩ (by simp) rfl))))
  refine wpOp_gval ho (wanted_none rfl) (v:=.int .i64 tx) (w':=W) ?_ ⟨_,rfl,rfl,hG.quiet (by omega)⟩
  simp [execOp,Act.eval,e152,hc,go_sem]
 ·have h1:=(show ops27.toList[3]?=some _ from rfl)
  rw [Array.getElem?_toList,hops] at h1
  obtain rfl:=Option.some.inj (ho.symm.trans h1)
  clear h1
  have e151:a'.tmps.getD 151 undef=.pointer (some ⟨b,0,none⟩):=hF.done 0 151 rfl (haft ⟨0,.data⟩ (by simp) rfl)
  have e153:a'.tmps.getD 153 undef=.int .i64 tx:=hF.done 2 153 rfl (haft ⟨2,.data⟩ (by simp) rfl)
  refine wpOp_call ho (wanted_none rfl) (f:=43) (args:=#[.pointer (some ⟨b,0,none⟩),.int .i64 tx]) (v:=errV rc) ?_ (hd0 W (hG.s0 hnd)) ?_
  ·simp [Act.eval,e151,e153,go_sem]
  ·intro w2 hw2
   have d3:DoneAt (listed.setIfInBounds 3 true) 3:=done_self (by rw [hls,size27];omega)
   have n7:¬ DoneAt (listed.setIfInBounds 3 true) 7:=fun hd=>hnd (done_before cov7 hcl ((done_set_ne (by omega)).1 hd) 3 (by omega))
   exact⟨_,rfl,rfl,⟨fun h=>(h d3).elim,fun _ _=>hw2,fun h=>(n7 h).elim⟩⟩
 ·have h1:=(show ops27.toList[4]?=some _ from rfl)
  rw [Array.getElem?_toList,hops] at h1
  obtain rfl:=Option.some.inj (ho.symm.trans h1)
  clear h1
  refine wpOp_gval ho (wanted_none rfl) (v:=.pointer (some ⟨c,0,none⟩)) (w':=W) ?_ ⟨_,rfl,rfl,hG.quiet (by omega)⟩
  simp [execOp,Act.eval,f10,go_sem]
 ·have h1:=(show ops27.toList[5]?=some _ from rfl)
  rw [Array.getElem?_toList,hops] at h1
  obtain rfl:=Option.some.inj (ho.symm.trans h1)
  clear h1
  refine wpOp_gval ho (wanted_none rfl) (v:=.pointer (some ⟨X,1,none⟩)) (w':=W) ?_ ⟨_,rfl,rfl,hG.quiet (by omega)⟩
  simp [execOp,Act.eval,f13,go_sem]
 ·have h1:=(show ops27.toList[6]?=some _ from rfl)
  rw [Array.getElem?_toList,hops] at h1
  obtain rfl:=Option.some.inj (ho.symm.trans h1)
  clear h1
  have e156:a'.tmps.getD 156 undef=.pointer (some ⟨X,1,none⟩):=hF.done 5 156 rfl (haft ⟨5,.data⟩ (by simp) rfl)
  have n7:¬ DoneAt listed 7:=fun hd=>hnd (done_before cov7 hcl hd 6 (by omega))
  have hc:=hx W (by
   by_cases h3:DoneAt listed 3
   ·exact .inr (hG.s1 h3 n7)
   ·exact .inl (hG.s0 h3))
  refine wpOp_gval ho (wanted_none rfl) (v:=.int .i64 tx) (w':=W) ?_ ⟨_,rfl,rfl,hG.quiet (by omega)⟩
  simp [execOp,Act.eval,e156,hc,go_sem]
 ·have h1:=(show ops27.toList[7]?=some _ from rfl)
  rw [Array.getElem?_toList,hops] at h1
  obtain rfl:=Option.some.inj (ho.symm.trans h1)
  clear h1
  have e155:a'.tmps.getD 155 undef=.pointer (some ⟨c,0,none⟩):=hF.done 4 155 rfl (haft ⟨4,.data⟩ (by simp) rfl)
  have e157:a'.tmps.getD 157 undef=.int .i64 tx:=hF.done 6 157 rfl (haft ⟨6,.data⟩ (by simp) rfl)
  have a3:DoneAt listed 3:=haft ⟨3,.chain⟩ (by simp) rfl
  refine wpOp_call ho (wanted_none rfl) (f:=44) (args:=#[.pointer (some ⟨c,0,none⟩),.int .i64 tx]) (v:=.int .i64 rc) ?_ (hd1 W (hG.s1 a3 hnd)) ?_
  ·simp [Act.eval,e155,e157,go_sem]
  ·intro w2 hw2
   have d7:DoneAt (listed.setIfInBounds 7 true) 7:=done_self (by rw [hls,size27];omega)
   exact⟨_,rfl,rfl,⟨fun h=>(h (done_mono a3)).elim,fun _ h=>(h d7).elim,fun _=>hw2⟩⟩
 ·have h1:=(show ops27.toList[8]?=some _ from rfl)
  rw [Array.getElem?_toList,hops] at h1
  obtain rfl:=Option.some.inj (ho.symm.trans h1)
  clear h1
  have e154:a'.tmps.getD 154 undef=errV rc:=hF.done 3 154 rfl (haft ⟨3,.data⟩ (by simp) rfl)
  have e158:a'.tmps.getD 158 undef=.int .i64 rc:=hF.done 7 158 rfl (haft ⟨7,.data⟩ (by simp) rfl)
  have a7:DoneAt listed 7:=haft ⟨7,.data⟩ (by simp) rfl
  have a3:=done_before cov7 hcl a7 3 (by omega)
  refine wpOp_call ho (wanted_none rfl) (f:=40) (args:=#[errV rc,.int .i64 rc]) (v:=.bool true) ?_ (hd2 W (hG.s2 a7)) ?_
  ·simp [Act.eval,e154,e158,go_sem]
  ·intro w2 hw2
   exact⟨_,rfl,rfl,⟨fun h=>(h (done_mono a3)).elim,fun _ h=>(h (done_mono a7)).elim,fun _=>hw2⟩⟩
 ·have h1:=(show ops27.toList[9]?=some _ from rfl)
  rw [Array.getElem?_toList,hops] at h1
  obtain rfl:=Option.some.inj (ho.symm.trans h1)
  clear h1
  have e159:a'.tmps.getD 159 undef=.bool true:=hF.done 8 159 rfl (haft ⟨8,.data⟩ (by simp) rfl)
  refine wpOp_gval ho (wanted_none rfl) (v:=.bool false) (w':=W) ?_ ⟨_,rfl,rfl,hG.quiet (by omega)⟩
  simp [execOp,Act.eval,e159,go_sem]
section
variable {b0:Nat} {w w' w0:World} {b d c:Nat} {dv:List Value} {D:Dsk} {lv:Value} {kept:List (Int × Int × Int)} {L:EnL} {M:REnL} {B B':Nat} {E E':Eng} {recs:List (List (Int × Int))} {torn:Int} {down off:Bool} {left:Int}
theorem BpSt.com (h:BpSt b0 w b d c dv D lv kept L M B E recs torn down off left) (hB:B+10000≤10000000) {X:Nat} {tx:Int} (hX:w.cell? ⟨X,1,none⟩=some (.int .i64 tx)) (nA:¬ oA b d dv X) (nL:¬ L.own X) (Q:Exit→Act→World→Prop) (a:Act) (hsz:a.tmps.size=229) (h6:a.tmps.getD 6 undef=.pointer (some ⟨b,0,none⟩)) (h10:a.tmps.getD 10 undef=.pointer (some ⟨c,0,none⟩)) (h13:a.tmps.getD 13 undef=.pointer (some ⟨X,0,none⟩))
  (hfin:∀ (f:Nat→Value) (w':World),f 9=.bool false→BpFin b0 w b d c L.s M.R (B+10000) torn off w'→Q .normal { a with tmps:=putF slots27 0 f a.tmps } w') :
  Code.wp Tryz.prog (Code.region 27 ops27 true) Q a w:=by
 have hBd:Below w.heap.size w w.drew:=below_drewN (Below.refl _ w) 1
 have hXl:X<w.heap.size:=World.block_lt_of_cell? w _ hX
 have hX1:w.drew.cell? ⟨X,1,none⟩=some (.int .i64 tx):=(hBd.cell (p:=⟨X,1,none⟩) hXl).trans hX
 obtain⟨rc,P1,hrc,a1,a2,a3⟩:=(h.below hBd).commit hB tx
 refine com_region (S0:=fun W=>W=w.drew) (S1:=P1) (S2:=BpFin b0 w b d c L.s M.R (B+10000) torn off) (rc:=rc) rfl (fun W hW=>?_) (fun W hW=>by rw [hW];exact a1) (fun W hW=>(a3 W hW).mono ?_) (fun W hW=>hW.bare rc) Q a hsz h6 h10 h13 hfin
 ·rcases hW with rfl | hW
  ·exact hX1
  ·obtain⟨_,_,_,hfr⟩:=a2 W hW
   exact (World.cell?_of_block (a:=⟨X,1,none⟩) (hfr X (by have:=hBd.size;omega) nA nL)).trans hX1
 ·rintro e w2 ⟨he,dv',D',lv',kept',L',M',E',recs',down',left',q1,q2,q3,q4⟩
  exact⟨he,dv',D',lv',kept',L',M',E',recs',down',left',q1,q2,q3,(hBd.mono h.duo.le).trans q4⟩
end
end Go.Proofs.YtjefgmeejhakbaaGreatDoor
/- law.EnginePlays: its walk. -/
namespace Go.Proofs.YtjefgmeejhakbaaGreatDoor
open Go.RowKit
theorem many_nat (m b:Int) (hm:0<m∧m≤1000):∃ k:Nat,wrap64 ((IntKind.u64.wrap b).tmod m)=(k:Int)∧(k:Int)<m:=by
 have h0:0≤IntKind.u64.wrap b:=by simp [IntKind.wrap,IntKind.signed,IntKind.bits];omega
 have h1:=Int.emod_nonneg (IntKind.u64.wrap b) (b:=m) (by omega)
 have h2:=Int.emod_lt_of_pos (IntKind.u64.wrap b) (b:=m) hm.1
 rw [Int.tmod_eq_emod_of_nonneg h0]
 refine⟨(IntKind.u64.wrap b%m).toNat,?_,by omega⟩
 rw [IntWalk.wrap64_in _ (by omega)]
 omega
end Go.Proofs.YtjefgmeejhakbaaGreatDoor
