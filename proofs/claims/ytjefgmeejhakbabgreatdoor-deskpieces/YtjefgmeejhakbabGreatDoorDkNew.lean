/- desk: a new session. -/
import Derived.Test.YtjefgmeejhakbabGreatDoorMgBC
namespace Go.Proofs.YtjefgmeejhakbabGreatDoor
open Go.RowKit
def ses0:Ses:=reSes { E:=engO 0 [],D:=dsk0,recs:=[],torn:=0,down:=false }
theorem ses0_ok:SesOk 0 ses0:=reSes_ok dskG0
set_option maxRecDepth 100000 in
set_option maxHeartbeats 4000000 in
theorem newSession_any {w:World} (P:Nat→Nat→World→Prop)
  (ho:∀ w1 mb,CMap w1 mb (w.heap.size+1) cmds→w1.heap[w.heap.size+1]?=some (.cells #[.pointer (some ⟨w.heap.size,0,none⟩),.pointer none,.map (some mb)] 88 (0,0))→w.heap.size+2≤mb→DiskAt w1 w.heap.size dv0 dsk0→Below w.heap.size w w1→w.heap.size+2≤w1.heap.size→Calls Tryz.prog 42 #[.pointer (some ⟨w.heap.size+1,0,none⟩),.slice none 0 0] w1 fun e w2=>e=.returned (txt [111,112,101,110])∧P mb w.heap.size w2) :
  Calls Tryz.prog 13 #[] w fun e w'=>e=.returned (.pointer (some ⟨w.heap.size+1,0,none⟩))∧∃ mb,P mb w.heap.size w':=by
 obtain⟨wa,hwa⟩:∃ wa,w.alloc (.cells Tryz.zeroCells84 84)=wa:=⟨_,rfl⟩
 obtain⟨wb,hwb⟩:∃ wb,wa.alloc (.cells #[.pointer (some ⟨w.heap.size,0,none⟩),.pointer none,.map none] 88)=wb:=⟨_,rfl⟩
 obtain⟨m0,hm0⟩:∃ m0,wb.alloc (.map #[] 0)=m0:=⟨_,rfl⟩
 have q0:CMap m0 wb.heap.size wa.heap.size []:=by rw [← hm0];exact CMap.made wb _
 have hmk:(Instr.makeMap 86 none).run Tryz.prog wb=.ok (.map (some wb.heap.size)) m0:=by rw [← hm0];exact run_makeMap _ wb
 obtain⟨m1,r1,q1,g1⟩:=CMap.store q0 (by decide) ⟨[97,98,111,114,116],1,33⟩ (by decide)
 have r1:(Instr.mapUpdate 86 (.map (some wb.heap.size)) (.string ⟨#[97,98,111,114,116]⟩) (.agg #[.int .i64 1,.func (.func 33) #[.pointer (some ⟨wa.heap.size,0,none⟩)] #[]])).run Tryz.prog m0=.ok () m1:=r1
 obtain⟨m2,r2,q2,g2⟩:=CMap.store q1 (by decide) ⟨[97,108,108],0,34⟩ (by decide)
 have r2:(Instr.mapUpdate 86 (.map (some wb.heap.size)) (.string ⟨#[97,108,108]⟩) (.agg #[.int .i64 0,.func (.func 34) #[.pointer (some ⟨wa.heap.size,0,none⟩)] #[]])).run Tryz.prog m1=.ok () m2:=r2
 have g2:=grown_trans g1 g2
 obtain⟨m3,r3,q3,g3⟩:=CMap.store q2 (by decide) ⟨[98,101,103,105,110],1,35⟩ (by decide)
 have r3:(Instr.mapUpdate 86 (.map (some wb.heap.size)) (.string ⟨#[98,101,103,105,110]⟩) (.agg #[.int .i64 1,.func (.func 35) #[.pointer (some ⟨wa.heap.size,0,none⟩)] #[]])).run Tryz.prog m2=.ok () m3:=r3
 have g3:=grown_trans g2 g3
 obtain⟨m4,r4,q4,g4⟩:=CMap.store q3 (by decide) ⟨[99,111,109,109,105,116],1,36⟩ (by decide)
 have r4:(Instr.mapUpdate 86 (.map (some wb.heap.size)) (.string ⟨#[99,111,109,109,105,116]⟩) (.agg #[.int .i64 1,.func (.func 36) #[.pointer (some ⟨wa.heap.size,0,none⟩)] #[]])).run Tryz.prog m3=.ok () m4:=r4
 have g4:=grown_trans g3 g4
 obtain⟨m5,r5,q5,g5⟩:=CMap.store q4 (by decide) ⟨[99,117,116],2,37⟩ (by decide)
 have r5:(Instr.mapUpdate 86 (.map (some wb.heap.size)) (.string ⟨#[99,117,116]⟩) (.agg #[.int .i64 2,.func (.func 37) #[.pointer (some ⟨wa.heap.size,0,none⟩)] #[]])).run Tryz.prog m4=.ok () m5:=r5
 have g5:=grown_trans g4 g5
 obtain⟨m6,r6,q6,g6⟩:=CMap.store q5 (by decide) ⟨[104,101,108,112],0,38⟩ (by decide)
 have r6:(Instr.mapUpdate 86 (.map (some wb.heap.size)) (.string ⟨#[104,101,108,112]⟩) (.agg #[.int .i64 0,.func (.func 38) #[.pointer (some ⟨wa.heap.size,0,none⟩)] #[]])).run Tryz.prog m5=.ok () m6:=r6
 have g6:=grown_trans g5 g6
 obtain⟨m7,r7,q7,g7⟩:=CMap.store q6 (by decide) ⟨[104,105,115,116,111,114,121],0,39⟩ (by decide)
 have r7:(Instr.mapUpdate 86 (.map (some wb.heap.size)) (.string ⟨#[104,105,115,116,111,114,121]⟩) (.agg #[.int .i64 0,.func (.func 39) #[.pointer (some ⟨wa.heap.size,0,none⟩)] #[]])).run Tryz.prog m6=.ok () m7:=r7
 have g7:=grown_trans g6 g7
 obtain⟨m8,r8,q8,g8⟩:=CMap.store q7 (by decide) ⟨[108,105,110,101],0,40⟩ (by decide)
 have r8:(Instr.mapUpdate 86 (.map (some wb.heap.size)) (.string ⟨#[108,105,110,101]⟩) (.agg #[.int .i64 0,.func (.func 40) #[.pointer (some ⟨wa.heap.size,0,none⟩)] #[]])).run Tryz.prog m7=.ok () m8:=r8
 have g8:=grown_trans g7 g8
 obtain⟨m9,r9,q9,g9⟩:=CMap.store q8 (by decide) ⟨[110,111,119],0,41⟩ (by decide)
 have r9:(Instr.mapUpdate 86 (.map (some wb.heap.size)) (.string ⟨#[110,111,119]⟩) (.agg #[.int .i64 0,.func (.func 41) #[.pointer (some ⟨wa.heap.size,0,none⟩)] #[]])).run Tryz.prog m8=.ok () m9:=r9
 have g9:=grown_trans g8 g9
 obtain⟨m10,r10,q10,g10⟩:=CMap.store q9 (by decide) ⟨[111,112,101,110],0,42⟩ (by decide)
 have r10:(Instr.mapUpdate 86 (.map (some wb.heap.size)) (.string ⟨#[111,112,101,110]⟩) (.agg #[.int .i64 0,.func (.func 42) #[.pointer (some ⟨wa.heap.size,0,none⟩)] #[]])).run Tryz.prog m9=.ok () m10:=r10
 have g10:=grown_trans g9 g10
 obtain⟨m11,r11,q11,g11⟩:=CMap.store q10 (by decide) ⟨[114,101,97,100],2,43⟩ (by decide)
 have r11:(Instr.mapUpdate 86 (.map (some wb.heap.size)) (.string ⟨#[114,101,97,100]⟩) (.agg #[.int .i64 2,.func (.func 43) #[.pointer (some ⟨wa.heap.size,0,none⟩)] #[]])).run Tryz.prog m10=.ok () m11:=r11
 have g11:=grown_trans g10 g11
 obtain⟨m12,r12,q12,g12⟩:=CMap.store q11 (by decide) ⟨[115,116,97,116,101],1,44⟩ (by decide)
 have r12:(Instr.mapUpdate 86 (.map (some wb.heap.size)) (.string ⟨#[115,116,97,116,101]⟩) (.agg #[.int .i64 1,.func (.func 44) #[.pointer (some ⟨wa.heap.size,0,none⟩)] #[]])).run Tryz.prog m11=.ok () m12:=r12
 have g12:=grown_trans g11 g12
 obtain⟨m13,r13,q13,g13⟩:=CMap.store q12 (by decide) ⟨[115,119,101,101,112],0,45⟩ (by decide)
 have r13:(Instr.mapUpdate 86 (.map (some wb.heap.size)) (.string ⟨#[115,119,101,101,112]⟩) (.agg #[.int .i64 0,.func (.func 45) #[.pointer (some ⟨wa.heap.size,0,none⟩)] #[]])).run Tryz.prog m12=.ok () m13:=r13
 have g13:=grown_trans g12 g13
 obtain⟨m14,r14,q14,g14⟩:=CMap.store q13 (by decide) ⟨[119,97,105,116,115],1,46⟩ (by decide)
 have r14:(Instr.mapUpdate 86 (.map (some wb.heap.size)) (.string ⟨#[119,97,105,116,115]⟩) (.agg #[.int .i64 1,.func (.func 46) #[.pointer (some ⟨wa.heap.size,0,none⟩)] #[]])).run Tryz.prog m13=.ok () m14:=r14
 have g14:=grown_trans g13 g14
 obtain⟨m15,r15,q15,g15⟩:=CMap.store q14 (by decide) ⟨[119,114,105,116,101],3,47⟩ (by decide)
 have r15:(Instr.mapUpdate 86 (.map (some wb.heap.size)) (.string ⟨#[119,114,105,116,101]⟩) (.agg #[.int .i64 3,.func (.func 47) #[.pointer (some ⟨wa.heap.size,0,none⟩)] #[]])).run Tryz.prog m14=.ok () m15:=r15
 have g15:=grown_trans g14 g15
 have ea:wa.heap.size=w.heap.size+1:=by rw [← hwa];simp
 have eb:wb.heap.size=w.heap.size+2:=by rw [← hwb];simp [ea]
 have e0:m0.heap.size=w.heap.size+3:=by rw [← hm0];simp [eb]
 have hS1:wb.heap[wa.heap.size]?=some (.cells #[.pointer (some ⟨w.heap.size,0,none⟩),.pointer none,.map none] 88 (0,0)):=by rw [← hwb];exact heap_alloc_new wa _
 have hS2:m15.heap[wa.heap.size]?=some (.cells #[.pointer (some ⟨w.heap.size,0,none⟩),.pointer none,.map none] 88 (0,0)):=by
  rw [g15.block wa.heap.size (by omega) (fun e=>by injection e with e;omega),← hm0,Below.heap_alloc wb _ _ (by omega)]
  exact hS1
 have hD1:DiskAt wa w.heap.size dv0 dsk0:=by rw [← hwa];exact disk0 w
 have B1:Below wa.heap.size wa wb:=by rw [← hwb];exact (Below.refl _ wa).alloc (Nat.le_refl _) _
 have B2:Below wb.heap.size wb m0:=by rw [← hm0];exact (Below.refl _ wb).alloc (Nat.le_refl _) _
 have B3:Below wb.heap.size m0 m15:=⟨g15.os,g15.tape,g15.output,g15.size,fun i hi=>g15.block i (by omega) (fun e=>by injection e with e;omega)⟩
 have B4:Below wa.heap.size wa m15:=B1.trans ((B2.trans B3).mono (by omega))
 obtain⟨me,hme⟩:∃ me,m15.setCell ⟨wa.heap.size,2,none⟩ (.map (some wb.heap.size))=me:=⟨_,rfl⟩
 have B5:Below wa.heap.size m15 me:=by rw [← hme];exact (Below.refl _ m15).setCell (p:=⟨wa.heap.size,2,none⟩) (Nat.le_refl _) _
 have B6:Below w.heap.size w wa:=by rw [← hwa];exact (Below.refl _ w).alloc (Nat.le_refl _) _
 have sM:m15.heap.size=me.heap.size:=by rw [← hme];simp
 have zM:=g15.size
 have hS3:me.heap[wa.heap.size]?=some (.cells #[.pointer (some ⟨w.heap.size,0,none⟩),.pointer none,.map (some wb.heap.size)] 88 (0,0)):=by
  rw [← hme,heap_setCell_same m15 _ 2 _ _ _ hS2]
  rfl
 have hM3:CMap me wb.heap.size wa.heap.size cmds:=by
  refine CMap.same q15 ?_
  rw [← hme]
  exact Below.heap_setCell m15 _ _ _ (by show wb.heap.size≠wa.heap.size;omega)
 have HO:=hid (ho me wb.heap.size (by rw [← ea];exact hM3) (by rw [← ea];exact hS3) (by omega) (hD1.below (B4.trans B5)) (B6.trans ((B4.trans B5).mono (by omega))) (by omega))
 rw [← ea] at HO
 have cS:=cell_of_row m15 wa.heap.size 2 _ 88 (0,0) hS2
 simp only [List.getElem?_toArray,List.getElem?_cons_zero,List.getElem?_cons_succ] at cS
 have fS:m15.frozen? ⟨wa.heap.size,2,none⟩=false:=by simp [World.frozen?,hS2]
 rw [← ea]
 clear ho q0 q1 q2 q3 q4 q5 q6 q7 q8 q9 q10 q11 q12 q13 q14 q15 g1 g2 g3 g4 g5 g6 g7 g8 g9 g10 g11 g12 g13 g14 g15 B1 B2 B3 B4 B5 B6 hD1 hS1 hS2 hS3 hM3 ea eb e0 sM zM
 go_enter Tryz.func13,Tryz.ntmps13
 go_wp2_with (go_at_call 42;refine HO.out.mono ?_;rintro e wz ⟨rfl,hp⟩)
 go_ret
 exact⟨rfl,_,hp⟩
set_option maxRecDepth 100000 in
theorem newSes_any {w:World} (hl:LibAt w):Calls Tryz.prog 13 #[] w fun e w'=>e=.returned (.pointer (some ⟨w.heap.size+1,0,none⟩))∧∃ mb b L,SesAt w.heap.size w' (w.heap.size+1) mb w.heap.size b L dv0 ses0∧Below w.heap.size w w':=by
 refine (newSession_any (fun mb d w'=>∃ b L,SesAt w.heap.size w' (w.heap.size+1) mb w.heap.size b L dv0 ses0∧Below w.heap.size w w') ?_).mono (fun e w' hh=>⟨hh.1,hh.2⟩)
 intro w1 mb hM hS hmb hD hB hz
 have hlr:=hl.room
 generalize hd:w.heap.size=d at *
 generalize hSe:d+1=S at *
 have hml:=hM.lt
 have hSl:S<w1.heap.size:=(Array.getElem?_eq_some_iff.1 hS).1
 refine (dopen_ok (d:=d) (b0:=.pointer none) (mv:=.map (some mb)) (P:=fun w2=>DiskAt w2 d dv0 { dsk0 with cut:=decide ((-1:Int)≥0),left:=-1 }∧(w2.heap.size=w1.heap.size∧w2.os=w1.os∧w2.tape=w1.tape∧w2.output=w1.output)∧∀ j,j≠d→w2.heap[j]?=w1.heap[j]?)
  (P2:=fun b' w3=>∃ w2 L',(DiskAt w2 d dv0 { dsk0 with cut:=decide ((-1:Int)≥0),left:=-1 }∧(w2.heap.size=w1.heap.size∧w2.os=w1.os∧w2.tape=w1.tape∧w2.output=w1.output)∧∀ j,j≠d→w2.heap[j]?=w1.heap[j]?)∧w3.heap[b']?=some (.cells (basCells d L'.s 0 0 false) 262 (0,0))∧EnAt w3 L' (engO 0 [])∧Below w2.heap.size w2 w3∧(∀ g,L'.own g→w2.heap.size≤g)∧w2.heap.size≤b'∧¬ L'.own b')
  hS ((dcut_any hD (-1)).mono (fun e w2 hh=>⟨hh.1,hh.2.1,hh.2.2.1,hh.2.2.2⟩)) (fun w2 hp=>(hp.2.2 S (by omega)).trans hS) (fun w2 hp=>(open_any' hp.1 (dskG0.cut _ _).1).mono (fun e w3 hh=>by
   obtain⟨b',L',he,hh⟩:=hh
   exact⟨b',he,w2,L',hp,hh⟩)) (fun b' w3 hp=>by
   obtain⟨w2,L',hp,_,_,hB,_⟩:=hp
   exact (hB.block S (by rw [hp.2.1.1];exact hSl)).trans ((hp.2.2 S (by omega)).trans hS))).mono ?_
 rintro e w' ⟨rfl,b',w3,⟨w2,L',⟨hD2,hz2,hk2⟩,h1,h2,hB3,h4,h5,h6⟩,rfl⟩
 have hs1:=hB3.size
 have ho:∀ g,g≠S→(w3.setCell ⟨S,1,none⟩ (.pointer (some ⟨b',0,none⟩))).heap[g]?=w3.heap[g]?:=fun g hg=>heap_setCell_other _ _ _ _ hg
 have hsz:(w3.setCell ⟨S,1,none⟩ (.pointer (some ⟨b',0,none⟩))).heap.size=w3.heap.size:=by simp
 have hbS:w3.heap[S]?=some (.cells #[.pointer (some ⟨d,0,none⟩),.pointer none,.map (some mb)] 88 (0,0)):=(hB3.block S (by omega)).trans ((hk2 S (by omega)).trans hS)
 have hdl:∀ g,dOwn d dv0 g→g<w2.heap.size:=fun g hg=>hD2.own_lt hg
 have hd0:∀ g,dOwn d dv0 g→g=d:=fun g hg=>dOwn0 hg
 have hBB:Below d w (w3.setCell ⟨S,1,none⟩ (.pointer (some ⟨b',0,none⟩))):=hB.trans ⟨hB3.os.trans hz2.2.1,hB3.tape.trans hz2.2.2.1,hB3.output.trans hz2.2.2.2,by rw [hsz];omega,fun g hg=>(ho g (by omega)).trans ((hB3.block g (by omega)).trans (hk2 g (by omega)))⟩
 refine⟨rfl,b',L',⟨?_,hM.same ((ho mb (by omega)).trans ((hB3.block mb (by omega)).trans (hk2 mb (by omega)))),⟨(ho b' (by omega)).trans h1,(hD2.below hB3).same (by rw [hsz];exact Nat.le_refl _) (fun g hg=>ho g (by have:=hd0 g hg;omega)),h2.same (fun g hg=>ho g (fun e=>by have:=h4 g hg;omega)),h6,fun g hg=>⟨fun hl=>?_,fun e=>?_⟩⟩,⟨by omega,fun hg=>by have:=hd0 S hg;omega,fun hl=>?_⟩,⟨by omega,fun hg=>by have:=hd0 mb hg;omega,fun hl=>?_⟩,fun g hg=>?_,?_,hl.below hBB hlr,hlr⟩,hBB⟩
 ·exact (setCell_at hbS).trans rfl
 ·have:=h4 g hl;have:=hdl g hg;omega
 ·have:=hdl g hg;omega
 ·have:=h4 S hl;omega
 ·have:=h4 mb hl;omega
 ·rcases hg with hg | hg | hg | hg | hg
  ·omega
  ·omega
  ·omega
  ·have:=hd0 g hg;omega
  ·have:=h4 g hg;omega
 ·rw [hsz];omega
end Go.Proofs.YtjefgmeejhakbabGreatDoor
