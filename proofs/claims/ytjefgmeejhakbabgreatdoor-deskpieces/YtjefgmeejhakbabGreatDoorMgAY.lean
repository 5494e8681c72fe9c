/- BsWrite OrEdgesW: put together for a claim. -/
import Derived.Test.YtjefgmeejhakbabGreatDoorMgAX
import Derived.WalkLawsBesides
import Derived.Test.YtjefgmeejhakbabGreatDoorMgBA
import Derived.Test.YtjefgmeejhakbabGreatDoorOrCompactW
namespace Go.Proofs.YtjefgmeejhakbabGreatDoor
open Go.RowKit
theorem run_eql_nil8 (w:World) (a:Option Addr) (l c:Nat):(binOp .eql 39 (.slice a l c) (.slice none 0 0)).run Tryz.prog w=.ok (.bool a.isNone) w:=by
 simp [binOp,run_equal_slice_nil w 39 5 a l c Tryz.underlying39]
attribute [local go_sem] run_eql_nil8
set_option maxRecDepth 100000 in
set_option maxHeartbeats 1000000 in
theorem clone8_any (g off cap:Nat) (l:List Int) (w:World) (hn:l.length≤10000) (hA:BytesAt w (some ⟨g,off,none⟩) l) :
  Calls Tryz.prog 290 #[.slice (some ⟨g,off,none⟩) l.length cap] w fun e w'=>∃ vad vcap,e=.returned (.slice vad l.length vcap)∧BytesV w' (.slice vad l.length vcap) l∧(∀ k,(Value.slice vad l.length vcap).ownBlock=some k→w.heap.size≤k)∧Below w.heap.size w w':=by
 obtain⟨i0,hi0,hz0,hz1,hz2⟩:=info_parts info5
 have hown:(w.alloc (.cells #[] 5)).ownsRow w.heap.size 5 1 (.slice (some ⟨w.heap.size,0,none⟩) 0 0) 0 []:=World.ownsRow_made w #[] 0 (Nat.le_refl _) (by simp [maxLen]) rfl
 by_cases h0:l.length=0
 ·have hz:=run_append_zeroW (w:=w.alloc (.cells #[] 5)) (ty:=39) Tryz.underlying39 hi0 hown ⟨g,off,none⟩ cap
  obtain rfl:l=[]:=List.eq_nil_of_length_eq_zero h0
  clear hA
  go_enter Tryz.func290,Tryz.ntmps290
  go_wp2
  go_ret
  exact⟨_,_,rfl,⟨fun k hk=>by cases hk;simp,_,_,rfl,Nat.zero_le _,fun i x hx=>by cases hx⟩,fun k hk=>by cases hk;exact Nat.le_refl _,(Below.refl _ w).alloc (Nat.le_refl _) _⟩
 ·have hn2:∀ j u,(u8V l)[j]?=some u→(w.alloc (.cells #[] 5)).cell? ((⟨g,off,none⟩:Addr).add j)=some u:=fun j u hu=>by
   unfold u8V at hu
   rw [List.getElem?_map] at hu
   obtain⟨x,hx,rfl⟩:=Option.map_eq_some_iff.1 hu
   obtain⟨_,g',off',e,hc⟩:=hA j x hx
   cases e
   rw [Addr.add_mid]
   exact ((World.grownBy_alloc w (.cells #[] 5) none).cell hc (by simp))
  have h1:∀ u∈u8V l,u.oneCell'=true:=fun u hu=>by
   obtain⟨x,_,rfl⟩:=List.mem_map.1 hu
   rfl
  have hl8:(u8V l).length=l.length*1:=by simp [u8V]
  go_enter Tryz.func290,Tryz.ntmps290
  go_wp2_with (at_builtin;refine wpList_append_lies _ rfl _ _ _ rfl w.heap.size 5 i0 _ 1 1 Tryz.underlying39 hi0 hz0 hz1 hz2 rfl (by omega) _ 0 [] rfl hown ⟨g,off,none⟩ l.length cap (u8V l) rfl hl8 hn2 h1 (by omega) (by unfold maxLen;omega) (by omega) (by simp) (w.heap.size+1) (by simp) ?_;intro gg cap' w1 ho hgrow hat hlt2)
  go_ret
  rw [Nat.zero_add] at ho
  have hgrow2:(w.alloc (.cells #[] 5)).grownBy w1 (some w.heap.size):=hgrow
  exact⟨_,_,rfl,bytesV_own ho,fun k hk=>(ho.lt k hk).1,((Below.refl _ w).alloc (Nat.le_refl _) _).grown hgrow2 (by simp) (fun k e=>by cases e;exact Nat.le_refl _)⟩
def powerB (D:Dsk):Bool:=!D.cut||decide (D.left>0)
def writeD (D:Dsk) (place:Nat) (l:List Int) (torn:Int):Dsk :=
 if powerB D=true then { pl:=D.pl.set place l,cut:=D.cut,left:=if D.cut=true then D.left-1 else D.left }
 else { D with pl:=D.pl.set place (l.take (min torn (l.length-1)).toNat) }
section
variable {w:World} {d:Nat} {dv:List Value} {D:Dsk}
theorem DiskAt.free (h:DiskAt w d dv D) (o:Nat):w.frozen? ⟨d,o,none⟩=false:=by simp [World.frozen?,h.blk]
theorem DiskAt.not8 (h:DiskAt w d dv D) {g o:Nat} {x:Int} (hc:w.cell? ⟨g,o,none⟩=some (.int .u8 x)):g≠d:=fun e=>by
 subst e
 have h1:=(cell_of_row w g o _ _ (0,0) h.blk).symm.trans hc
 rw [List.getElem?_toArray] at h1
 by_cases ho:o<250
 ·obtain⟨v,l,hv,hl,_⟩:=h.get ho
  rw [List.getElem?_append_left (by rw [h.lv];exact ho),hv] at h1
  obtain⟨_,ad,cap,e,_⟩:=h.row o v l hv hl
  rw [e] at h1
  cases h1
 ·rw [List.getElem?_append_right (by rw [h.lv];omega),h.lv] at h1
  by_cases e0:o=250
  ·subst e0;simp at h1
  ·by_cases e1:o=251
   ·subst e1;simp at h1
   ·rw [List.getElem?_eq_none (by simp;omega)] at h1
    cases h1
theorem DiskAt.setBlk (h:DiskAt w d dv D) {o:Nat} {v:Value} {dv':List Value} {D':Dsk} (hb:(dv++[Value.bool D.cut,Value.int .i64 D.left]).toArray.setIfInBounds o v=(dv'++[Value.bool D'.cut,Value.int .i64 D'.left]).toArray) (hlv:dv'.length=250) (hlp:D'.pl.length=250)
  (hr:∀ (i:Nat) (u:Value) (l:List Int),dv'[i]?=some u→D'.pl[i]?=some l→BytesV w u l) (hf:∀ l∈D'.pl,l.length≤200∧∀ x∈l,0≤x∧x<256):DiskAt (w.setCell ⟨d,o,none⟩ v) d dv' D' :=
 ⟨(setCell_at h.blk).trans (by rw [hb]),hlv,hlp,fun i u l hu hl=>(hr i u l hu hl).same (by simp) (fun g _ _ _ hc=>heap_setCell_other _ _ _ _ (h.not8 hc)),hf⟩
theorem DiskAt.setLeft (h:DiskAt w d dv D) (n:Int):DiskAt (w.setCell ⟨d,251,none⟩ (.int .i64 n)) d dv { D with left:=n }:=by
 refine h.setBlk ?_ h.lv h.lp h.row h.fin
 rw [List.setIfInBounds_toArray,List.set_append_right _ _ (by rw [h.lv];omega),h.lv]
 rfl
theorem DiskAt.setCut (h:DiskAt w d dv D) (b:Bool):DiskAt (w.setCell ⟨d,250,none⟩ (.bool b)) d dv { D with cut:=b }:=by
 refine h.setBlk ?_ h.lv h.lp h.row h.fin
 rw [List.setIfInBounds_toArray,List.set_append_right _ _ (by rw [h.lv];omega),h.lv]
 rfl
theorem DiskAt.setPlace (h:DiskAt w d dv D) {i:Nat} (hi:i<250) {v:Value} {l:List Int} (hv:BytesV w v l) (hl:l.length≤200∧∀ x∈l,0≤x∧x<256):DiskAt (w.setCell ⟨d,i,none⟩ v) d (dv.set i v) { D with pl:=D.pl.set i l }:=by
 refine h.setBlk ?_ (by rw [List.length_set];exact h.lv) (by show (D.pl.set i l).length=250;rw [List.length_set];exact h.lp) (fun j u m hu hm=>?_) (fun m hm=>?_)
 ·rw [List.setIfInBounds_toArray,List.set_append_left _ _ (by rw [h.lv];exact hi)]
 ·have hm:(D.pl.set i l)[j]?=some m:=hm
  by_cases e:j=i
  ·subst e
   rw [List.getElem?_set_self (by rw [h.lv];exact hi)] at hu
   rw [List.getElem?_set_self (by rw [h.lp];exact hi)] at hm
   cases hu
   cases hm
   exact hv
  ·rw [List.getElem?_set_ne (fun h=>e h.symm)] at hu hm
   exact h.row j u m hu hm
 ·rcases List.mem_or_eq_of_mem_set (show m∈D.pl.set i l from hm) with hm | rfl
  ·exact h.fin m hm
  ·exact hl
theorem dOwn_set {i m:Nat} {v:Value} {n:Nat} (hv:∀ k,v.ownBlock=some k→n≤k) (hm:m≤n):∀ g,dOwn d (dv.set i v) g→dOwn d dv g∨m≤g:=fun g hg=>by
 rcases hg with rfl | ⟨j,u,hu,hg⟩
 ·exact .inl (.inl rfl)
 ·by_cases e:j=i
  ·subst e
   by_cases hj:j<dv.length
   ·rw [List.getElem?_set_self hj] at hu
    cases hu
    exact .inr (Nat.le_trans hm (hv g hg))
   ·rw [List.getElem?_eq_none (by rw [List.length_set];omega)] at hu
    cases hu
  ·rw [List.getElem?_set_ne (fun h=>e h.symm)] at hu
   exact .inl (.inr ⟨j,u,hu,hg⟩)
theorem DiskAt.cellCut (h:DiskAt w d dv D):w.cell? ⟨d,250,none⟩=some (.bool D.cut):=by
 refine (cell_of_row w d 250 _ _ (0,0) h.blk).trans ?_
 rw [List.getElem?_toArray,List.getElem?_append_right (by rw [h.lv];omega),h.lv]
 rfl
theorem DiskAt.cellLeft (h:DiskAt w d dv D):w.cell? ⟨d,251,none⟩=some (.int .i64 D.left):=by
 refine (cell_of_row w d 251 _ _ (0,0) h.blk).trans ?_
 rw [List.getElem?_toArray,List.getElem?_append_right (by rw [h.lv];omega),h.lv]
 rfl
end
set_option maxRecDepth 100000 in
set_option maxHeartbeats 1000000 in
theorem dwrite_power {w:World} {d:Nat} {dv:List Value} {D:Dsk} (h:DiskAt w d dv D) {place:Nat} (hp:place<250) {l:List Int} {g off cap:Nat} (hl:0<l.length∧l.length≤200) (hA:BytesAt w (some ⟨g,off,none⟩) l) (hleft:D.cut=true→I64 (D.left-1)) (torn:Int) (hpw:powerB D=true) :
  Calls Tryz.prog 233 #[.pointer (some ⟨d,0,none⟩),.int .i64 (place:Int),.slice (some ⟨g,off,none⟩) l.length cap,.int .i64 torn] w fun e w'=>e=.returned (.bool true)∧(∃ dv',DiskAt w' d dv' (writeD D place l torn)∧∀ g,dOwn d dv' g→dOwn d dv g∨w.heap.size≤g)∧(w.heap.size≤w'.heap.size∧w'.os=w.os∧w'.tape=w.tape∧w'.output=w.output)∧∀ k,k<w.heap.size→k≠d→w'.heap[k]?=w.heap[k]?:=by
 have hcut:=h.cellCut
 have hlft:=h.cellLeft
 have hf1:=h.free 251
 have gp0:(0:Int)≤(place:Int):=by omega
 have gp1:(place:Int)<250:=by omega
 have hfin:∀ x∈l,0≤x∧x<256:=fun x hx=>by
  obtain⟨i,hi,e⟩:=List.getElem_of_mem hx
  exact (hA i x (by rw [List.getElem?_eq_getElem hi,e])).1
 by_cases hct:D.cut=true
 ·rw [hct] at hcut
  have hlf:D.left>0:=by unfold powerB at hpw;rw [hct] at hpw;simpa using hpw
  have glf:decide (D.left>0)=true:=by simpa using hlf
  have gw:IntKind.i64.wrap (D.left-1)=D.left-1:=IntWalk.i64_in _ (hleft hct)
  obtain⟨w1,hw1⟩:∃ w1,w.setCell ⟨d,251,none⟩ (.int .i64 (D.left-1))=w1:=⟨_,rfl⟩
  have hD1:DiskAt w1 d dv { D with left:=D.left-1 }:=by rw [← hw1];exact h.setLeft _
  have hk1:∀ k,k≠d→w1.heap[k]?=w.heap[k]?:=fun k hk=>by rw [← hw1];exact heap_setCell_other _ _ _ _ hk
  have hs1:w1.heap.size=w.heap.size:=by rw [← hw1];simp
  have hA1:BytesAt w1 (some ⟨g,off,none⟩) l:=fun i x hx=>by
   obtain⟨hb,g',off',e,hc⟩:=hA i x hx
   cases e
   exact⟨hb,g,off,rfl,(World.cell?_of_block (a:=⟨g,off+i,none⟩) (hk1 g (h.not8 hc))).trans hc⟩
  have HC:=hid (clone8_any g off cap l w1.drew (by omega) (hA1.same (fun _ _=>rfl)))
  have HF:=hid (And.intro hD1 (And.intro hk1 (And.intro hs1 (And.intro hfin (show w1.os=w.os∧w1.tape=w.tape∧w1.output=w.output by rw [← hw1];exact⟨rfl,rfl,rfl⟩)))))
  have HW1:=hid hw1
  have hwd:writeD D place l torn={ pl:=D.pl.set place l,cut:=D.cut,left:=D.left-1 }:=by unfold writeD;rw [if_pos hpw,if_pos hct]
  rw [hwd]
  clear hA hA1 hD1 hk1 hs1 hfin hw1 hwd
  go_enter Tryz.func233,Tryz.ntmps233
  go_wp2
  rw [HW1.out]
  go_region_held3 (fun _=>True) (trivial) ((go_at_call 290;refine HC.out.mono ?_;rintro e w2 ⟨vad,vcap,rfl,hv,hvo,hB⟩;obtain⟨v0,l0,hv0,hl0,hc0⟩:=(HF.out.1.below (show Below w1.heap.size w1 w2 from ⟨hB.os,hB.tape,hB.output,hB.size,hB.block⟩)).get hp;have hf0:=(HF.out.1.below (show Below w1.heap.size w1 w2 from ⟨hB.os,hB.tape,hB.output,hB.size,hB.block⟩)).free place))
  have HB:=hid (show Below w1.heap.size w1 w2 from ⟨hB.os,hB.tape,hB.output,hB.size,hB.block⟩)
  have HV:=hid hv
  have HVO:=hid hvo
  clear hB hv hvo
  go_wp2
  go_ret
  refine⟨rfl,⟨_,(HF.out.1.below HB.out).setPlace hp HV.out ⟨hl.2,HF.out.2.2.2.1⟩,dOwn_set HVO.out (by rw [show w1.drew.heap.size=w1.heap.size from rfl,HF.out.2.2.1];exact Nat.le_refl _)⟩,⟨by simp;have:=HB.out.size;have:=HF.out.2.2.1;omega,HB.out.os.trans HF.out.2.2.2.2.1,HB.out.tape.trans HF.out.2.2.2.2.2.1,HB.out.output.trans HF.out.2.2.2.2.2.2⟩,fun k hk hkd=>?_⟩
  rw [heap_setCell_other _ _ _ _ hkd,HB.out.block k (by rw [HF.out.2.2.1];exact hk),HF.out.2.1 k hkd]
 ·have hct':D.cut=false:=by simpa using hct
  rw [hct'] at hcut
  have HC:=hid (clone8_any g off cap l w.drew (by omega) (hA.same (fun _ _=>rfl)))
  have HF:=hid (And.intro h hfin)
  have hwd:writeD D place l torn={ pl:=D.pl.set place l,cut:=D.cut,left:=D.left }:=by unfold writeD;rw [if_pos hpw,if_neg hct]
  rw [hwd]
  clear hA hfin hwd h
  go_enter Tryz.func233,Tryz.ntmps233
  go_wp2
  go_region_held3 (fun _=>True) (trivial) ((go_at_call 290;refine HC.out.mono ?_;rintro e w2 ⟨vad,vcap,rfl,hv,hvo,hB⟩;obtain⟨v0,l0,hv0,hl0,hc0⟩:=(HF.out.1.below (show Below w.heap.size w w2 from ⟨hB.os,hB.tape,hB.output,hB.size,hB.block⟩)).get hp;have hf0:=(HF.out.1.below (show Below w.heap.size w w2 from ⟨hB.os,hB.tape,hB.output,hB.size,hB.block⟩)).free place))
  have HB:=hid (show Below w.heap.size w w2 from ⟨hB.os,hB.tape,hB.output,hB.size,hB.block⟩)
  have HV:=hid hv
  have HVO:=hid hvo
  clear hB hv hvo
  go_wp2
  go_ret
  refine⟨rfl,⟨_,(HF.out.1.below HB.out).setPlace hp HV.out ⟨hl.2,HF.out.2⟩,dOwn_set HVO.out (Nat.le_refl _)⟩,⟨by simp;exact HB.out.size,HB.out.os,HB.out.tape,HB.out.output⟩,fun k hk hkd=>?_⟩
  rw [heap_setCell_other _ _ _ _ hkd,HB.out.block k hk]
set_option maxRecDepth 100000 in
set_option maxHeartbeats 1000000 in
theorem dwrite_off {w:World} {d:Nat} {dv:List Value} {D:Dsk} (h:DiskAt w d dv D) {place:Nat} (hp:place<250) {l:List Int} {g off cap:Nat} (hl:0<l.length∧l.length≤200) (hcap:l.length≤cap) (hA:BytesAt w (some ⟨g,off,none⟩) l) {torn:Int} (ht:0≤torn) (hpw:powerB D=false) :
  Calls Tryz.prog 233 #[.pointer (some ⟨d,0,none⟩),.int .i64 (place:Int),.slice (some ⟨g,off,none⟩) l.length cap,.int .i64 torn] w fun e w'=>e=.returned (.bool false)∧(∃ dv',DiskAt w' d dv' (writeD D place l torn)∧∀ g,dOwn d dv' g→dOwn d dv g∨w.heap.size≤g)∧(w.heap.size≤w'.heap.size∧w'.os=w.os∧w'.tape=w.tape∧w'.output=w.output)∧∀ k,k<w.heap.size→k≠d→w'.heap[k]?=w.heap[k]?:=by
 have hcut:=h.cellCut
 have hlft:=h.cellLeft
 have gp0:(0:Int)≤(place:Int):=by omega
 have gp1:(place:Int)<250:=by omega
 have hfin:∀ x∈l,0≤x∧x<256:=fun x hx=>by
  obtain⟨i,hi,e⟩:=List.getElem_of_mem hx
  exact (hA i x (by rw [List.getElem?_eq_getElem hi,e])).1
 have hct:D.cut=true:=by
  cases hc:D.cut with
  | true=>rfl
  | false=>unfold powerB at hpw;rw [hc] at hpw;cases hpw
 rw [hct] at hcut
 have hlf:¬ D.left>0:=by unfold powerB at hpw;rw [hct] at hpw;simpa using hpw
 have glf:decide (D.left>0)=false:=by simpa using hlf
 have gs:IntKind.i64.wrap ((l.length:Int)-1)=(l.length:Int)-1:=IntWalk.i64_in _ (by omega)
 obtain⟨k,hk⟩:∃ k:Nat,min torn ((l.length:Int)-1)=(k:Int):=⟨(min torn ((l.length:Int)-1)).toNat,by omega⟩
 have hkl:k<l.length:=by omega
 have gk0:(0:Int)≤(k:Int):=by omega
 have gk1:(k:Int)≤(cap:Int):=by omega
 have hkt:(l.take k).length=k:=by rw [List.length_take];omega
 have hC:=clone8_any g off cap (l.take k) w.drew (by omega) ((hA.take k).same (fun _ _=>rfl))
 rw [hkt] at hC
 have HC:=hid hC
 have HF:=hid (And.intro h (show (l.take k).length≤200∧∀ x∈l.take k,0≤x∧x<256 from ⟨by omega,fun x hx=>hfin x (List.mem_of_mem_take hx)⟩))
 have hwd:writeD D place l torn={ D with pl:=D.pl.set place (l.take k) }:=by
  unfold writeD
  rw [if_neg (by rw [hpw];simp),hk,Int.toNat_natCast]
 rw [hwd]
 clear hA hfin hwd h hC hkt
 go_enter Tryz.func233,Tryz.ntmps233
 go_wp2
 go_region_held3 (fun _=>True) (trivial) ((go_at_call 290;refine HC.out.mono ?_;rintro e w2 ⟨vad,vcap,rfl,hv,hvo,hB⟩;obtain⟨v0,l0,hv0,hl0,hc0⟩:=(HF.out.1.below (show Below w.heap.size w w2 from ⟨hB.os,hB.tape,hB.output,hB.size,hB.block⟩)).get hp;have hf0:=(HF.out.1.below (show Below w.heap.size w w2 from ⟨hB.os,hB.tape,hB.output,hB.size,hB.block⟩)).free place))
 have HB:=hid (show Below w.heap.size w w2 from ⟨hB.os,hB.tape,hB.output,hB.size,hB.block⟩)
 have HV:=hid hv
 have HVO:=hid hvo
 clear hB hv hvo
 go_wp2
 go_ret
 refine⟨rfl,⟨_,(HF.out.1.below HB.out).setPlace hp HV.out HF.out.2,dOwn_set HVO.out (Nat.le_refl _)⟩,⟨by simp;exact HB.out.size,HB.out.os,HB.out.tape,HB.out.output⟩,fun k hk hkd=>?_⟩
 rw [heap_setCell_other _ _ _ _ hkd,HB.out.block k hk]
end Go.Proofs.YtjefgmeejhakbabGreatDoor
namespace Go.Proofs.YtjefgmeejhakbabGreatDoor
open Go.RowKit
theorem heap_setCells_all {g:Nat} {e:TypeId}:∀ (vs:List Value) (o:Nat) (w:World) (cur:Array Value),w.heap[g]?=some (.cells cur e (0,0))→o+vs.length≤cur.size→∃ cur',(w.setCells g o vs).heap[g]?=some (.cells cur' e (0,0))∧cur'.size=cur.size∧∀ i,cur'[i]?=if o≤i∧i<o+vs.length then vs[i-o]? else cur[i]?
 | [],o,_,cur,h,_=>⟨cur,h,rfl,fun i=>by rw [if_neg (fun h=>absurd h.2 (by have:=h.1;simp only [List.length_nil];omega))]⟩
 | v::r,o,w,cur,h,hs=>by
  rw [World.setCells]
  obtain⟨cur',h1,h2,h3⟩:=heap_setCells_all r (o+1) _ _ (heap_setCell_same w g o cur e v h) (by simp at hs ⊢;omega)
  refine⟨cur',h1,by rw [h2];simp,fun i=>?_⟩
  rw [h3 i]
  by_cases e1:i=o
  ·subst e1
   rw [if_neg (by omega),if_pos (by simp),Array.getElem?_setIfInBounds,if_pos rfl,if_pos (by simp at hs;omega)]
   simp
  ·by_cases e2:o+1≤i∧i<o+1+r.length
   ·rw [if_pos e2,if_pos (by simp;omega),show i-o=(i-(o+1))+1 by omega]
    rfl
   ·rw [if_neg e2,if_neg (by simp;omega),Array.getElem?_setIfInBounds,if_neg (fun e=>e1 e.symm)]
theorem heap_setCells_whole {g:Nat} {e:TypeId} {w:World} {cur C:Array Value} (h:w.heap[g]?=some (.cells cur e (0,0))) (hs:C.size=cur.size):(w.setCells g 0 C.toList).heap[g]?=some (.cells C e (0,0)):=by
 obtain⟨cur',h1,h2,h3⟩:=heap_setCells_all C.toList 0 w cur h (by simp;omega)
 rw [h1]
 congr 2
 apply Array.ext_getElem?
 intro i
 rw [h3 i]
 by_cases hi:i<C.size
 ·rw [if_pos (by simp;omega)];simp
 ·rw [if_neg (by simp;omega),Array.getElem?_eq_none (by omega),Array.getElem?_eq_none (by omega)]
def notesK (l:List Opp) (k:Nat):List (Int × Int):=(List.range k).flatMap (fun k=>(conP (writersP l (k:Nat))).filter neP)
theorem notesK_step (l:List Opp) (k:Nat):notesK l (k+1)=notesK l k++(conP (writersP l (k:Nat))).filter neP:=by
 unfold notesK;rw [List.range_succ,List.flatMap_append];simp
def notesJ (l:List Opp) (j:Nat):List (Int × Int):=notesK l 10++(l.take j).flatMap (fun o=>(readsP l o).filter neP)
theorem notesJ_step {l:List Opp} {j:Nat} {o:Opp} (h:l[j]?=some o):notesJ l (j+1)=notesJ l j++(readsP l o).filter neP:=by
 unfold notesJ;rw [List.take_add_one,h,List.flatMap_append,List.append_assoc];simp
theorem notesJ_all (l:List Opp):notesJ l l.length=notesP l:=by unfold notesJ notesP notesK;rw [List.take_length]
theorem notesK_len (l:List Opp) (k:Nat):(notesK l k).length≤l.length*k:=by
 have:=flat_len (fun k=>(conP (writersP l ((k:Nat):Int))).filter neP) l.length (List.range k) (fun k _=>Nat.le_trans (List.length_filter_le _ _) (Nat.le_trans (conP_length _) (writers_len l _)))
 rwa [List.length_range] at this
theorem notesJ_len (l:List Opp) (j:Nat):(notesJ l j).length≤12*l.length:=by
 unfold notesJ
 have h1:=notesK_len l 10
 have h2:=flat_len (fun o=>(readsP l o).filter neP) 2 (l.take j) (fun o _=>Nat.le_trans (List.length_filter_le _ _) (readsP_len l o))
 rw [List.length_append]
 rw [List.length_take] at h2
 omega
theorem noteP_filter (a b:Int):noteP a b=[(a,b)].filter neP:=by
 unfold noteP neP
 by_cases e:a=b<;>simp [e]
theorem readNotes_eq {l:List Opp} {o:Opp} (hr:o.2.2.1=false) {s:List Int} (hs:writersP l o.2.1=s) {p:Int} (hp:behindG s o.2.2.2=(p,true)):readNotes s o.1 o.2.2.2 p=(readsP l o).filter neP:=by
 have hrs:readsP l o=(readP s o).getD []:=by
  unfold readsP
  rw [if_neg (by rw [hr];decide),hs]
 rw [hrs]
 unfold readNotes readP
 unfold behindG at hp
 have hopt:∀ x:Option Int,(match x with | some y=>noteP o.1 y | none=>[])=(x.toList.map (fun y=>(o.1,y))).filter neP:=fun x=>by
  cases x with
  | none=>rfl
  | some y=>simp [noteP_filter]
 by_cases e:o.2.2.2=0
 ·rw [if_pos e] at hp
  cases hp
  rw [if_pos e,if_pos e]
  simp only [List.nil_append,Int.toNat_zero,Option.getD_some]
  exact hopt _
 ·rw [if_neg e] at hp
  rw [if_neg e,if_neg e]
  cases hf:firstAt o.2.2.2 s with
  | none=>rw [hf] at hp;cases hp
  | some i =>
   rw [hf] at hp
   cases hp
   simp only [Option.map_some,Option.getD_some]
   rw [show ((i:Int)+1).toNat=i+1 by omega,noteP_filter]
   refine (congrArg (List.filter neP [(o.2.2.2,o.1)]++·) (hopt s[i+1]?)).trans ?_
   show List.filter neP [(o.2.2.2,o.1)]++_=_
   rw [← List.filter_append]
   rfl
set_option maxRecDepth 100000 in
set_option maxHeartbeats 400000 in
theorem edges_beyond (ad:Option Addr) (cap:Nat) (l:List Opp) (m:Nat) (w:World) (hn:l.length≤1000000) (hO:OpsAt w ad l) (hm:FineTo opBad l m) (hl:m<l.length) :
  Calls Tryz.prog 185 #[.slice ad l.length cap] w fun e w'=>∃ pb,e=.returned (.tuple #[.slice none 0 0,.iface 222 (.pointer (some ⟨pb,0,none⟩))])∧w'.heap[pb]?=some (.cells #[.int .i64 2,.int .i64 m] 224 (0,0))∧Below w.heap.size w w':=by
 have hC:=beyond_any ad cap l m w (by omega) hO hm
 have HC:=hid hC
 clear hC hO hm
 go_enter Tryz.func185,Tryz.ntmps185
 go_wp2_with fail
 refine HC.out.mono ?_
 rintro e w1 ⟨ev,rfl,hT,hB⟩
 rcases hT with ⟨e,_⟩ | ⟨_,pb,rfl,hpb⟩
 ·omega
 ·have HP:=hid (And.intro hpb hB)
  have hne:∀ w,(binOp .neq 27 (.iface 222 (.pointer (some ⟨pb,0,none⟩))) .nilIface).run Tryz.prog w=.ok (.bool true) w:=fun _=>by kernel_rfl
  clear hpb hB
  go_wp2
  go_ret2
  exact⟨pb,rfl,HP.out⟩
theorem there_new (w:World) (cur:Array Value) (t:TypeId) (n:Nat) (h:n=cur.size):(w.alloc (.cells cur t)).there w.heap.size 0 n:=fun i hi=>by
 have hg:=heap_alloc_new w (.cells cur t)
 generalize w.alloc (.cells cur t)=wz at hg
 rw [Nat.zero_add,cell_of_row wz w.heap.size i cur t (0,0) hg]
 exact⟨by rw [Array.getElem?_eq_getElem (by omega)];rfl,by simp [World.frozen?,hg]⟩
theorem keys_stored {w:World} {K:Nat} {av:Nat→Value} {mv:Nat→Option Nat} {S:Nat→List Int} (h:KeysAt w K av mv S) {cur:Array Value} (hc:cur.size=20) :
  KeysAt ((w.alloc (.cells cur 339)).setCells w.heap.size 0 (keyCells av mv).toList) w.heap.size av mv S∧Below w.heap.size w ((w.alloc (.cells cur 339)).setCells w.heap.size 0 (keyCells av mv).toList):=by
 have hB:Below w.heap.size w ((w.alloc (.cells cur 339)).setCells w.heap.size 0 (keyCells av mv).toList):=below_setCells (Nat.le_refl _) _ _ _ ((Below.refl _ _).alloc (Nat.le_refl _) _)
 have h2:=h.below hB
 exact⟨⟨heap_setCells_whole (heap_alloc_new w _) (by rw [keyCells_size,hc]),h2.row,h2.map,h2.nil,h2.ap,h2.am⟩,hB⟩
set_option maxRecDepth 100000 in
set_option maxHeartbeats 400000 in
theorem edges_ground (ad:Option Addr) (cap:Nat) (l:List Opp) (m:Nat) (w:World) (hn:l.length≤1000000) (hO:OpsAt w ad l) (hf:FineTo opBad l l.length) (hm:FineTo (badRead l) l m) (hl:m<l.length) :
  Calls Tryz.prog 185 #[.slice ad l.length cap] w fun e w'=>∃ pb,e=.returned (.tuple #[.slice none 0 0,.iface 222 (.pointer (some ⟨pb,0,none⟩))])∧w'.heap[pb]?=some (.cells #[.int .i64 1,.int .i64 m] 224 (0,0))∧Below w.heap.size w w':=by
 have HC:=hid (beyond_any ad cap l l.length w (by omega) hO hf)
 have HO:=hid hO
 have HF:=hid hf.all
 have HM:=hid hm
 have hin0:(Tryz.prog.info? 339).map (·.size)=some 20:=by kernel_rfl
 have HI:=hid hin0
 clear hO hf hm hin0
 go_enter Tryz.func185,Tryz.ntmps185
 go_wp2_with fail
 refine HC.out.mono ?_
 rintro e w1 ⟨ev,rfl,hT,hB⟩
 rcases hT with ⟨_,rfl⟩ | ⟨h,_⟩
 ·have HB:=hid hB
  have hnn:∀ w,(binOp .neq 27 .nilIface .nilIface).run Tryz.prog w=.ok (.bool false) w:=fun _=>by kernel_rfl
  clear hB HC
  go_wp2_with fail
  refine (orWritten_any ad cap l w1 (by omega) (HO.out.below HB.out) HF.out).mono ?_
  rintro e w2 ⟨K,av,mv,rfl,hK,hown,hB2⟩
  obtain⟨hs1,hs2⟩:=keys_stored hK (cur:=#[.slice none 0 0,.map none,.slice none 0 0,.map none,.slice none 0 0,.map none,.slice none 0 0,.map none,.slice none 0 0,.map none,.slice none 0 0,.map none,.slice none 0 0,.map none,.slice none 0 0,.map none,.slice none 0 0,.map none,.slice none 0 0,.map none]) rfl
  have hBs:=HB.out.size
  have hB2s:=hB2.size
  have HK2:=hid (And.intro hs1 (HB.out.trans ((hB2.mono hBs).trans (hs2.mono (Nat.le_trans hBs hB2s)))))
  have hth:=there_new w2 #[.slice none 0 0,.map none,.slice none 0 0,.map none,.slice none 0 0,.map none,.slice none 0 0,.map none,.slice none 0 0,.map none,.slice none 0 0,.map none,.slice none 0 0,.map none,.slice none 0 0,.map none,.slice none 0 0,.map none,.slice none 0 0,.map none] 339 (keyCells av mv).size (by rw [keyCells_size];rfl)
  have h1:(keyCells av mv).all (·.oneCell')=true:=Array.all_eq_true_iff_forall_mem.2 (fun v hv=>keyCells_one hK v (by simpa using hv))
  have hin:(Tryz.prog.info? 339).map (·.size)=some (keyCells av mv).size:=by rw [keyCells_size];exact HI.out
  obtain⟨C,hC⟩:∃ C,keyCells av mv=C:=⟨_,rfl⟩
  rw [hC] at hth h1 hin HK2 ⊢
  have HTH:=hid hth
  clear hK hown hs1 hs2 hB2 hth hC
  go_wp2_with (refine wpList_store_mid (by rfl) 339 _ _ (by rfl) w2.heap.size 0 C (by rfl) (by rfl) HTH.out hin h1 ?_)
  generalize ((w2.alloc (.cells _ 339)).setCells w2.heap.size 0 C.toList)=wk at HK2 ⊢
  refine (groundless_any ad cap w2.heap.size av mv l m wk (by omega) (HO.out.below HK2.out.2) HF.out HK2.out.1 HM.out).mono ?_
  rintro e w3 ⟨ev,rfl,hT,hB3⟩
  have hK2s:=HK2.out.2.size
  rcases hT with ⟨h,_⟩ | ⟨_,pb,rfl,hpb⟩
  ·omega
  ·have HP:=hid (And.intro hpb (HK2.out.2.trans (hB3.mono hK2s)))
   have hne:∀ w,(binOp .neq 27 (.iface 222 (.pointer (some ⟨pb,0,none⟩))) .nilIface).run Tryz.prog w=.ok (.bool true) w:=fun _=>by kernel_rfl
   clear hpb hB3 hK2s
   go_wp2
   go_ret2
   exact⟨pb,rfl,HP.out⟩
 ·omega
set_option maxRecDepth 100000 in
set_option maxHeartbeats 2000000 in
theorem edges_ok (ad:Option Addr) (cap:Nat) (l:List Opp) (w:World) (hn:l.length≤1000000) (hO:OpsAt w ad l) (hf:FineTo opBad l l.length) (hm:FineTo (badRead l) l l.length) :
    Calls Tryz.prog 185 #[.slice ad l.length cap] w fun e w'=>∃ v E,e=.returned (.tuple #[v,.nilIface])∧IsEdges l E∧E.length≤12*l.length∧w'.ownsRow w.heap.size 122 2 v E.length (vrow E)∧Below w.heap.size w w':=by
  have HC:=hid (beyond_any ad cap l l.length w (by omega) hO hf)
  have HO:=hid hO
  have HF:=hid hf.all
  have HM:=hid hm
  have hin0:(Tryz.prog.info? 339).map (·.size)=some 20:=by kernel_rfl
  have HI:=hid hin0
  clear hO hf hm hin0
  go_enter Tryz.func185,Tryz.ntmps185
  go_wp2_with fail
  refine HC.out.mono ?_
  rintro e w1 ⟨ev,rfl,hT,hB⟩
  rcases hT with ⟨_,rfl⟩ | ⟨h,_⟩
  · have HB:=hid hB
    have hnn:∀ w,(binOp .neq 27 .nilIface .nilIface).run Tryz.prog w=.ok (.bool false) w:=fun _=>by kernel_rfl
    clear hB HC
    go_wp2_with fail
    refine (orWritten_any ad cap l w1 (by omega) (HO.out.below HB.out) HF.out).mono ?_
    rintro e w2 ⟨K,av,mv,rfl,hK,hown,hB2⟩
    obtain⟨hs1,hs2⟩:=keys_stored hK (cur:=#[.slice none 0 0,.map none,.slice none 0 0,.map none,.slice none 0 0,.map none,.slice none 0 0,.map none,.slice none 0 0,.map none,.slice none 0 0,.map none,.slice none 0 0,.map none,.slice none 0 0,.map none,.slice none 0 0,.map none,.slice none 0 0,.map none]) rfl
    have hBs:=HB.out.size
    have hB2s:=hB2.size
    have HK2:=hid (And.intro hs1 (HB.out.trans ((hB2.mono hBs).trans (hs2.mono (Nat.le_trans hBs hB2s)))))
    have hth:=there_new w2 #[.slice none 0 0,.map none,.slice none 0 0,.map none,.slice none 0 0,.map none,.slice none 0 0,.map none,.slice none 0 0,.map none,.slice none 0 0,.map none,.slice none 0 0,.map none,.slice none 0 0,.map none,.slice none 0 0,.map none,.slice none 0 0,.map none] 339 (keyCells av mv).size (by rw [keyCells_size];rfl)
    have h1:(keyCells av mv).all (·.oneCell')=true:=Array.all_eq_true_iff_forall_mem.2 (fun v hv=>keyCells_one hK v (by simpa using hv))
    have hin:(Tryz.prog.info? 339).map (·.size)=some (keyCells av mv).size:=by rw [keyCells_size];exact HI.out
    obtain⟨C,hC⟩:∃ C,keyCells av mv=C:=⟨_,rfl⟩
    rw [hC] at hth h1 hin HK2 ⊢
    have HTH:=hid hth
    clear hK hown hs1 hs2 hB2 hth hC
    go_wp2_with (refine wpList_store_mid (by rfl) 339 _ _ (by rfl) w2.heap.size 0 C (by rfl) (by rfl) HTH.out hin h1 ?_)
    generalize ((w2.alloc (.cells _ 339)).setCells w2.heap.size 0 C.toList)=wk at HK2 ⊢
    refine (groundless_any ad cap w2.heap.size av mv l l.length wk (by omega) (HO.out.below HK2.out.2) HF.out HK2.out.1 HM.out).mono ?_
    rintro e w3 ⟨ev,rfl,hT,hB3⟩
    rcases hT with ⟨_,rfl⟩ | ⟨h,_⟩
    · have hK2s:=HK2.out.2.size
      have hB3s:=hB3.size
      have hkn:∀ b,keysOwn w2.heap.size av mv b→b<w3.heap.size:=fun b hb=>Nat.lt_of_lt_of_le (HK2.out.1.own_lt hb) hB3s
      have HK3:=hid (And.intro (HK2.out.1.below hB3) (And.intro (HK2.out.2.trans (hB3.mono hK2s)) hkn))
      have hw3:w.heap.size≤w3.heap.size:=Nat.le_trans hK2s hB3s
      clear hB3 hK2s hB3s hkn HK2 HB HTH hin h1 HI
      go_wp2
      have HT0:Hid (TwosN w3.heap.size (w3.alloc (.cells #[.slice none 0 0] 120)) w3.heap.size (.slice none 0 0) []):=hid ⟨heap_alloc_new w3 _,World.ownsRow_nil _ _ _ _,Nat.le_refl _⟩
      have HB0:=hid (show Below w3.heap.size w3 (w3.alloc (.cells #[.slice none 0 0] 120)) from (Below.refl _ _).alloc (Nat.le_refl _) _)
      go_loopw [25] (fun kv wr=>∃ (k:Nat) (v:Value),kv=.int .i64 k∧k≤10∧TwosN w3.heap.size wr w3.heap.size v (notesK l k)∧Below w3.heap.size w3 wr) (fun kv _=>10-(intOf kv).toNat)
      case atStart=>exact⟨0,_,rfl,by omega,HT0.out,HB0.out⟩
      case round =>
        obtain⟨k,v,rfl,hk,hT,hB4⟩:=hrel
        have HR:=hid (And.intro hT hB4)
        have hKr:KeysAt wr w2.heap.size av mv (fun k=>writersP l (k:Nat)):=HK3.out.1.same (fun b hb=>hB4.block b (HK3.out.2.2 b hb))
        by_cases hlt:k<10
        · have hk0:(0:Int)≤(k:Int):=by omega
          have hk1:(k:Int)<10:=by omega
          have hlen:(notesK l k).length+(writersP l (k:Nat)).length≤50000000:=by
            have h1:=notesK_len l k
            have h2:=writers_len l (k:Nat)
            have h3:l.length*k≤l.length*10:=Nat.mul_le_mul_left _ hk
            omega
          have HC5:=hid (noteWrites_any w3.heap.size w3.heap.size w2.heap.size v (notesK l k) k av mv _ wr hT hKr HK3.out.2.2 hlt hlen)
          clear hT hB4 hKr hlen
          go_wp2_with (go_at_call 245;refine HC5.out.mono ?_;rintro e w5 ⟨rfl,v5,hT5,hB5⟩)
          go_roundw
          case rel=>exact⟨k+1,v5,by go_num,by omega,by rw [notesK_step];exact hT5,HR.out.2.trans hB5⟩
          case measure=>simp [intOf];omega
        · obtain rfl:k=10:=by omega
          have hge:¬ ((10:Nat):Int)<10:=by omega
          clear hT hB4 hKr
          go_wp2
          go_loopw [35] (fun iv wr=>∃ (j:Nat) (v:Value),iv=.int .i64 j∧j≤l.length∧TwosN w3.heap.size wr w3.heap.size v (notesJ l j)∧Below w3.heap.size w3 wr) (fun iv _=>l.length-(intOf iv).toNat)
          case atStart =>
            refine⟨0,v,rfl,Nat.zero_le _,?_,HR.out.2⟩
            have e:notesJ l 0=notesK l 10:=by unfold notesJ;simp
            rw [e]
            exact HR.out.1
          case round =>
            obtain⟨j,v6,rfl,hj,hT6,hB6⟩:=hrel
            have HR6:=hid (And.intro hT6 hB6)
            by_cases hlt2:j<l.length
            · obtain⟨o,ho⟩:∃ o,l[j]?=some o:=⟨l[j],List.getElem?_eq_getElem hlt2⟩
              have hBw:Below w.heap.size w wr:=HK3.out.2.1.trans (hB6.mono hw3)
              obtain⟨g,off,rfl,hg,⟨c0,c1,c2,c3⟩,i0,i1,i2⟩:=HO.out.below hBw j o ho
              obtain⟨b1,b2,b3,b4⟩:=opBad_false (HF.out o (List.mem_of_getElem? ho))
              have hj0:(0:Int)≤(j:Int):=by omega
              have hj1:(j:Int)<(l.length:Int):=by omega
              have hB6s:=hB6.size
              cases hw:o.2.2.1 with
              | true =>
                have hst:notesJ l (j+1)=notesJ l j:=by rw [notesJ_step ho];unfold readsP;rw [if_pos hw];simp
                have HST:=hid hst
                have hA:Below wr.heap.size wr (wr.alloc (.cells #[.int .i64 o.1,.int .i64 o.2.1,.bool true,.int .i64 o.2.2.2] 138)):=(Below.refl _ _).alloc (Nat.le_refl _) _
                have HA:=hid (And.intro (hT6.below hA) (hB6.trans (hA.mono hB6s)))
                rw [hw] at c2
                clear hT6 hB6 hBw ho hst hA
                go_wp2
                go_roundw
                case rel=>exact⟨j+1,v6,by go_num,by omega,by rw [HST.out];exact HA.out.1,HA.out.2⟩
                case measure=>simp [intOf];omega
              | false =>
                obtain⟨kk,hkk⟩:∃ kk:Nat,o.2.1=(kk:Nat):=⟨o.2.1.toNat,by omega⟩
                have hk10:kk<10:=by omega
                have hkk0:(0:Int)≤(kk:Int):=by omega
                have hkk1:(kk:Int)<10:=by omega
                have hbr:=badRead_read (l:=l) hw (s:=writersP l (kk:Nat)) (by rw [hkk])
                rw [HM.out.fine j o hlt2 ho] at hbr
                obtain⟨p,hp⟩:∃ p,behindG (writersP l (kk:Nat)) o.2.2.2=(p,true):=⟨(behindG (writersP l (kk:Nat)) o.2.2.2).1,Prod.ext rfl (by simpa using hbr.symm)⟩
                have hst:=notesJ_step ho
                rw [← readNotes_eq hw (s:=writersP l (kk:Nat)) (by rw [hkk]) hp] at hst
                obtain⟨tx,htx⟩:∃ tx,o.1=tx:=⟨_,rfl⟩
                obtain⟨fr,hfr⟩:∃ fr,o.2.2.2=fr:=⟨_,rfl⟩
                rw [htx] at c0 hst
                rw [hkk] at c1
                rw [hw] at c2
                rw [hfr] at c3 i2 hp hst
                have HST:=hid hst
                have hA:Below wr.heap.size wr (wr.alloc (.cells #[.int .i64 tx,.int .i64 (kk:Nat),.bool false,.int .i64 fr] 138)):=(Below.refl _ _).alloc (Nat.le_refl _) _
                have hX0:=heap_alloc_new wr (.cells #[.int .i64 tx,.int .i64 (kk:Nat),.bool false,.int .i64 fr] 138)
                have hKr:KeysAt wr w2.heap.size av mv (fun k=>writersP l (k:Nat)):=HK3.out.1.same (fun b hb=>hB6.block b (HK3.out.2.2 b hb))
                have x0:(wr.alloc (.cells #[.int .i64 tx,.int .i64 (kk:Nat),.bool false,.int .i64 fr] 138)).cell? ⟨wr.heap.size,0,none⟩=some (.int .i64 tx):=(cell_of_row _ _ 0 _ _ (0,0) hX0).trans rfl
                have x1:(wr.alloc (.cells #[.int .i64 tx,.int .i64 (kk:Nat),.bool false,.int .i64 fr] 138)).cell? ⟨wr.heap.size,1,none⟩=some (.int .i64 (kk:Nat)):=(cell_of_row _ _ 1 _ _ (0,0) hX0).trans rfl
                have x2:(wr.alloc (.cells #[.int .i64 tx,.int .i64 (kk:Nat),.bool false,.int .i64 fr] 138)).cell? ⟨wr.heap.size,2,none⟩=some (.bool false):=(cell_of_row _ _ 2 _ _ (0,0) hX0).trans rfl
                have x3:(wr.alloc (.cells #[.int .i64 tx,.int .i64 (kk:Nat),.bool false,.int .i64 fr] 138)).cell? ⟨wr.heap.size,3,none⟩=some (.int .i64 fr):=(cell_of_row _ _ 3 _ _ (0,0) hX0).trans rfl
                have hlen:(notesJ l j).length+(writersP l (kk:Nat)).length≤50000000:=by
                  have h1:=notesJ_len l j
                  have h2:=writers_len l (kk:Nat)
                  omega
                have hTa:=(hT6.below hA).below (below_drewN (Below.refl _ _) 1)
                have HTa:=hid hTa
                have HC6:=hid (noteR_any w3.heap.size w3.heap.size w2.heap.size v6 (notesJ l j) kk av mv _ tx fr p false ((wr.alloc (.cells #[.int .i64 tx,.int .i64 (kk:Nat),.bool false,.int .i64 fr] 138)).drewN 1) hTa ((hKr.below hA).below (below_drewN (Below.refl _ _) 1)) HK3.out.2.2 hk10 hlen i2 hp)
                have HBA:=hid (hB6.trans (hA.mono hB6s))
                have HNX:=hid (show ¬ tOwn w3.heap.size v6 wr.heap.size from fun hh=>by have:=(hT6.own_le hh).2;omega)
                have HXd:=hid (show ((wr.alloc (.cells #[.int .i64 tx,.int .i64 (kk:Nat),.bool false,.int .i64 fr] 138)).drewN 1).heap[wr.heap.size]?=_ from hX0)
                clear hT6 hB6 hBw ho hst hA hKr hX0 hlen hTa hkk hw htx hfr hbr hp
                go_wp2
                go_region_held3 (fun W=>W.cell? ⟨wr.heap.size,0,none⟩=some (.int .i64 tx)∧W.cell? ⟨wr.heap.size,1,none⟩=some (.int .i64 (kk:Nat))∧W.cell? ⟨wr.heap.size,2,none⟩=some (.bool false)∧W.cell? ⟨wr.heap.size,3,none⟩=some (.int .i64 fr))
                  (first
                    | go_keep
                    | exact⟨y0,y1,y2,y3⟩)
                  (first
                    | (go_at_call 246
                       refine HC6.out.mono ?_
                       rintro e w7 ⟨rfl,v7,hT7,hK7⟩
                       have hX7:=twos_box hK7 HXd.out HNX.out
                       have y0:w7.cell? ⟨wr.heap.size,0,none⟩=some (.int .i64 tx):=(cell_of_row _ _ 0 _ _ (0,0) hX7).trans rfl
                       have y1:w7.cell? ⟨wr.heap.size,1,none⟩=some (.int .i64 (kk:Nat)):=(cell_of_row _ _ 1 _ _ (0,0) hX7).trans rfl
                       have y2:w7.cell? ⟨wr.heap.size,2,none⟩=some (.bool false):=(cell_of_row _ _ 2 _ _ (0,0) hX7).trans rfl
                       have y3:w7.cell? ⟨wr.heap.size,3,none⟩=some (.int .i64 fr):=(cell_of_row _ _ 3 _ _ (0,0) hX7).trans rfl
                       have HK7:=hid (And.intro hT7 (hK7.twos HTa.out))
                       clear hT7 hK7 hX7))
                go_wp2
                go_roundw
                case rel=>exact⟨j+1,v7,by go_num,by omega,by rw [HST.out];exact HK7.out.1,HBA.out.trans ((below_drewN (Below.refl _ _) 1).trans HK7.out.2)⟩
                case measure=>simp [intOf];omega
            · obtain rfl:j=l.length:=by omega
              have hT7:=hT6
              rw [notesJ_all] at hT7
              have c7:=hT7.cell
              have hnl:=notes_len l
              have HT7:=hid hT7
              have HC7:=hid (sortTwos_any w3.heap.size v6 (notesP l) wr hT7.row (by omega))
              clear hT6 hB6 hT7
              go_wp2_with fail
              refine HC7.out.mono ?_
              rintro e w8 ⟨rfl,d8,hp8,hs8,ho8,hg8⟩
              have c8:w8.cell? ⟨w3.heap.size,0,none⟩=some v6:=(World.cell?_of_block (a:=⟨w3.heap.size,0,none⟩) (hg8.block _ HT7.out.lt (fun e=>HT7.out.ne e.symm))).trans HT7.out.cell
              have hl8:d8.length=(notesP l).length:=hp8.length_eq
              rw [← hl8] at ho8
              have HC8:=hid (compact_any w3.heap.size v6 d8 w8 (by omega) ho8)
              have H8:=hid (And.intro hp8 (And.intro hs8 hg8))
              clear hp8 hs8 ho8 hg8
              go_wp2_with fail
              refine HC8.out.mono ?_
              rintro e w9 ⟨v9,rfl,ho9,hg9⟩
              have H9:=hid (And.intro ho9 hg9)
              clear ho9 hg9
              go_wp2
              go_ret2
              refine⟨v9,compP d8,rfl,comp_edges HF.out H8.out.1 H8.out.2.1,Nat.le_trans (comp_len d8) (by omega),owns_base H9.out.1 hw3,?_⟩
              have hown:∀ k,v6.ownBlock=some k→w.heap.size≤k:=fun k e=>Nat.le_trans hw3 (HT7.out.row.lt k e).1
              have hb6:=HK3.out.2.1.trans (HR6.out.2.mono hw3)
              have hb8:=hb6.grown H8.out.2.2 hb6.size hown
              exact hb8.grown H9.out.2 hb8.size hown
    · omega
  · omega
end Go.Proofs.YtjefgmeejhakbabGreatDoor
