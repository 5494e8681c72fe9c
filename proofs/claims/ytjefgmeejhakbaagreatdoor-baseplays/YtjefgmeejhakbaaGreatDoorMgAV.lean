/- BsWrite BsOver FrRel FeOwn: put together for a claim. -/
import Derived.Test.YtjefgmeejhakbaaGreatDoorMgAT
import Derived.WalkLawsBesides
import Derived.Test.YtjefgmeejhakbaaGreatDoorMgAU
import Derived.Test.YtjefgmeejhakbaaGreatDoorMgAR
import Derived.Test.YtjefgmeejhakbaaGreatDoorMgAN
/- base's Disk.write: a place has a commit's bytes, or some of them. -/
namespace Go.Proofs.YtjefgmeejhakbaaGreatDoor
open Go.RowKit
theorem run_eql_nil8 (w:World) (a:Option Addr) (l c:Nat):(binOp .eql 93 (.slice a l c) (.slice none 0 0)).run Tryz.prog w=.ok (.bool a.isNone) w:=by
 simp [binOp,run_equal_slice_nil w 93 5 a l c Tryz.underlying93]
attribute [local go_sem] run_eql_nil8
set_option maxRecDepth 100000 in
set_option maxHeartbeats 1000000 in
theorem clone8_any (g off cap:Nat) (l:List Int) (w:World) (hn:l.length≤10000) (hA:BytesAt w (some ⟨g,off,none⟩) l) :
  Calls Tryz.prog 210 #[.slice (some ⟨g,off,none⟩) l.length cap] w fun e w'=>∃ vad vcap,e=.returned (.slice vad l.length vcap)∧BytesV w' (.slice vad l.length vcap) l∧(∀ k,(Value.slice vad l.length vcap).ownBlock=some k→w.heap.size≤k)∧Below w.heap.size w w':=by
 obtain⟨i0,hi0,hz0,hz1,hz2⟩:=info_parts info5
 have hown:(w.alloc (.cells #[] 5)).ownsRow w.heap.size 5 1 (.slice (some ⟨w.heap.size,0,none⟩) 0 0) 0 []:=World.ownsRow_made w #[] 0 (Nat.le_refl _) (by simp [maxLen]) rfl
 by_cases h0:l.length=0
 ·have hz:=run_append_zeroW (w:=w.alloc (.cells #[] 5)) (ty:=93) Tryz.underlying93 hi0 hown ⟨g,off,none⟩ cap
  obtain rfl:l=[]:=List.eq_nil_of_length_eq_zero h0
  clear hA
  go_enter Tryz.func210,Tryz.ntmps210
  go_wp2
  go_ret
  exact⟨_,_,rfl,⟨fun k hk=>by cases hk;simp,_,_,rfl,Nat.zero_le _,fun i x hx=>by cases hx⟩,fun k hk=>by cases hk;exact Nat.le_refl _,(Below.refl _ w).alloc (Nat.le_refl _) _⟩
 ·have hn2:∀ j u,(u8V l)[j]?=some u→(w.alloc (.cells #[] 5)).cell? ((⟨g,off,none⟩:Addr).add j)=some u:=fun j u hu=>by
   unfold u8V at hu
   rw [List.getElem?_map] at hu
   obtain⟨x,hx,rfl⟩:=Option.map_eq_some_iff.1 hu
   obtain⟨_,g',off',e,hc⟩:=hA j x hx
   cases e
   rw [Addr.add_mid]
   exact ((World.grownBy_alloc w (.cells #[] 5) none).cell hc (by simp))
  have h1:∀ u∈u8V l,u.oneCell'=true:=fun u hu=>by
   obtain⟨x,_,rfl⟩:=List.mem_map.1 hu
   rfl
  have hl8:(u8V l).length=l.length*1:=by simp [u8V]
  go_enter Tryz.func210,Tryz.ntmps210
  go_wp2_with (at_builtin;refine wpList_append_lies _ rfl _ _ _ rfl w.heap.size 5 i0 _ 1 1 Tryz.underlying93 hi0 hz0 hz1 hz2 rfl (by omega) _ 0 [] rfl hown ⟨g,off,none⟩ l.length cap (u8V l) rfl hl8 hn2 h1 (by omega) (by unfold maxLen;omega) (by omega) (by simp) (w.heap.size+1) (by simp) ?_;intro gg cap' w1 ho hgrow hat hlt2)
  go_ret
  rw [Nat.zero_add] at ho
  have hgrow2:(w.alloc (.cells #[] 5)).grownBy w1 (some w.heap.size):=hgrow
  exact⟨_,_,rfl,bytesV_own ho,fun k hk=>(ho.lt k hk).1,((Below.refl _ w).alloc (Nat.le_refl _) _).grown hgrow2 (by simp) (fun k e=>by cases e;exact Nat.le_refl _)⟩
def powerB (D:Dsk):Bool:=!D.cut||decide (D.left>0)
def writeD (D:Dsk) (place:Nat) (l:List Int) (torn:Int):Dsk :=
 if powerB D=true then { pl:=D.pl.set place l,cut:=D.cut,left:=if D.cut=true then D.left-1 else D.left }
 else { D with pl:=D.pl.set place (l.take (min torn (l.length-1)).toNat) }
section
variable {w:World} {d:Nat} {dv:List Value} {D:Dsk}
theorem DiskAt.free (h:DiskAt w d dv D) (o:Nat):w.frozen? ⟨d,o,none⟩=false:=by simp [World.frozen?,h.blk]
theorem DiskAt.not8 (h:DiskAt w d dv D) {g o:Nat} {x:Int} (hc:w.cell? ⟨g,o,none⟩=some (.int .u8 x)):g≠d:=fun e=>by
 subst e
 have h1:=(cell_of_row w g o _ _ (0,0) h.blk).symm.trans hc
 rw [List.getElem?_toArray] at h1
 by_cases ho:o<250
 ·obtain⟨v,l,hv,hl,_⟩:=h.get ho
  rw [List.getElem?_append_left (by rw [h.lv];exact ho),hv] at h1
  obtain⟨_,ad,cap,e,_⟩:=h.row o v l hv hl
  rw [e] at h1
  cases h1
 ·rw [List.getElem?_append_right (by rw [h.lv];omega),h.lv] at h1
  by_cases e0:o=250
  ·subst e0;simp at h1
  ·by_cases e1:o=251
   ·subst e1;simp at h1
   ·rw [List.getElem?_eq_none (by simp;omega)] at h1
    cases h1
theorem DiskAt.setBlk (h:DiskAt w d dv D) {o:Nat} {v:Value} {dv':List Value} {D':Dsk} (hb:(dv++[Value.bool D.cut,Value.int .i64 D.left]).toArray.setIfInBounds o v=(dv'++[Value.bool D'.cut,Value.int .i64 D'.left]).toArray) (hlv:dv'.length=250) (hlp:D'.pl.length=250)
  (hr:∀ (i:Nat) (u:Value) (l:List Int),dv'[i]?=some u→D'.pl[i]?=some l→BytesV w u l) (hf:∀ l∈D'.pl,l.length≤200∧∀ x∈l,0≤x∧x<256):DiskAt (w.setCell ⟨d,o,none⟩ v) d dv' D' :=
 ⟨(setCell_at h.blk).trans (by rw [hb]),hlv,hlp,fun i u l hu hl=>(hr i u l hu hl).same (by simp) (fun g _ _ _ hc=>heap_setCell_other _ _ _ _ (h.not8 hc)),hf⟩
theorem DiskAt.setLeft (h:DiskAt w d dv D) (n:Int):DiskAt (w.setCell ⟨d,251,none⟩ (.int .i64 n)) d dv { D with left:=n }:=by
 refine h.setBlk ?_ h.lv h.lp h.row h.fin
 rw [List.setIfInBounds_toArray,List.set_append_right _ _ (by rw [h.lv];omega),h.lv]
 rfl
theorem DiskAt.setCut (h:DiskAt w d dv D) (b:Bool):DiskAt (w.setCell ⟨d,250,none⟩ (.bool b)) d dv { D with cut:=b }:=by
 refine h.setBlk ?_ h.lv h.lp h.row h.fin
 rw [List.setIfInBounds_toArray,List.set_append_right _ _ (by rw [h.lv];omega),h.lv]
 rfl
theorem DiskAt.setPlace (h:DiskAt w d dv D) {i:Nat} (hi:i<250) {v:Value} {l:List Int} (hv:BytesV w v l) (hl:l.length≤200∧∀ x∈l,0≤x∧x<256):DiskAt (w.setCell ⟨d,i,none⟩ v) d (dv.set i v) { D with pl:=D.pl.set i l }:=by
 refine h.setBlk ?_ (by rw [List.length_set];exact h.lv) (by show (D.pl.set i l).length=250;rw [List.length_set];exact h.lp) (fun j u m hu hm=>?_) (fun m hm=>?_)
 ·rw [List.setIfInBounds_toArray,List.set_append_left _ _ (by rw [h.lv];exact hi)]
 ·have hm:(D.pl.set i l)[j]?=some m:=hm
  by_cases e:j=i
  ·subst e
   rw [List.getElem?_set_self (by rw [h.lv];exact hi)] at hu
   rw [List.getElem?_set_self (by rw [h.lp];exact hi)] at hm
   cases hu
   cases hm
   exact hv
  ·rw [List.getElem?_set_ne (fun h=>e h.symm)] at hu hm
   exact h.row j u m hu hm
 ·rcases List.mem_or_eq_of_mem_set (show m∈D.pl.set i l from hm) with hm | rfl
  ·exact h.fin m hm
  ·exact hl
theorem dOwn_set {i m:Nat} {v:Value} {n:Nat} (hv:∀ k,v.ownBlock=some k→n≤k) (hm:m≤n):∀ g,dOwn d (dv.set i v) g→dOwn d dv g∨m≤g:=fun g hg=>by
 rcases hg with rfl | ⟨j,u,hu,hg⟩
 ·exact .inl (.inl rfl)
 ·by_cases e:j=i
  ·subst e
   by_cases hj:j<dv.length
   ·rw [List.getElem?_set_self hj] at hu
    cases hu
    exact .inr (Nat.le_trans hm (hv g hg))
   ·rw [List.getElem?_eq_none (by rw [List.length_set];omega)] at hu
    cases hu
  ·rw [List.getElem?_set_ne (fun h=>e h.symm)] at hu
   exact .inl (.inr ⟨j,u,hu,hg⟩)
theorem DiskAt.cellCut (h:DiskAt w d dv D):w.cell? ⟨d,250,none⟩=some (.bool D.cut):=by
 refine (cell_of_row w d 250 _ _ (0,0) h.blk).trans ?_
 rw [List.getElem?_toArray,List.getElem?_append_right (by rw [h.lv];omega),h.lv]
 rfl
theorem DiskAt.cellLeft (h:DiskAt w d dv D):w.cell? ⟨d,251,none⟩=some (.int .i64 D.left):=by
 refine (cell_of_row w d 251 _ _ (0,0) h.blk).trans ?_
 rw [List.getElem?_toArray,List.getElem?_append_right (by rw [h.lv];omega),h.lv]
 rfl
end
set_option maxRecDepth 100000 in
set_option maxHeartbeats 1000000 in
theorem dwrite_power {w:World} {d:Nat} {dv:List Value} {D:Dsk} (h:DiskAt w d dv D) {place:Nat} (hp:place<250) {l:List Int} {g off cap:Nat} (hl:0<l.length∧l.length≤200) (hA:BytesAt w (some ⟨g,off,none⟩) l) (hleft:D.cut=true→I64 (D.left-1)) (torn:Int) (hpw:powerB D=true) :
  Calls Tryz.prog 156 #[.pointer (some ⟨d,0,none⟩),.int .i64 (place:Int),.slice (some ⟨g,off,none⟩) l.length cap,.int .i64 torn] w fun e w'=>e=.returned (.bool true)∧(∃ dv',DiskAt w' d dv' (writeD D place l torn)∧∀ g,dOwn d dv' g→dOwn d dv g∨w.heap.size≤g)∧(w.heap.size≤w'.heap.size∧w'.os=w.os∧w'.tape=w.tape∧w'.output=w.output)∧∀ k,k<w.heap.size→k≠d→w'.heap[k]?=w.heap[k]?:=by
 have hcut:=h.cellCut
 have hlft:=h.cellLeft
 have hf1:=h.free 251
 have gp0:(0:Int)≤(place:Int):=by omega
 have gp1:(place:Int)<250:=by omega
 have hfin:∀ x∈l,0≤x∧x<256:=fun x hx=>by
  obtain⟨i,hi,e⟩:=List.getElem_of_mem hx
  exact (hA i x (by rw [List.getElem?_eq_getElem hi,e])).1
 by_cases hct:D.cut=true
 ·rw [hct] at hcut
  have hlf:D.left>0:=by unfold powerB at hpw;rw [hct] at hpw;simpa using hpw
  have glf:decide (D.left>0)=true:=by simpa using hlf
  have gw:IntKind.i64.wrap (D.left-1)=D.left-1:=IntWalk.i64_in _ (hleft hct)
  obtain⟨w1,hw1⟩:∃ w1,w.setCell ⟨d,251,none⟩ (.int .i64 (D.left-1))=w1:=⟨_,rfl⟩
  have hD1:DiskAt w1 d dv { D with left:=D.left-1 }:=by rw [← hw1];exact h.setLeft _
  have hk1:∀ k,k≠d→w1.heap[k]?=w.heap[k]?:=fun k hk=>by rw [← hw1];exact heap_setCell_other _ _ _ _ hk
  have hs1:w1.heap.size=w.heap.size:=by rw [← hw1];simp
  have hA1:BytesAt w1 (some ⟨g,off,none⟩) l:=fun i x hx=>by
   obtain⟨hb,g',off',e,hc⟩:=hA i x hx
   cases e
   exact⟨hb,g,off,rfl,(World.cell?_of_block (a:=⟨g,off+i,none⟩) (hk1 g (h.not8 hc))).trans hc⟩
  have HC:=hid (clone8_any g off cap l w1.drew (by omega) (hA1.same (fun _ _=>rfl)))
  have HF:=hid (And.intro hD1 (And.intro hk1 (And.intro hs1 (And.intro hfin (show w1.os=w.os∧w1.tape=w.tape∧w1.output=w.output by rw [← hw1];exact⟨rfl,rfl,rfl⟩)))))
  have HW1:=hid hw1
  have hwd:writeD D place l torn={ pl:=D.pl.set place l,cut:=D.cut,left:=D.left-1 }:=by unfold writeD;rw [if_pos hpw,if_pos hct]
  rw [hwd]
  clear hA hA1 hD1 hk1 hs1 hfin hw1 hwd
  go_enter Tryz.func156,Tryz.ntmps156
  go_wp2
  rw [HW1.out]
  go_region_held3 (fun _=>True) (trivial) ((go_at_call 210;refine HC.out.mono ?_;rintro e w2 ⟨vad,vcap,rfl,hv,hvo,hB⟩;obtain⟨v0,l0,hv0,hl0,hc0⟩:=(HF.out.1.below (show Below w1.heap.size w1 w2 from ⟨hB.os,hB.tape,hB.output,hB.size,hB.block⟩)).get hp;have hf0:=(HF.out.1.below (show Below w1.heap.size w1 w2 from ⟨hB.os,hB.tape,hB.output,hB.size,hB.block⟩)).free place))
  have HB:=hid (show Below w1.heap.size w1 w2 from ⟨hB.os,hB.tape,hB.output,hB.size,hB.block⟩)
  have HV:=hid hv
  have HVO:=hid hvo
  clear hB hv hvo
  go_wp2
  go_ret
  refine⟨rfl,⟨_,(HF.out.1.below HB.out).setPlace hp HV.out ⟨hl.2,HF.out.2.2.2.1⟩,dOwn_set HVO.out (by rw [show w1.drew.heap.size=w1.heap.size from rfl,HF.out.2.2.1];exact Nat.le_refl _)⟩,⟨by simp;have:=HB.out.size;have:=HF.out.2.2.1;omega,HB.out.os.trans HF.out.2.2.2.2.1,HB.out.tape.trans HF.out.2.2.2.2.2.1,HB.out.output.trans HF.out.2.2.2.2.2.2⟩,fun k hk hkd=>?_⟩
  rw [heap_setCell_other _ _ _ _ hkd,HB.out.block k (by rw [HF.out.2.2.1];exact hk),HF.out.2.1 k hkd]
 ·have hct':D.cut=false:=by simpa using hct
  rw [hct'] at hcut
  have HC:=hid (clone8_any g off cap l w.drew (by omega) (hA.same (fun _ _=>rfl)))
  have HF:=hid (And.intro h hfin)
  have hwd:writeD D place l torn={ pl:=D.pl.set place l,cut:=D.cut,left:=D.left }:=by unfold writeD;rw [if_pos hpw,if_neg hct]
  rw [hwd]
  clear hA hfin hwd h
  go_enter Tryz.func156,Tryz.ntmps156
  go_wp2
  go_region_held3 (fun _=>True) (trivial) ((go_at_call 210;refine HC.out.mono ?_;rintro e w2 ⟨vad,vcap,rfl,hv,hvo,hB⟩;obtain⟨v0,l0,hv0,hl0,hc0⟩:=(HF.out.1.below (show Below w.heap.size w w2 from ⟨hB.os,hB.tape,hB.output,hB.size,hB.block⟩)).get hp;have hf0:=(HF.out.1.below (show Below w.heap.size w w2 from ⟨hB.os,hB.tape,hB.output,hB.size,hB.block⟩)).free place))
  have HB:=hid (show Below w.heap.size w w2 from ⟨hB.os,hB.tape,hB.output,hB.size,hB.block⟩)
  have HV:=hid hv
  have HVO:=hid hvo
  clear hB hv hvo
  go_wp2
  go_ret
  refine⟨rfl,⟨_,(HF.out.1.below HB.out).setPlace hp HV.out ⟨hl.2,HF.out.2⟩,dOwn_set HVO.out (Nat.le_refl _)⟩,⟨by simp;exact HB.out.size,HB.out.os,HB.out.tape,HB.out.output⟩,fun k hk hkd=>?_⟩
  rw [heap_setCell_other _ _ _ _ hkd,HB.out.block k hk]
set_option maxRecDepth 100000 in
set_option maxHeartbeats 1000000 in
theorem dwrite_off {w:World} {d:Nat} {dv:List Value} {D:Dsk} (h:DiskAt w d dv D) {place:Nat} (hp:place<250) {l:List Int} {g off cap:Nat} (hl:0<l.length∧l.length≤200) (hcap:l.length≤cap) (hA:BytesAt w (some ⟨g,off,none⟩) l) {torn:Int} (ht:0≤torn) (hpw:powerB D=false) :
  Calls Tryz.prog 156 #[.pointer (some ⟨d,0,none⟩),.int .i64 (place:Int),.slice (some ⟨g,off,none⟩) l.length cap,.int .i64 torn] w fun e w'=>e=.returned (.bool false)∧(∃ dv',DiskAt w' d dv' (writeD D place l torn)∧∀ g,dOwn d dv' g→dOwn d dv g∨w.heap.size≤g)∧(w.heap.size≤w'.heap.size∧w'.os=w.os∧w'.tape=w.tape∧w'.output=w.output)∧∀ k,k<w.heap.size→k≠d→w'.heap[k]?=w.heap[k]?:=by
 have hcut:=h.cellCut
 have hlft:=h.cellLeft
 have gp0:(0:Int)≤(place:Int):=by omega
 have gp1:(place:Int)<250:=by omega
 have hfin:∀ x∈l,0≤x∧x<256:=fun x hx=>by
  obtain⟨i,hi,e⟩:=List.getElem_of_mem hx
  exact (hA i x (by rw [List.getElem?_eq_getElem hi,e])).1
 have hct:D.cut=true:=by
  cases hc:D.cut with
  | true=>rfl
  | false=>unfold powerB at hpw;rw [hc] at hpw;cases hpw
 rw [hct] at hcut
 have hlf:¬ D.left>0:=by unfold powerB at hpw;rw [hct] at hpw;simpa using hpw
 have glf:decide (D.left>0)=false:=by simpa using hlf
 have gs:IntKind.i64.wrap ((l.length:Int)-1)=(l.length:Int)-1:=IntWalk.i64_in _ (by omega)
 obtain⟨k,hk⟩:∃ k:Nat,min torn ((l.length:Int)-1)=(k:Int):=⟨(min torn ((l.length:Int)-1)).toNat,by omega⟩
 have hkl:k<l.length:=by omega
 have gk0:(0:Int)≤(k:Int):=by omega
 have gk1:(k:Int)≤(cap:Int):=by omega
 have hkt:(l.take k).length=k:=by rw [List.length_take];omega
 have hC:=clone8_any g off cap (l.take k) w.drew (by omega) ((hA.take k).same (fun _ _=>rfl))
 rw [hkt] at hC
 have HC:=hid hC
 have HF:=hid (And.intro h (show (l.take k).length≤200∧∀ x∈l.take k,0≤x∧x<256 from ⟨by omega,fun x hx=>hfin x (List.mem_of_mem_take hx)⟩))
 have hwd:writeD D place l torn={ D with pl:=D.pl.set place (l.take k) }:=by
  unfold writeD
  rw [if_neg (by rw [hpw];simp),hk,Int.toNat_natCast]
 rw [hwd]
 clear hA hfin hwd h hC hkt
 go_enter Tryz.func156,Tryz.ntmps156
 go_wp2
 go_region_held3 (fun _=>True) (trivial) ((go_at_call 210;refine HC.out.mono ?_;rintro e w2 ⟨vad,vcap,rfl,hv,hvo,hB⟩;obtain⟨v0,l0,hv0,hl0,hc0⟩:=(HF.out.1.below (show Below w.heap.size w w2 from ⟨hB.os,hB.tape,hB.output,hB.size,hB.block⟩)).get hp;have hf0:=(HF.out.1.below (show Below w.heap.size w w2 from ⟨hB.os,hB.tape,hB.output,hB.size,hB.block⟩)).free place))
 have HB:=hid (show Below w.heap.size w w2 from ⟨hB.os,hB.tape,hB.output,hB.size,hB.block⟩)
 have HV:=hid hv
 have HVO:=hid hvo
 clear hB hv hvo
 go_wp2
 go_ret
 refine⟨rfl,⟨_,(HF.out.1.below HB.out).setPlace hp HV.out HF.out.2,dOwn_set HVO.out (Nat.le_refl _)⟩,⟨by simp;exact HB.out.size,HB.out.os,HB.out.tape,HB.out.output⟩,fun k hk hkd=>?_⟩
 rw [heap_setCell_other _ _ _ _ hkd,HB.out.block k hk]
end Go.Proofs.YtjefgmeejhakbaaGreatDoor
/- engine.Over: an engine over values that there are. -/
namespace Go.Proofs.YtjefgmeejhakbaaGreatDoor
open Go.RowKit
def lastOf (ws:List (Int × Int)) (a:Int):Option Int:=((ws.filter (fun p=>p.1==a)).getLast?).map (·.2)
theorem lastOf_snoc (ws:List (Int × Int)) (p:Int × Int) (a:Int):lastOf (ws++[p]) a=if a=p.1 then some p.2 else lastOf ws a:=by
 unfold lastOf
 rw [List.filter_append,List.filter_cons]
 by_cases e:a=p.1
 ·rw [if_pos e,if_pos (by simp [e]),List.filter_nil,List.getLast?_concat]
  rfl
 ·rw [if_neg e,if_neg (by simp;exact fun h=>e h.symm),List.filter_nil,List.append_nil]
theorem snoc_ind' {α:Type} {P:List α→Prop} (h0:P []) (h1:∀ l x,P l→P (l++[x])):∀ l,P l:=by
 intro l
 have key:∀ (n:Nat) (l:List α),l.length=n→P l:=by
  intro n
  induction n with
  | zero=>intro l h;rw [List.eq_nil_of_length_eq_zero h];exact h0
  | succ n ih =>
   intro l h
   have hne:l≠[]:=fun e=>by rw [e] at h;cases h
   rw [← List.dropLast_concat_getLast hne]
   exact h1 _ _ (ih _ (by rw [List.length_dropLast];omega))
 exact key _ l rfl
theorem lastOf_append (ws vs:List (Int × Int)) (a:Int):lastOf (ws++vs) a=match lastOf vs a with
  | some x=>some x
  | none=>lastOf ws a:=by
 refine snoc_ind' (P:=fun vs=>lastOf (ws++vs) a=match lastOf vs a with | some x=>some x | none=>lastOf ws a) ?_ (fun l p ih=>?_) vs
 ·rw [List.append_nil];rfl
 ·rw [← List.append_assoc,lastOf_snoc,lastOf_snoc,ih]
  by_cases e:a=p.1
  ·rw [if_pos e,if_pos e]
  ·rw [if_neg e,if_neg e]
theorem inst_over (t:Int) (ws:List (Int × Int)):(∀ p∈ws,0≤p.1∧p.1<10)→(instP t ws (List.replicate 10 [])).length=10∧∀ a:Nat,a<10→(instP t ws (List.replicate 10 []))[a]?=some (match lastOf ws a with | some x=>[(t,x)] | none=>[]):=by
 refine snoc_ind' (P:=fun ws=>(∀ p∈ws,0≤p.1∧p.1<10)→(instP t ws (List.replicate 10 [])).length=10∧∀ a:Nat,a<10→(instP t ws (List.replicate 10 []))[a]?=some (match lastOf ws a with | some x=>[(t,x)] | none=>[])) ?_ (fun l p ih=>?_) ws
 ·intro _
  refine⟨rfl,fun a ha=>?_⟩
  have:instP t [] (List.replicate 10 [])=List.replicate 10 []:=rfl
  rw [this,List.getElem?_replicate,if_pos ha]
  rfl
 ·intro h
  obtain⟨h1,h2⟩:=ih (fun q hq=>h q (List.mem_append_left _ hq))
  have hp:=h p (List.mem_append_right _ (List.mem_singleton.2 rfl))
  obtain⟨k,v⟩:=p
  simp only at hp
  rw [instP_snoc]
  refine⟨by rw [List.length_set];exact h1,fun a ha=>?_⟩
  rw [lastOf_snoc]
  by_cases e:(a:Int)=k
  ·have ea:k.toNat=a:=by omega
   rw [ea,List.getElem?_set_self (by rw [h1];exact ha),h2 a ha,if_pos e]
   simp only [Option.getD_some]
   cases lastOf l (a:Int) with
   | none=>rw [putP_nil]
   | some x =>
    have:=putP_same t v x []
    simp only [List.nil_append] at this
    rw [this]
  ·rw [if_neg e,List.getElem?_set_ne (by omega)]
   exact h2 a ha
def engO (t:Int) (ws:List (Int × Int)):Eng:={ eng0 with last:=t,ks:=instP t ws (List.replicate 10 []) }
set_option maxRecDepth 100000 in
set_option maxHeartbeats 1000000 in
theorem over_any (t:Nat) (ws:List (Int × Int)) (v:Value) (w:World) (ht:t≤1000) (h0:t=0↔ws=[]) (hn:ws.length≤100000) (hf:∀ p∈ws,Fine p) {base:Nat} (hrow:w.ownsRow base 78 2 v ws.length (vrow ws)) :
  Calls Tryz.prog 18 #[.int .i64 (t:Int),v] w fun e w'=>∃ L,e=.returned (.tuple #[.pointer (some ⟨L.s,0,none⟩),.nilIface])∧EnAt w' L (engO t ws)∧Below w.heap.size w w'∧∀ g,L.own g→w.heap.size≤g:=by
 have HN:=hid (new_any w)
 obtain⟨ad,cap,rfl⟩:=row_form hrow
 by_cases hz:t=0
 ·have hws:=h0.1 hz
  subst hz hws
  have he:engO ((0:Nat):Int) []=eng0:=rfl
  rw [he]
  clear hrow
  go_enter Tryz.func18,Tryz.ntmps18
  go_wp2_with fail
  refine HN.out.mono ?_
  rintro e w1 ⟨L,rfl,hE,hB,hO⟩
  have HF:=hid (And.intro hE (And.intro hB hO))
  clear hE hB hO HN
  go_wp2
  go_ret2
  exact⟨L,rfl,HF.out⟩
 ·have hne:ws≠[]:=fun e=>hz (h0.2 e)
  have gt:((t:Int)==0)=false:=beq_false_of_ne (by omega)
  rcases row_slice hrow with ⟨_,e0⟩ | ⟨g,c,e,hg,hc⟩
  ·exact (hne (List.eq_nil_of_length_eq_zero e0)).elim
  ·injection e with e1 e2 e3
   subst e1 e3
   have hwr:=vrow_wrow hc
   have HIN:=hid (fun (w1:World) (L:EnL) (hE:EnAt w1 L eng0) (hB:Below w.heap.size w w1) (hO:∀ g,L.own g→w.heap.size≤g)=>install_good (L.s+1) L.s g 0 cap 0 (t:Int) L.vs (List.replicate 10 []) ws w1 hE.sto (by have:=hE.sto.lt;omega) (hwr.same (hB.block g hg)) (fun hr=>by have:=hO g (.inr (.inl hr));omega) (fun e=>by have:=hO L.s (.inl rfl);omega) (Nat.lt_of_lt_of_le hg hB.size) hf (by omega) (by omega) hn (fun l hl=>by simp at hl;rw [hl];simp))
   clear hrow hc hwr
   go_enter Tryz.func18,Tryz.ntmps18
   go_wp2_with fail
   refine HN.out.mono ?_
   rintro e w1 ⟨L,rfl,hE,hB,hO⟩
   have HF:=hid (And.intro hE (And.intro hB hO))
   clear hE hB hO HN
   go_wp2_with fail
   refine (HIN.out w1 L HF.out.1 HF.out.2.1 HF.out.2.2).mono ?_
   rintro e w2 ⟨rfl,vs',hS,hK⟩
   obtain⟨h3,k3⟩:=HF.out.1.setSto hS hK
   have HE:=hid (show EnAt w2 { L with vs:=vs' } (engO t ws) from h3)
   have HB:=hid (show Below w.heap.size w w2 from ⟨k3.os.trans HF.out.2.1.os,k3.tape.trans HF.out.2.1.tape,k3.output.trans HF.out.2.1.output,Nat.le_trans HF.out.2.1.size k3.size,fun k hk=>(k3.block k (Nat.lt_of_lt_of_le hk HF.out.2.1.size) (fun ho=>by have:=HF.out.2.2 k ho;omega)).trans (HF.out.2.1.block k hk)⟩)
   have HO:=hid (show ∀ g,({ L with vs:=vs' }:EnL).own g→w.heap.size≤g from fun k hk=>by
    rcases k3.sub k hk with h5 | h5
    ·exact HF.out.2.2 k h5
    ·have:=HF.out.2.1.size
     omega)
   clear hS hK h3 k3
   go_wp2
   go_ret2
   exact⟨{ L with vs:=vs' },rfl,HE.out,HB.out,HO.out⟩
end Go.Proofs.YtjefgmeejhakbaaGreatDoor
/- The document's engine and the landed one, plain: how they are alike. -/
namespace Go.Proofs.YtjefgmeejhakbaaGreatDoor
def stE (E:Eng) (j:Nat):Int:=(E.txs[j]?.map (·.state)).getD 3
def stR (R:REng) (j:Nat):Int:=(R.txs[j]?.map (·.state)).getD 3
theorem stE_some {E:Eng} {j:Nat} {t:Tx} (h:E.txs[j]?=some t):stE E j=t.state:=by simp [stE,h]
theorem stE_get {E:Eng} {j:Nat} (h:stE E j≠3):∃ t,E.txs[j]?=some t∧t.state=stE E j:=by
 cases ht:E.txs[j]? with
 | none=>exact (h (by simp [stE,ht])).elim
 | some t=>exact⟨t,rfl,(stE_some ht).symm⟩
theorem stE_set {E:Eng} {i:Nat} {t t':Tx} (h:E.txs[i]?=some t) (j:Nat):stE (E.setTx i t') j=if j=i then t'.state else stE E j:=by
 by_cases e:j=i
 ·subst e
  rw [if_pos rfl,stE_some (setTx_get h)]
 ·rw [if_neg e]
  unfold stE
  rw [setTx_get_ne (fun e'=>e e'.symm)]
structure RelTx (st:Nat→Int) (n i:Nat) (t:Tx) (r:RTx):Prop where
 level:r.level=t.level
 state:r.state=t.state
 why:r.why=t.why
 start:r.start=t.start
 want:r.want=(t.wk,t.wv)
 own:∀ k,lastOf r.own k=t.vals k
 reads:t.state≠3→r.reads=readOps ((i:Int)+1) t.reads
 seen:t.state≠3→∀ k:Nat,k<10→t.seen[k]?=some (r.reads.any (fun o=>o.2.1==(k:Int)))
 be:∀ x,t.behind x=true↔∃ j:Nat,x=(j:Int)+1∧j∈r.behind∧st j≠3
 ah:∀ x,t.ahead x=true↔∃ j:Nat,x=(j:Int)+1∧j∈r.ahead∧st j≠3
 bl:∀ x∈r.behind,x<n
 al:∀ x∈r.ahead,x<n
 non:t.level≠2→r.behind=[]∧r.ahead=[]
theorem RelTx.st {st st':Nat→Int} {n i:Nat} {t:Tx} {r:RTx} (h:RelTx st n i t r) (hs:∀ j,st' j≠3↔st j≠3):RelTx st' n i t r :=
 ⟨h.level,h.state,h.why,h.start,h.want,h.own,h.reads,h.seen,fun x=>by rw [h.be x];simp only [hs],fun x=>by rw [h.ah x];simp only [hs],h.bl,h.al,h.non⟩
def potT (t:Tx):Nat:=(if liveB t.state=true then 1 else 0)+(if t.state=1 then 1 else 0)
def potL (l:List Tx):Nat:=(l.map potT).sum
def pot (E:Eng):Nat:=potL E.txs
theorem potL_set:∀ {l:List Tx} {i:Nat} {t:Tx} (t':Tx),l[i]?=some t→potL (l.set i t')+potT t=potL l+potT t'
 | [],i,t,t',h=>by simp at h
 | a::r,0,t,t',h=>by
  simp only [List.getElem?_cons_zero,Option.some.injEq] at h
  subst h
  simp [potL]
  omega
 | a::r,i+1,t,t',h=>by
  have:=potL_set (l:=r) (i:=i) t' (by simpa using h)
  simp only [potL,List.set_cons_succ,List.map_cons,List.sum_cons] at this ⊢
  omega
theorem pot_set {E:Eng} {i:Nat} {t:Tx} (t':Tx) (h:E.txs[i]?=some t):pot (E.setTx i t')+potT t=pot E+potT t':=potL_set t' h
def RTx.sz (r:RTx) (N:Nat):Prop:=r.reads.length≤N∧r.own.length≤N∧r.behind.length≤N∧r.ahead.length≤N
theorem RTx.sz.mono {r:RTx} {N M:Nat} (h:r.sz N) (hm:N≤M):r.sz M:=⟨Nat.le_trans h.1 hm,Nat.le_trans h.2.1 hm,Nat.le_trans h.2.2.1 hm,Nat.le_trans h.2.2.2 hm⟩
structure Rel (B:Nat) (E:Eng) (R:REng):Prop where
 len:R.txs.length=E.txs.length
 le:E.txs.length≤200
 tx:∀ (i:Nat) (t:Tx) (r:RTx),E.txs[i]?=some t→R.txs[i]?=some r→RelTx (stE E) E.txs.length i t r
 last:R.last=E.last
 T:R.T=E.T
 good:Good E.T
 mem:∀ k x,x∈E.T k→1≤x∧x≤E.txs.length
 doc:Doc E.last E.ks R.kept
 lb:0≤E.last∧E.last≤1099511627776
 tim:∀ x∈R.kept,0≤x.2.1
 wr:∀ c,c≤E.last→R.wr c=E.wr c
 wrc:∀ c x,E.wr c=some x→∃ j:Nat,x=(j:Int)+1∧stE E j=2
 nw:E.nw≤R.nb
 coms:∀ j∈E.com,stE E j=2
 comn:E.com.Nodup
 hist:R.hist=histP E
 bg:∀ r∈R.txs,r.begun≤R.step∧r.over≤R.step
 bae:∀ t∈E.txs,t.bae≤E.txs.length
 ord:∀ (i j:Nat) (ri rj:RTx) (tj:Tx),R.txs[i]?=some ri→R.txs[j]?=some rj→E.txs[j]?=some tj→liveB tj.state=false→(ri.begun<rj.over↔(i:Int)+1≤tj.bae)
 s0:0≤R.step
 wy:∀ t∈E.txs,t.state≠3→t.why=0
 sz:∃ N:Nat,(∀ r∈R.txs,r.sz N)∧R.step≤N∧R.nb≤N∧N+1000*pot E+1000*R.kept.length≤B
section
variable {B B':Nat} {E:Eng} {R:REng} {i j:Nat} {t t' u:Tx} {r r':RTx}
theorem Rel.mono (h:Rel B E R) (hB:B≤B'):Rel B' E R:=by
 obtain⟨N,h1,h2,h3,h4⟩:=h.sz
 exact { h with sz:=⟨N,h1,h2,h3,by omega⟩ }
theorem Rel.getR (h:Rel B E R) (ht:E.txs[i]?=some t):∃ r,R.txs[i]?=some r∧RelTx (stE E) E.txs.length i t r:=by
 have hi:i<R.txs.length:=by rw [h.len];exact (List.getElem?_eq_some_iff.1 ht).1
 exact⟨R.txs[i],List.getElem?_eq_getElem hi,h.tx i t _ ht (List.getElem?_eq_getElem hi)⟩
theorem Rel.getE (h:Rel B E R) (hr:R.txs[i]?=some r):∃ t,E.txs[i]?=some t∧RelTx (stE E) E.txs.length i t r:=by
 have hi:i<E.txs.length:=by rw [← h.len];exact (List.getElem?_eq_some_iff.1 hr).1
 exact⟨E.txs[i],List.getElem?_eq_getElem hi,h.tx i _ r (List.getElem?_eq_getElem hi) hr⟩
theorem Rel.stR (h:Rel B E R) (j:Nat):stR R j=stE E j:=by
 cases hr:R.txs[j]? with
 | none =>
  have:E.txs[j]?=none:=by
   rw [List.getElem?_eq_none_iff] at hr ⊢
   rw [← h.len];exact hr
  simp [Go.Proofs.YtjefgmeejhakbaaGreatDoor.stR,stE,hr,this]
 | some r =>
  obtain⟨t,ht,hx⟩:=h.getE hr
  simp [Go.Proofs.YtjefgmeejhakbaaGreatDoor.stR,stE,hr,ht,hx.state]
theorem Rel.szR (h:Rel B E R) (hr:R.txs[i]?=some r):r.sz B:=by
 obtain⟨N,h1,h2,h3,h4⟩:=h.sz
 exact (h1 r (List.mem_of_getElem? hr)).mono (by omega)
theorem Rel.stepB (h:Rel B E R):R.step≤B:=by
 obtain⟨N,h1,h2,h3,h4⟩:=h.sz
 omega
theorem Rel.keptB (h:Rel B E R):1000*R.kept.length≤B:=by
 obtain⟨N,h1,h2,h3,h4⟩:=h.sz
 omega
theorem hist_congr {E E':Eng} (hc:E'.com=E.com) (h:∀ j∈E.com,∀ t,E.txs[j]?=some t→∃ t',E'.txs[j]?=some t'∧t'.reads=t.reads∧t'.vals=t.vals) (hex:∀ j∈E.com,∃ t,E.txs[j]?=some t):histP E'=histP E:=by
 unfold histP histTo
 rw [hc,List.take_length]
 have key:∀ l:List Nat,(∀ j∈l,j∈E.com)→l.flatMap (fun (i:Nat)=>match E'.txs[i]? with | some t=>histOf ((i:Int)+1) t | none=>[])=l.flatMap (fun (i:Nat)=>match E.txs[i]? with | some t=>histOf ((i:Int)+1) t | none=>[]):=by
  intro l
  induction l with
  | nil=>intro _;rfl
  | cons a r ih =>
   intro hl
   rw [List.flatMap_cons,List.flatMap_cons,ih (fun j hj=>hl j (List.mem_cons_of_mem _ hj))]
   congr 1
   have ha:=hl a (List.mem_cons_self ..)
   obtain⟨t,ht⟩:=hex a ha
   obtain⟨t',ht',e1,e2⟩:=h a ha t ht
   rw [ht,ht']
   simp only [histOf,e1,e2]
 exact key E.com (fun _ h=>h)
theorem Rel.comE (h:Rel B E R) (hj:j∈E.com):∃ t,E.txs[j]?=some t∧t.state=2:=by
 have h2:=h.coms j hj
 obtain⟨t,ht,e⟩:=stE_get (E:=E) (j:=j) (by omega)
 exact⟨t,ht,e.trans h2⟩
theorem rset_cases {l:List RTx} {i j:Nat} {a b:RTx} (h:(l.set i a)[j]?=some b):(j=i∧b=a)∨(j≠i∧l[j]?=some b):=by
 rw [List.getElem?_set] at h
 split at h
 ·rename_i e
  split at h
  ·injection h with h
   exact .inl ⟨e.symm,h.symm⟩
  ·cases h
 ·rename_i e
  exact .inr ⟨fun h=>e h.symm,h⟩
theorem eset_cases {l:List Tx} {i j:Nat} {a b:Tx} (h:(l.set i a)[j]?=some b):(j=i∧b=a)∨(j≠i∧l[j]?=some b):=by
 rw [List.getElem?_set] at h
 split at h
 ·rename_i e
  split at h
  ·injection h with h
   exact .inl ⟨e.symm,h.symm⟩
  ·cases h
 ·rename_i e
  exact .inr ⟨fun h=>e h.symm,h⟩
theorem Rel.setTx (h:Rel B E R) (ht:E.txs[i]?=some t) (hr:R.txs[i]?=some r) (h3:t.state≠3) (hs:t'.state=t.state∨(liveB t.state=true∧liveB t'.state=true))
  (hX:RelTx (stE E) E.txs.length i t' r') (hc:t.state=2→t'.reads=t.reads∧t'.vals=t.vals) (hbg:r'.begun=r.begun∧r'.over=r.over) (hba:t'.bae=t.bae) (hwy:t'.why=t.why)
  (hz:r'.reads.length≤r.reads.length+1∧r'.own.length≤r.own.length+1∧r'.behind.length≤r.behind.length+1∧r'.ahead.length≤r.ahead.length+1) (hB:B+1+1000*potT t'≤B'+1000*potT t) :
  Rel B' (E.setTx i t') (R.setTx i r'):=by
 have hi:=(List.getElem?_eq_some_iff.1 ht).1
 have h3':t'.state≠3:=by
  rcases hs with e | ⟨_,e⟩
  ·rw [e];exact h3
  ·rcases live_iff.1 e with e | e<;>omega
 have hlv:liveB t'.state=liveB t.state:=by
  rcases hs with e | ⟨e1,e2⟩
  ·rw [e]
  ·rw [e1,e2]
 have hst:∀ j,stE (E.setTx i t') j≠3↔stE E j≠3:=fun j=>by
  rw [stE_set ht]
  by_cases e:j=i
  ·subst e
   rw [if_pos rfl,stE_some ht]
   exact⟨fun _=>h3,fun _=>h3'⟩
  ·rw [if_neg e]
 have hst2:∀ j,stE E j=2→stE (E.setTx i t') j=2:=fun j hj=>by
  rw [stE_set ht]
  by_cases e:j=i
  ·subst e
   rw [stE_some ht] at hj
   rw [if_pos rfl]
   rcases hs with e | ⟨e1,_⟩
   ·rw [e];exact hj
   ·rcases live_iff.1 e1 with e | e<;>omega
  ·rw [if_neg e];exact hj
 have hl:(E.setTx i t').txs.length=E.txs.length:=setTx_len E i t'
 obtain⟨N,s1,s2,s3,s4⟩:=h.sz
 have hp:=pot_set t' ht
 refine⟨by rw [hl];simpa [REng.setTx] using h.len,by rw [hl];exact h.le,fun j a b ha hb=>?_,h.last,h.T,h.good,by rw [hl];exact h.mem,h.doc,h.lb,h.tim,h.wr,fun c x hx=>?_,h.nw,fun j hj=>hst2 j (h.coms j hj),h.comn,?_,fun b hb=>?_,fun a ha=>?_,fun a b ra rb tb hra hrb htb hlb=>?_,h.s0,fun a ha h3a=>?_,N+1,fun b hb=>?_,?_,?_,?_⟩
 ·rw [hl]
  rcases eset_cases ha with ⟨rfl,rfl⟩ | ⟨e,ha⟩
  ·rcases rset_cases hb with ⟨_,rfl⟩ | ⟨e,_⟩
   ·exact hX.st hst
   ·exact (e rfl).elim
  ·rcases rset_cases hb with ⟨e',_⟩ | ⟨_,hb⟩
   ·exact (e e').elim
   ·exact (h.tx j a b ha hb).st hst
 ·obtain⟨m,e,hm⟩:=h.wrc c x hx
  exact⟨m,e,hst2 m hm⟩
 ·refine h.hist.trans (hist_congr (E:=E) (E':=E.setTx i t') rfl (fun j hj a ha=>?_) (fun j hj=>by obtain⟨u,hu,_⟩:=h.comE hj;exact⟨u,hu⟩)).symm
  by_cases e:j=i
  ·subst e
   rw [ht] at ha
   cases ha
   have h2:t.state=2:=by have:=h.coms j hj;rw [stE_some ht] at this;exact this
   exact⟨t',setTx_get ht,hc h2⟩
  ·exact⟨a,by rw [setTx_get_ne (fun e'=>e e'.symm)];exact ha,rfl,rfl⟩
 ·rcases List.mem_or_eq_of_mem_set hb with hb | rfl
  ·exact h.bg b hb
  ·rw [hbg.1,hbg.2];exact h.bg r (List.mem_of_getElem? hr)
 ·rw [hl]
  rcases List.mem_or_eq_of_mem_set ha with ha | rfl
  ·exact h.bae a ha
  ·rw [hba];exact h.bae t (List.mem_of_getElem? ht)
 ·have k1:∃ ra',R.txs[a]?=some ra'∧ra.begun=ra'.begun:=by
   rcases rset_cases hra with ⟨rfl,rfl⟩ | ⟨_,hra⟩
   ·exact⟨r,hr,hbg.1⟩
   ·exact⟨ra,hra,rfl⟩
  have k2:∃ rb' tb',R.txs[b]?=some rb'∧E.txs[b]?=some tb'∧rb.over=rb'.over∧tb.bae=tb'.bae∧liveB tb'.state=false:=by
   rcases eset_cases htb with ⟨rfl,rfl⟩ | ⟨e,htb⟩
   ·rcases rset_cases hrb with ⟨_,rfl⟩ | ⟨e,_⟩
    ·exact⟨r,t,hr,ht,hbg.2,hba,by rw [← hlv];exact hlb⟩
    ·exact (e rfl).elim
   ·rcases rset_cases hrb with ⟨e',_⟩ | ⟨_,hrb⟩
    ·exact (e e').elim
    ·exact⟨rb,tb,hrb,htb,rfl,rfl,hlb⟩
  obtain⟨ra',a1,a2⟩:=k1
  obtain⟨rb',tb',b1,b2,b3,b4,b5⟩:=k2
  rw [a2,b3,b4]
  exact h.ord a b ra' rb' tb' a1 b1 b2 b5
 ·rcases List.mem_or_eq_of_mem_set ha with ha | rfl
  ·exact h.wy a ha h3a
  ·rw [hwy];exact h.wy t (List.mem_of_getElem? ht) h3
 ·rcases List.mem_or_eq_of_mem_set hb with hb | rfl
  ·exact (s1 b hb).mono (by omega)
  ·have:=s1 r (List.mem_of_getElem? hr)
   exact⟨Nat.le_trans hz.1 (by have:=this.1;omega),Nat.le_trans hz.2.1 (by have:=this.2.1;omega),Nat.le_trans hz.2.2.1 (by have:=this.2.2.1;omega),Nat.le_trans hz.2.2.2 (by have:=this.2.2.2;omega)⟩
 ·show R.step≤_
  omega
 ·show R.nb≤_
  omega
 ·show N+1+1000*pot (E.setTx i t')+1000*R.kept.length≤B'
  omega
theorem Rel.setT (h:Rel B E R) {T':Tab} (hg:Good T') (hm:∀ k x,x∈T' k→1≤x∧x≤E.txs.length):Rel B { E with T:=T' } { R with T:=T' } :=
 ⟨h.len,h.le,h.tx,h.last,rfl,hg,hm,h.doc,h.lb,h.tim,h.wr,h.wrc,h.nw,h.coms,h.comn,h.hist,h.bg,h.bae,h.ord,h.s0,h.wy,h.sz⟩
theorem Rel.drop (h:Rel B E R) (n:Int):Rel B { E with T:=dropP E.T n } { R with T:=dropP R.T n }:=by
 rw [h.T]
 exact h.setT (h.good.drop n) (fun k x hx=>h.mem k x (List.mem_filter.1 hx).1)
end
end Go.Proofs.YtjefgmeejhakbaaGreatDoor
/- The document's engine: what one wrote of a key. -/
namespace Go.Proofs.YtjefgmeejhakbaaGreatDoor
open Go.RowKit
section
variable {w:World} {ls:List Nat} {l:RTxL} {t:RTx}
theorem lastOf_take {ws:List (Int × Int)} {j:Nat} {p:Int × Int} (h:ws[j]?=some p) (k:Int):lastOf (ws.take (j+1)) k=if k=p.1 then some p.2 else lastOf (ws.take j) k:=by
 rw [List.take_add_one,h,Option.toList_some,lastOf_snoc]
set_option maxRecDepth 100000 in
set_option maxHeartbeats 1000000 in
theorem rown_any (h:RTxAt w ls l t) (k:Int) (hn:t.own.length≤1000000000) :
  Calls Tryz.prog 134 #[.pointer (some ⟨l.b,0,none⟩),.int .i64 k] w fun e w'=>e=.returned (.tuple #[.int .i64 ((lastOf t.own k).getD 0),.bool (lastOf t.own k).isSome])∧w'=w:=by
 have c7:w.cell? ⟨l.b,7,none⟩=some l.ow:=(h.cell 7).trans rfl
 have how:=h.ow
 obtain⟨ad,cap,hf⟩:=row_form how
 rw [hf] at c7 how
 have HO:=hid how
 obtain⟨ws,hws⟩:∃ ws,t.own=ws:=⟨_,rfl⟩
 rw [hws] at hn HO c7
 rw [hws]
 have gw:IntKind.i64.wrap ((ws.length:Int)-1)=(ws.length:Int)-1:=IntWalk.i64_in _ (by omega)
 clear h how hf hws
 go_enter Tryz.func134,Tryz.ntmps134
 go_wp2
 go_loop [6] (fun iv=>∃ j:Nat,iv=.int .i64 ((j:Int)-1)∧j≤ws.length∧Hid (lastOf ws k=lastOf (ws.take j) k)) (fun iv=>(intOf iv+1).toNat)
 case atStart=>exact⟨ws.length,rfl,Nat.le_refl _,by show _=_;rw [List.take_length]⟩
 case round =>
  clear gw
  obtain⟨j,rfl,hj,HE⟩:=hrel
  cases j with
  | zero =>
   have e1:lastOf ws k=none:=HE.out
   have g0:¬ (0:Int)≤((0:Nat):Int)-1:=by omega
   have H1:=hid e1
   clear HE e1
   go_wp2
   go_ret2
   exact⟨by rw [H1.out];rfl,rfl⟩
  | succ j =>
   obtain⟨⟨a,v⟩,hav⟩:∃ p,ws[j]?=some p:=⟨_,List.getElem?_eq_getElem (by omega)⟩
   have hst:=lastOf_take hav k
   rw [show ((j+1:Nat):Int)-1=(j:Int) by omega]
   rcases row_slice HO.out with ⟨_,e0⟩ | ⟨g,c,e,hg,hc⟩
   ·omega
   ·injection e with e1 e2 e3
    subst e1 e3
    have hget:=vrow_get ws j _ _ hav
    have d0:=hc _ _ hget.1
    have d1:=hc _ _ hget.2
    have g0:(0:Int)≤(j:Int):=by omega
    have g1:(j:Int)<(ws.length:Int):=by omega
    have HST:=hid hst
    clear hget hc hav hst
    by_cases ek:a=k
    ·have q:(a==k)=true:=by simpa using ek
     have e2:lastOf ws k=some v:=by rw [HE.out,HST.out,if_pos ek.symm]
     have H2:=hid e2
     clear ek HE HST e2
     go_wp2
     go_ret2
     exact⟨by rw [H2.out];rfl,rfl⟩
    ·have q:(a==k)=false:=by simpa using ek
     have HN:=hid (show lastOf ws k=lastOf (ws.take j) k by rw [HE.out,HST.out,if_neg (fun e=>ek e.symm)])
     clear ek HE HST
     go_wp2
     go_round
     case rel=>exact⟨j,by go_num,by omega,HN⟩
     case measure=>simp [intOf]<;>omega
set_option maxRecDepth 100000 in
set_option maxHeartbeats 1000000 in
theorem rwaitsE_any {L:REnL} {E:REng} (h:REnAt w L E) (hT:Tidy0 E.T) (hlen:∀ j,(E.T j).length≤1000000) (n:Int) :
  Calls Tryz.prog 92 #[.pointer (some ⟨L.R,0,none⟩),.int .i64 n] w fun e w'=>e=.returned (.int .i64 (holdsP E.T (waitsP E.T n)))∧∃ q,w'=w.drewN q:=by
 have HW:=hid (fun q=>rwaits_any _ _ _ _ n (w.drewN q) (h.tab.below (below_drewN (Below.refl _ w) q)) hT hlen)
 have HH:=hid (fun q=>rholds_any _ _ _ _ (waitsP E.T n) (w.drewN q) (h.tab.below (below_drewN (Below.refl _ w) q)) hT)
 clear h hT hlen
 go_enter Tryz.func92,Tryz.ntmps92
 go_wp2
 go_quiet (first | (go_at_call 148;refine Calls.quiet_of_same (HW.out _)) | (go_at_call 147;refine Calls.quiet_of_same (HH.out _)))
 go_wp2
 go_ret
 exact⟨rfl,_,rfl⟩
end
end Go.Proofs.YtjefgmeejhakbaaGreatDoor
