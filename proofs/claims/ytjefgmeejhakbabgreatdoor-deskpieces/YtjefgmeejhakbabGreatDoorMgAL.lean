/- DkLists OrAhead OrFree: put together for a claim. -/
import Derived.Test.YtjefgmeejhakbabGreatDoorMgAK
import Derived.Test.YtjefgmeejhakbabGreatDoorOrOps
import Derived.Test.YtjefgmeejhakbabGreatDoorMgAR
import Derived.Test.YtjefgmeejhakbabGreatDoorOrCompactW
import Derived.Maps.RangeWalk
namespace Go.Proofs.YtjefgmeejhakbabGreatDoor
open Go.RowKit
theorem opsV_get':∀ (l:List (Int × Int × Bool × Int)) (j:Nat) (o:Int × Int × Bool × Int),l[j]?=some o→(opsV l)[j*4]?=some (.int .i64 o.1)∧(opsV l)[j*4+1]?=some (.int .i64 o.2.1)∧(opsV l)[j*4+2]?=some (.bool o.2.2.1)∧(opsV l)[j*4+3]?=some (.int .i64 o.2.2.2)
 | [],_,_,h=>by simp at h
 | o::r,0,_,h=>by simp at h;subst h;simp [opsV]
 | o::r,j+1,x,h=>by
  have:=opsV_get' r j x (by simpa using h)
  simp only [opsV,show (j+1)*4=j*4+4 by omega,show j*4+4+1=j*4+1+4 by omega,show j*4+4+2=j*4+2+4 by omega,show j*4+4+3=j*4+3+4 by omega,List.getElem?_cons_succ]
  exact this
def listT (l:List (List UInt8)):List UInt8:=Lib.join l [44,32]
theorem listT_len {l:List (List UInt8)} (h:∀ x∈l,x.length≤68):(listT l).length≤70*l.length:=by
 simpa [listT] using join_len [44,32] 68 l h
set_option maxRecDepth 100000 in
set_option maxHeartbeats 2000000 in
theorem tellWrites_any {w:World} (hg:LibAt w) {v:Value} {l:List (Int × Int)} {base:Nat} (hv:w.ownsRow base 122 2 v l.length (vrow l)) (hl:∀ p∈l,I64 p.1∧I64 p.2) (hn:l.length≤1000000) :
  Calls Tryz.prog 96 #[v,.func (.func 98) #[] #[]] w fun e w'=>e=.returned (txt (listT (l.map fun p=>numsT [p.1,p.2])))∧Below w.heap.size w w':=by
 obtain⟨ad,g,cap,rfl,had,hcells⟩:∃ (ad:Option Addr) (g cap:Nat),v=.slice ad l.length cap∧(0<l.length→ad=some ⟨g,0,none⟩)∧∀ j u,(vrow l)[j]?=some u→w.cell? ⟨g,j,none⟩=some u:=by
  rcases row_slice hv with ⟨rfl,hn0⟩ | ⟨g,c,rfl,_,hc⟩
  ·rw [hn0]
   refine⟨none,0,0,rfl,fun h=>by omega,fun j u hu=>?_⟩
   rw [List.eq_nil_of_length_eq_zero hn0] at hu
   cases hu
  ·exact⟨_,g,c,rfl,fun _=>rfl,hc⟩
 have hcut:=hid hcells
 have HA:=hid had
 have HL:=hid hl
 have HTW:=hid (fun (W:World) (k x:Int) (hk:I64 k) (hx:I64 x) (hW:Below w.heap.size w W)=>(tellWrite_any (hg.below hW hg.room) hk hx).mono (fun e w' h=>(⟨h.1,hW.trans (h.2.mono hW.size),h.2⟩:e=.returned (txt (numsT [k,x]))∧Below w.heap.size w w'∧Below W.heap.size W w')))
 clear hcells hg hl had hv
 go_enter Tryz.func96,Tryz.ntmps96
 go_wp2
 go_loopw [5,10] (fun tv i wr=>∃ j:Nat,j≤l.length∧i=.int .i64 j∧wr.ownsRow w.heap.size 9 1 tv j ((l.take j).map (fun p=>txt (numsT [p.1,p.2])))∧Below w.heap.size w wr) (fun _ i _=>l.length-(intOf i).toNat)
 case atStart=>exact⟨0,by omega,rfl,by simpa using World.ownsRow_nil w w.heap.size 9 1,Below.refl _ _⟩
 case round =>
  obtain⟨j,hj,rfl,hown,hB⟩:=hrel
  have hBs:=hB.size
  by_cases hlt:j<l.length
  ·obtain⟨⟨k,x⟩,hx⟩:∃ p,l[j]?=some p:=⟨_,List.getElem?_eq_getElem hlt⟩
   obtain⟨v1,v2⟩:=vrow_get l j k x hx
   have hc1:=hcut.out _ _ v1
   have hc2:=hcut.out _ _ v2
   have hgl:g<w.heap.size:=World.block_lt_of_cell? _ _ hc1
   have hd1:=(hB.cell (p:=⟨g,j*2,none⟩) hgl).trans hc1
   have hd2:=(hB.cell (p:=⟨g,j*2+1,none⟩) hgl).trans hc2
   obtain⟨hk64,hx64⟩:=HL.out _ (List.mem_of_getElem? hx)
   have HO:=hid hown
   have HX:=hid hx
   have hae:=HA.out (by omega)
   subst hae
   have HC:=hid (HTW.out (wr.alloc (.cells #[.int .i64 k,.int .i64 x] 122)) k x hk64 hx64 (hB.trans ((Below.refl _ wr).alloc (Nat.le_refl _) _ |>.mono hBs)))
   clear hc1 hc2 v1 v2 hx hown HTW hcut HL HA hk64 hx64
   go_wp2_with (first | (go_at_call 98;refine HC.out.mono ?_;rintro e w1 ⟨rfl,hB1,hB1'⟩) | (at_builtin;refine wpList_app_txt (by rfl) _ _ (by rfl) w.heap.size u5 j _ (by rfl) ((owns_below (HO.out.alloc _) hB1').alloc _) w1.heap.size _ (by rfl) (heap_alloc_new _ _) (by rfl) (by omega) (by have:=hB1.size;simp;omega) ?_;intro ad2 cap2 w2 ho2 hB2))
   go_roundw
   case rel =>
    have hs1:=hB1.size
    refine⟨j+1,by omega,by go_num,?_,hB1.trans (((Below.refl _ w1).alloc (Nat.le_refl _) _ |>.mono hs1).trans hB2)⟩
    rw [take_snoc HX.out,List.map_append]
    exact ho2
   case measure=>simp [intOf];omega
  ·have hjj:j=l.length:=by omega
   subst hjj
   rw [List.take_length] at hown
   have hown2:wr.ownsRow w.heap.size 9 1 u5 (l.map fun p=>numsT [p.1,p.2]).length ((l.map fun p=>numsT [p.1,p.2]).map txt):=by rw [List.length_map,List.map_map];exact hown
   have hlen:=listT_len (l:=l.map fun p=>numsT [p.1,p.2]) (fun y hy=>by
    obtain⟨p,hp,rfl⟩:=List.mem_map.1 hy
    have:=numsT2_len (HL.out p hp).1 (HL.out p hp).2
    omega)
   rw [List.length_map] at hlen
   have HJ:=hid (join_row hown2 [44,32] (by rw [List.length_map];omega) (by unfold listT at hlen;omega))
   clear hown hown2 hlen
   go_wp2_with (go_at_call 69;refine HJ.out.mono ?_;rintro e w1 ⟨rfl,hB1⟩)
   go_ret
   exact⟨rfl,hB.trans (hB1.mono hBs)⟩
set_option maxRecDepth 100000 in
set_option maxHeartbeats 2000000 in
theorem tellOps_any {w:World} (hg:LibAt w) {v:Value} {l:List (Int × Int × Bool × Int)} {base:Nat} (hv:w.ownsRow base 138 4 v l.length (opsV l)) (hl:∀ o∈l,I64 o.1∧I64 o.2.1∧I64 o.2.2.2) (hn:l.length≤1000000) :
  Calls Tryz.prog 107 #[v,.func (.func 109) #[] #[]] w fun e w'=>e=.returned (txt (listT (l.map opT)))∧Below w.heap.size w w':=by
 obtain⟨ad,g,cap,rfl,had,hcells⟩:∃ (ad:Option Addr) (g cap:Nat),v=.slice ad l.length cap∧(0<l.length→ad=some ⟨g,0,none⟩)∧∀ j u,(opsV l)[j]?=some u→w.cell? ⟨g,j,none⟩=some u:=by
  rcases row_slice hv with ⟨rfl,hn0⟩ | ⟨g,c,rfl,_,hc⟩
  ·rw [hn0]
   refine⟨none,0,0,rfl,fun h=>by omega,fun j u hu=>?_⟩
   rw [List.eq_nil_of_length_eq_zero hn0] at hu
   cases hu
  ·exact⟨_,g,c,rfl,fun _=>rfl,hc⟩
 have hcut:=hid hcells
 have HA:=hid had
 have HL:=hid hl
 have HTW:=hid (fun (W:World) (o:Int × Int × Bool × Int) (h:I64 o.1∧I64 o.2.1∧I64 o.2.2.2) (hW:Below w.heap.size w W)=>(tellOp_any (hg.below hW hg.room) h.1 h.2.1 h.2.2).mono (fun e w' h=>(⟨h.1,hW.trans (h.2.mono hW.size),h.2⟩:e=.returned (txt (opT o))∧Below w.heap.size w w'∧Below W.heap.size W w')))
 clear hcells hg hl had hv
 go_enter Tryz.func107,Tryz.ntmps107
 go_wp2
 go_loopw [5,10] (fun tv i wr=>∃ j:Nat,j≤l.length∧i=.int .i64 j∧wr.ownsRow w.heap.size 9 1 tv j ((l.take j).map (fun p=>txt (opT p)))∧Below w.heap.size w wr) (fun _ i _=>l.length-(intOf i).toNat)
 case atStart=>exact⟨0,by omega,rfl,by simpa using World.ownsRow_nil w w.heap.size 9 1,Below.refl _ _⟩
 case round =>
  obtain⟨j,hj,rfl,hown,hB⟩:=hrel
  have hBs:=hB.size
  by_cases hlt:j<l.length
  ·obtain⟨⟨q,k,b,f⟩,hx⟩:∃ p,l[j]?=some p:=⟨_,List.getElem?_eq_getElem hlt⟩
   obtain⟨v1,v2,v3,v4⟩:=opsV_get' l j _ hx
   simp only at v1 v2 v3 v4
   have hc1:=hcut.out _ _ v1
   have hc2:=hcut.out _ _ v2
   have hc3:=hcut.out _ _ v3
   have hc4:=hcut.out _ _ v4
   have hgl:g<w.heap.size:=World.block_lt_of_cell? _ _ hc1
   have hd1:=(hB.cell (p:=⟨g,j*4,none⟩) hgl).trans hc1
   have hd2:=(hB.cell (p:=⟨g,j*4+1,none⟩) hgl).trans hc2
   have hd3:=(hB.cell (p:=⟨g,j*4+2,none⟩) hgl).trans hc3
   have hd4:=(hB.cell (p:=⟨g,j*4+3,none⟩) hgl).trans hc4
   have h64:=HL.out _ (List.mem_of_getElem? hx)
   have HO:=hid hown
   have HX:=hid hx
   have hae:=HA.out (by omega)
   subst hae
   have HC:=hid (HTW.out (wr.alloc (.cells #[.int .i64 q,.int .i64 k,.bool b,.int .i64 f] 138)) (q,k,b,f) h64 (hB.trans ((Below.refl _ wr).alloc (Nat.le_refl _) _ |>.mono hBs)))
   simp only at HC
   clear hc1 hc2 hc3 hc4 v1 v2 v3 v4 hx hown HTW hcut HL HA h64
   go_wp2_with (first | (go_at_call 109;refine HC.out.mono ?_;rintro e w1 ⟨rfl,hB1,hB1'⟩) | (at_builtin;refine wpList_app_txt (by rfl) _ _ (by rfl) w.heap.size u5 j _ (by rfl) ((owns_below (HO.out.alloc _) hB1').alloc _) w1.heap.size _ (by rfl) (heap_alloc_new _ _) (by rfl) (by omega) (by have:=hB1.size;simp;omega) ?_;intro ad2 cap2 w2 ho2 hB2))
   go_roundw
   case rel =>
    have hs1:=hB1.size
    refine⟨j+1,by omega,by go_num,?_,hB1.trans (((Below.refl _ w1).alloc (Nat.le_refl _) _ |>.mono hs1).trans hB2)⟩
    rw [take_snoc HX.out,List.map_append]
    exact ho2
   case measure=>simp [intOf];omega
  ·have hjj:j=l.length:=by omega
   subst hjj
   rw [List.take_length] at hown
   have hown2:wr.ownsRow w.heap.size 9 1 u5 (l.map opT).length ((l.map opT).map txt):=by rw [List.length_map,List.map_map];exact hown
   have hlen:=listT_len (l:=l.map opT) (fun y hy=>by
    obtain⟨p,hp,rfl⟩:=List.mem_map.1 hy
    exact opT_len (HL.out p hp).1 (HL.out p hp).2.1 (HL.out p hp).2.2)
   rw [List.length_map] at hlen
   have HJ:=hid (join_row hown2 [44,32] (by rw [List.length_map];omega) (by unfold listT at hlen;omega))
   clear hown hown2 hlen
   go_wp2_with (go_at_call 69;refine HJ.out.mono ?_;rintro e w1 ⟨rfl,hB1⟩)
   go_ret
   exact⟨rfl,hB.trans (hB1.mono hBs)⟩
end Go.Proofs.YtjefgmeejhakbabGreatDoor
namespace Go.Proofs.YtjefgmeejhakbabGreatDoor
open Go.RowKit
def aMap (T:List Int) (E:List (Int × Int)):Int→Option Value:=fun y=>if y∈T then some (.int .i64 ((E.countP (fun e=>e.2==y):Nat):Int)) else none
theorem aMap_tx (T:List Int) (x:Int):updT (aMap T []) x (some (.int .i64 0))=aMap (T++[x]) []:=by
 funext y
 by_cases e:y=x
 ·subst e;rw [updT_same];simp [aMap]
 ·rw [updT_other _ _ e];simp [aMap,e]
theorem aMap_two (T:List Int) (E:List (Int × Int)) (a b:Int) (hb:b∈T):updT (aMap T E) b (some (.int .i64 (((E.countP (fun e=>e.2==b):Nat):Int)+1)))=aMap T (E++[(a,b)]):=by
 funext y
 by_cases e:y=b
 ·subst e
  rw [updT_same]
  simp [aMap,hb]
 ·rw [updT_other _ _ e]
  simp [aMap,show b≠y from fun e2=>e e2.symm]
set_option maxRecDepth 100000 in
set_option maxHeartbeats 1000000 in
theorem aheadOf_any (ad:Option Addr) (cap N:Nat) (l:List Opp) (tv:Value) (E:List (Int × Int)) (w:World) (hn:l.length≤1000000) (hE:E.length≤100000000) (hO:OpsAt w ad l) (hT:w.ownsRow N 122 2 tv E.length (vrow E)) (hmem:∀ a b,(a,b)∈E→b∈l.map (fun o=>o.1)) (h64:∀ y∈l.map (fun o=>o.1),I64 y) :
  Calls Tryz.prog 186 #[.slice ad l.length cap,tv] w fun e w'=>e=.returned (.map (some w.heap.size))∧IMap w' w.heap.size 200000000 (aMap (l.map (fun o=>o.1)) E)∧Below w.heap.size w w':=by
 obtain⟨tad,tcap,rfl⟩:=row_form hT
 have HO:=hid hO
 have HT:=hid hT
 have HM:=hid hmem
 have H64:=hid h64
 have hmm:=@run_makeMap Tryz.prog
 clear hO hT hmem h64
 go_enter Tryz.func186,Tryz.ntmps186
 go_wp2
 go_loopw [13] (fun iv wr=>∃ j:Nat,iv=.int .i64 j∧j≤l.length∧IMap wr w.heap.size j (aMap ((l.take j).map (fun o=>o.1)) [])∧Below w.heap.size w wr) (fun iv _=>l.length-(intOf iv).toNat)
 case atStart =>
  refine⟨0,rfl,Nat.zero_le _,?_,(Below.refl _ _).alloc (Nat.le_refl _) _⟩
  exact IMap.made w
 case round =>
  obtain⟨j,rfl,hj,hI,hB⟩:=hrel
  have hBs:=hB.size
  by_cases hlt:j<l.length
  ·obtain⟨o,ho⟩:∃ o,l[j]?=some o:=⟨l[j],List.getElem?_eq_getElem hlt⟩
   obtain⟨g,off,rfl,hg,⟨c0,c1,c2,c3⟩,i0,_⟩:=HO.out.below hB j o ho
   have hj0:(0:Int)≤(j:Int):=by omega
   have hj1:(j:Int)<(l.length:Int):=by omega
   have hA:Below wr.heap.size wr (wr.alloc (.cells #[.int .i64 o.1,.int .i64 o.2.1,.bool o.2.2.1,.int .i64 o.2.2.2] 138)):=(Below.refl _ _).alloc (Nat.le_refl _) _
   have hI2:=hI.same (hA.block _ hI.lt)
   obtain⟨w1,hrun,hI3,hg3⟩:=hI2.store Tryz.underlying131 (by unfold maxLen;omega) i0 (.int .i64 0)
   rw [aMap_tx] at hI3
   have hst:(l.take (j+1)).map (fun o=>o.1)=(l.take j).map (fun o=>o.1)++[o.1]:=by rw [List.take_add_one,ho];simp
   rw [← hst] at hI3
   have HI3:=hid (And.intro hI3 ((hB.trans (hA.mono hBs)).grown hg3 (Nat.le_trans hBs hA.size) (fun k e=>by cases e;exact Nat.le_refl _)))
   clear hI hI2 hI3 hg3 hB hA ho hst
   go_wp2
   go_roundw
   case rel=>exact⟨j+1,by go_num,by omega,HI3.out⟩
   case measure=>simp [intOf];omega
  ·obtain rfl:j=l.length:=by omega
   rw [List.take_length] at hI
   have HI:=hid (And.intro hI hB)
   clear hI hB
   go_wp2
   go_loopw [23] (fun iv wr=>∃ j:Nat,iv=.int .i64 j∧j≤E.length∧IMap wr w.heap.size (l.length+j) (aMap (l.map (fun o=>o.1)) (E.take j))∧Below w.heap.size w wr) (fun iv _=>E.length-(intOf iv).toNat)
   case atStart=>exact⟨0,rfl,Nat.zero_le _,HI.out⟩
   case round =>
    obtain⟨j,rfl,hj,hI,hB⟩:=hrel
    have hBs:=hB.size
    by_cases hlt:j<E.length
    ·obtain⟨⟨a,b⟩,hx⟩:∃ x,E[j]?=some x:=⟨E[j],List.getElem?_eq_getElem hlt⟩
     have hTr:=owns_same HT.out (fun g e=>hB.block g (HT.out.lt g e).2)
     rcases row_slice hTr with ⟨_,e0⟩ | ⟨g,cap',e,hg,_⟩
     ·omega
     ·cases e
      obtain⟨ca,cb⟩:=two_cells hTr hx
      have hj0:(0:Int)≤(j:Int):=by omega
      have hj1:(j:Int)<(E.length:Int):=by omega
      have hbm:=HM.out a b (List.mem_of_getElem? hx)
      have hb64:=H64.out b hbm
      have hA:Below wr.heap.size wr (wr.alloc (.cells #[.int .i64 a,.int .i64 b] 122)):=(Below.refl _ _).alloc (Nat.le_refl _) _
      have hI2:=hI.same (hA.block _ hI.lt)
      have hlk:=hI2.look1 Tryz.underlying131 (zeroI _) hb64
      have hfv:(aMap (l.map (fun o=>o.1)) (E.take j) b).getD (.int .i64 0)=.int .i64 (((E.take j).countP (fun e=>e.2==b):Nat):Int):=by unfold aMap;rw [if_pos hbm];rfl
      rw [hfv] at hlk
      have hcn:(E.take j).countP (fun e=>e.2==b)≤E.length:=Nat.le_trans List.countP_le_length (by simp;omega)
      obtain⟨c,hc⟩:∃ c,(E.take j).countP (fun e=>e.2==b)=c:=⟨_,rfl⟩
      rw [hc] at hlk hcn
      obtain⟨w1,hrun,hI3,hg3⟩:=hI2.store Tryz.underlying131 (by unfold maxLen;omega) hb64 (.int .i64 ((c:Int)+1))
      rw [← hc,aMap_two _ _ a b hbm] at hI3
      have hst:E.take (j+1)=E.take j++[(a,b)]:=by rw [List.take_add_one,hx];rfl
      rw [← hst] at hI3
      have HI3:=hid (And.intro hI3 ((hB.trans (hA.mono hBs)).grown hg3 (Nat.le_trans hBs hA.size) (fun k e=>by cases e;exact Nat.le_refl _)))
      clear hI hI2 hI3 hg3 hB hA hx hst hTr hfv hc hbm
      go_wp2
      go_roundw
      case rel=>exact⟨j+1,by go_num,by omega,HI3.out⟩
      case measure=>simp [intOf];omega
    ·obtain rfl:j=E.length:=by omega
     rw [List.take_length] at hI
     have HI2:=hid (And.intro (hI.mono (by omega:l.length+E.length≤200000000)) hB)
     clear hI hB
     go_wp2
     go_ret
     exact⟨rfl,HI2.out⟩
end Go.Proofs.YtjefgmeejhakbabGreatDoor
namespace Go.Proofs.YtjefgmeejhakbabGreatDoor
open Go.RowKit Go.Shelf Go.Lib Go.Sort
theorem sameKey_int (y x:Int):(Lit.int .i64 y).sameKey (.int .i64 x)=decide (y=x):=by
 by_cases e:y=x
 ·subst e;simp [Lit.sameKey]
 ·rw [Maps.sameKey_ne (litNe e)];simp [e]
theorem sortQ_any (N:Nat) (v:Value) (q:List Int) (w:World) (h:w.ownsRow N 3 1 v q.length (intsV q)) (hn:q.length≤1000000000) :
  Calls Tryz.prog 250 #[v] w fun e w'=>e=.returned (.tuple #[])∧∃ q',q'.Perm q∧q'.Pairwise (·≤·)∧w'.ownsRow N 3 1 v q.length (intsV q')∧w.grownBy w' v.ownBlock:=by
 by_cases h0:q=[]
 ·subst h0
  obtain⟨ad,cap,rfl⟩:=row_form h
  have hc:=AnyM.slices_Sort_int_none Tryz.lSortQ ad cap w
  change Calls Tryz.prog 250 _ _ _ at hc
  refine hc.mono ?_
  rintro e w' ⟨rfl,rfl⟩
  exact⟨rfl,[],List.Perm.refl _,List.Pairwise.nil,h,⟨rfl,rfl,rfl,Nat.le_refl _,fun _ _ _=>rfl⟩⟩
 ·rcases row_slice h with ⟨_,e0⟩ | ⟨g,cap,rfl,hg,_⟩
  ·exact (h0 (List.eq_nil_of_length_eq_zero e0)).elim
  ·have hI:Holds id w g 0 (intsV q).toArray:=holds_of_owns (by simpa using h)
   have hH:Holds (Value.int .i64) w g 0 q.toArray:=fun j hj=>by
    have hj':j<q.length:=by simpa using hj
    have:=hI j (by simpa [intsV] using hj')
    simpa [intsV,hj'] using this
   have hc:=AnyM.slices_Sort_int Tryz.lSortQ g 0 cap q w hH hg (by omega)
   change Calls Tryz.prog 250 _ _ _ at hc
   refine hc.mono ?_
   rintro e w' ⟨rfl,n,os,rfl⟩
   obtain⟨q',hq'⟩:∃ q',q.mergeSort (fun x y=>decide (x≤y))=q':=⟨_,rfl⟩
   have hp:q'.Perm q:=hq'▸List.mergeSort_perm _ _
   have hs:q'.Pairwise (·≤·):=by
    have:=List.pairwise_mergeSort (le:=fun x y:Int=>decide (x≤y)) (fun a b c h1 h2=>?_) (fun a b=>?_) q
    ·rw [hq'] at this
     exact this.imp (fun {a b} hab=>by simpa using hab)
    ·simp at h1 h2 ⊢;omega
    ·simp;omega
   have hl:q'.length=q.length:=hp.length_eq
   have hpo:=put_owns h (F:=(intsV q').toArray) (by simp [intsV,hl]) n os
   refine⟨rfl,q',hp,hs,?_⟩
   rw [hq',putRow_ints]
   exact hpo
set_option maxRecDepth 100000 in
set_option maxHeartbeats 1000000 in
theorem free_any (b n:Nat) (M:Int→Option Int) (w:World) (hn:∀ (q:List Int),q.Nodup→(∀ y∈q,M y≠none)→q.length≤1000000) (hI:IMap w b n (fun y=>(M y).map (Value.int .i64))) :
  Calls Tryz.prog 187 #[.map (some b)] w fun e w'=>∃ v q,e=.returned v∧w'.ownsRow w.heap.size 3 1 v q.length (intsV q)∧q.Pairwise (·≤·)∧q.Nodup∧(∀ y,y∈q↔M y=some 0)∧Below w.heap.size w w':=by
 obtain⟨i0,hi0,hz0,hz1,hz2⟩:=info_parts info3
 obtain⟨D,hD,hDf⟩:=hI
 have HD:=hid hDf
 have HN:=hid hn
 have hbl:=hD.lt
 clear hDf hn
 go_enter Tryz.func187,Tryz.ntmps187
 go_wp2_with (at_range;refine wpList_range_own _ rfl _ 131 rfl 3 3 lawI Tryz.underlying131 _ b n D rfl hD ?_;intro w0 hrg0 hg0 hs0)
 go_loopw [3] (fun sv wr=>∃ left cnt out,wr.ranges Tryz.prog 3 anyElem b w.heap.size n D left cnt∧wr.ownsRow w.heap.size 3 1 sv out.length (intsV out)∧sv.ownBlock≠some w.heap.size∧(∀ y,y∈out↔M y=some 0∧left (.int .i64 y)=false)∧out.Nodup∧(∀ kl,left kl=true→Maps.has D kl=true)∧Below w.heap.size w wr) (fun _ wr=>wr.rangeLeft b w.heap.size)
 case atStart =>
  refine⟨_,_,[],hrg0,World.ownsRow_nil _ _ _ _,(fun e=>by cases e),fun y=>?_,List.nodup_nil,fun _ h=>h,⟨hg0.os,hg0.tape,hg0.output,hg0.size,fun k hk=>hg0.block k hk (by simp)⟩⟩
  constructor
  ·intro h;simp at h
  ·rintro⟨h1,h2⟩
   have:=(HD.out y).1
   rw [h1] at this
   rw [this] at h2
   cases h2
 case round =>
  obtain⟨left,cnt,out,hrg,ho,hne,hout,hnd,hle,hB⟩:=hrel
  have HR:=hid (And.intro hrg (And.intro ho (And.intro hout (And.intro hnd (And.intro hle (And.intro hB hne))))))
  clear ho hout hnd hle hB hne
  go_wp2_with (at_next;refine wpList_next_ranges _ rfl _ rfl 3 lawI anyElem (Value.int .i64) (fun c:Value=>c) (fun key kl hkey=>by obtain⟨x,rfl,_⟩:=Maps.keyOf_int_inv Tryz.underlying3 hkey;exact⟨x,rfl⟩) (fun v y _=>⟨v,rfl⟩) b w.heap.size n D left cnt rfl hrg ?_ ?_)
  ·intro hc0 hl0
   have HL:=hid hl0
   clear hc0 hl0 hrg
   obtain⟨_,ho,hout,hnd,_,hB,_⟩:=HR.out
   have hlen:=HN.out out hnd (fun y hy=>by rw [((hout y).1 hy).1];simp)
   have HC:=hid (sortQ_any w.heap.size u3 out wr ho (by omega))
   clear ho hout hnd hB
   go_wp2_with fail
   refine HC.out.mono ?_
   rintro e w1 ⟨rfl,q,hp,hs,ho1,hg1⟩
   have H1:=hid (And.intro hp (And.intro hs (And.intro ho1 hg1)))
   clear hp hs ho1 hg1
   go_wp2
   go_ret
   obtain⟨_,ho,hout,hnd,_,hB,_⟩:=HR.out
   obtain⟨hp,hs,ho1,hg1⟩:=H1.out
   rw [← hp.length_eq] at ho1
   refine⟨u3,q,rfl,ho1,hs,hp.nodup_iff.2 hnd,fun y=>?_,hB.grown hg1 hB.size (fun k e=>(ho.lt k e).1)⟩
   rw [hp.mem_iff,hout y,HL.out]
   simp
  ·intro x c kl ya yb w1 cnt1 hkey hlk hv hat hrg1 hlt hg1 hs1 hen
   obtain⟨x',ex,rfl,hwx⟩:=Maps.keyOf_int_inv Tryz.underlying3 hkey
   cases ex
   obtain⟨_,ho,hout,hnd,hle,hB,hne⟩:=HR.out
   have hhas:=hle _ hlk
   have hD1:=HD.out x
   rw [hD1.1] at hhas
   obtain⟨m,hm⟩:∃ m,M x=some m:=by
    cases h:M x with
    | none=>rw [h] at hhas;cases hhas
    | some m=>exact⟨m,rfl⟩
   have hcm:c=.int .i64 m:=by
    have h1:=hD1.2 (.int .i64 m) (by rw [hm];rfl) (.held c)
    rw [hat] at h1
    simp only [anyElem,Option.some.injEq,Prod.mk.injEq] at hv
    rw [← hv.1] at h1
    injection h1
   subst hcm
   have hBs:=hB.size
   have hro:∀ g,u3.ownBlock=some g→w1.heap[g]?=wr.heap[g]?:=fun g e=>hg1.block g (ho.lt g e).2 (fun e2=>by cases e2;exact hne e)
   have ho1:=owns_same ho hro
   have hB1:Below w.heap.size w w1:=hB.grown hg1 hBs (fun k e=>by cases e;exact Nat.le_refl _)
   have hle1:∀ kl,(left kl&&!kl.sameKey (.int .i64 x))=true→Maps.has D kl=true:=fun kl h=>hle kl (by simp at h;exact h.1)
   have hml:∀ y,(left (.int .i64 y)&&!(Lit.int .i64 y).sameKey (.int .i64 x))=false↔left (.int .i64 y)=false∨y=x:=fun y=>by
    rw [sameKey_int]
    cases left (.int .i64 y)<;>simp
   have hxo:x∉out:=fun h=>by rw [((hout x).1 h).2] at hlk;cases hlk
   have H1:=hid (And.intro hrg1 (And.intro ho1 (And.intro hB1 (And.intro hle1 (And.intro hml (And.intro hxo (And.intro hout (And.intro hnd hne))))))))
   have HM:=hid hm
   have hmeas:=hrg1.left_eq
   have hmeas0:=hrg.left_eq
   have hlen:=HN.out out hnd (fun y hy=>by rw [((hout y).1 hy).1];simp)
   have hB1s:=hB1.size
   clear hrg ho hout hnd hle hB hne hkey hlk hv hat hwx hhas hD1 hm hro ho1 hB1 hle1 hml hxo hrg1 hg1 hs1
   by_cases hm0:m=0
   ·subst hm0
    go_wp2_with (at_builtin;refine wpList_append_lies _ rfl _ _ _ rfl w.heap.size 3 i0 _ 1 8 Tryz.underlying269 hi0 hz0 hz1 hz2 rfl (by omega) u3 _ _ rfl (H1.out.2.1.alloc _) ⟨w1.heap.size,0,none⟩ 1 1 [.int .i64 x] rfl rfl (World.news_of_block (cs:=#[.int .i64 x]) (t:=3) (fr:=(0,0)) (heap_alloc_new w1 _)) (by simp [Value.oneCell']) (by omega) (by unfold maxLen;omega) (by omega) (by simp;omega) (w1.heap.size+1) (by simp) ?_;intro g2 cap2 w2 ho2 hgrow2 hat2 hlt2)
    go_roundw
    case rel =>
     obtain⟨hrg1,ho1,hB1,hle1,hml,hxo,hout,hnd,hne⟩:=H1.out
     have hrg2:=(hrg1.alloc (.cells #[.int .i64 x] 3)).kept hgrow2 (fun e=>by have:=(ho1.lt b e.symm).1;omega) (fun e=>hne e.symm)
     refine⟨_,cnt1,out++[x],hrg2,by rw [List.length_append,intsV_append];exact ho2,fun e=>?_,fun y=>?_,List.nodup_append.2 ⟨hnd,by simp,fun a ha c hc e=>by simp at hc;exact hxo (hc▸e▸ha)⟩,hle1,?_⟩
     ·have e3:g2=w.heap.size:=by injection e
      rcases hat2 with e | e
      ·exact hne (e3▸e)
      ·have:=hB1.size
       omega
     ·rw [List.mem_append,List.mem_singleton,hout y,hml y]
      by_cases e:y=x
      ·subst e;simp [HM.out]
      ·simp [e]
     ·exact (hB1.alloc hB1s _).grown hgrow2 (by simp;omega) (fun k e=>(ho1.lt k e).1)
    case measure =>
     have hrg2:=(H1.out.1.alloc (.cells #[.int .i64 x] 3)).kept hgrow2 (fun e=>by have:=(H1.out.2.1.lt b e.symm).1;omega) (fun e=>H1.out.2.2.2.2.2.2.2.2 e.symm)
     rw [hrg2.left_eq,hmeas0]
     omega
   ·have hb:(m==0)=false:=by simpa using hm0
    go_wp2
    go_roundw
    case rel =>
     obtain⟨hrg1,ho1,hB1,hle1,hml,hxo,hout,hnd,hne⟩:=H1.out
     refine⟨_,cnt1,out,hrg1,ho1,hne,fun y=>?_,hnd,hle1,hB1⟩
     rw [hout y,hml y]
     by_cases e:y=x
     ·subst e
      rw [HM.out]
      simp [hm0]
     ·simp [e]
    case measure =>
     rw [hmeas,hmeas0]
     omega
end Go.Proofs.YtjefgmeejhakbabGreatDoor
