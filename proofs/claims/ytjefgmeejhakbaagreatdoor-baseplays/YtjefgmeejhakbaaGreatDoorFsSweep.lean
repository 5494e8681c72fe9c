/- The document's Sweep. -/
import Derived.Test.YtjefgmeejhakbaaGreatDoorMgAG
namespace Go.Proofs.YtjefgmeejhakbaaGreatDoor
open Go.RowKit
variable {P:Tail}
theorem info77:(Tryz.prog.info? 235).map (fun i=>(i.zero,i.size,i.bytes))=some (some (.agg #[.int .i64 0,.int .i64 0,.int .i64 0]),3,24):=by kernel_rfl
structure KeptS (R:Nat) (w w':World):Prop where
 os:w'.os=w.os
 tape:w'.tape=w.tape
 output:w'.output=w.output
 size:w.heap.size≤w'.heap.size
 block:∀ b,b<w.heap.size→b≠R→w'.heap[b]?=w.heap[b]?
theorem KeptS.of_below {R:Nat} {w w':World} (h:Below w.heap.size w w'):KeptS R w w':=⟨h.os,h.tape,h.output,h.size,fun b hb _=>h.block b hb⟩
theorem KeptS.trans {R:Nat} {a b c:World} (h:KeptS R a b) (k:KeptS R b c):KeptS R a c :=
 ⟨k.os.trans h.os,k.tape.trans h.tape,k.output.trans h.output,Nat.le_trans h.size k.size,fun i hi hn=>(k.block i (Nat.lt_of_lt_of_le hi h.size) hn).trans (h.block i hi hn)⟩
def keepB (t:Int) (L:List (Int × Int × Int)) (x:Int × Int × Int):Bool:=decide (t<x.2.1)||(best x.1 t L==some (x.2.1,x.2.2))
def refSweep (t:Int) (L:List (Int × Int × Int)):List (Int × Int × Int):=L.filter (keepB t L)
def sofar (t:Int) (L:List (Int × Int × Int)) (j:Nat):List (Int × Int × Int):=(L.take j).filter (keepB t L)
theorem sofar_step (t:Int) (L:List (Int × Int × Int)) (j:Nat) (x:Int × Int × Int) (h:L[j]?=some x):sofar t L (j+1)=sofar t L j++(if keepB t L x then [x] else []):=by
 unfold sofar
 rw [List.take_add_one,h,List.filter_append]
 simp [List.filter_cons]
theorem sofar_length (t:Int) (L:List (Int × Int × Int)) (j:Nat):(sofar t L j).length≤j:=by
 unfold sofar
 have h1:=List.length_filter_le (keepB t L) (L.take j)
 have h2:=List.length_take_le j L
 omega
set_option maxRecDepth 100000 in
set_option maxHeartbeats 4000000 in
theorem refSweep_walk (base R g cap:Nat) (t last:Int) (L:List (Int × Int × Int)) (w:World) (hkeys:∀ x∈L,inB x.1 0 9=true) (hlen:L.length≤100000) (hbase:base≤w.heap.size) (h:Ref P w base R last (.slice (some ⟨g,0,none⟩) L.length cap) L) :
  Calls Tryz.prog 144 #[.pointer (some ⟨R,0,none⟩),.int .i64 t] w fun e w'=>e=.returned (.int .i64 ((L.length:Int)-((refSweep t L).length:Int))) ∧
   ∃ lv',Ref P w' base R last lv' (refSweep t L)∧KeptS R w w'∧(∀ g,lv'.ownBlock=some g→w.heap.size≤g):=by
 obtain⟨i0,hi0,hz0,hz1,hz2⟩:=info_parts info77
 have hc:=h.c0
 have hR:=h.lt
 obtain⟨hgl,hcells⟩:g<w.heap.size∧∀ j k a v,L[j]?=some (k,a,v)→w.cell? ⟨g,j*3,none⟩=some (.int .i64 k)∧w.cell? ⟨g,j*3+1,none⟩=some (.int .i64 a)∧w.cell? ⟨g,j*3+2,none⟩=some (.int .i64 v):=by
  rcases h.slice with ⟨e,_⟩ | ⟨g',cp,e,h1,h2,h3⟩
  ·cases e
  ·cases e;exact⟨h1,h3⟩
 have HC:=hid hcells
 have HK:=hid hkeys
 have HR:=hid h
 clear hcells hkeys h
 go_enter Tryz.func144,Tryz.ntmps144
 go_wp2
 go_loopw [5,16] (fun tv i wr=>∃ j:Nat,j≤L.length∧i=.int .i64 j∧wr.ownsRow w.heap.size 235 3 tv (sofar t L j).length (krow (sofar t L j))∧(sofar t L j=[]→tv=.slice none 0 0)∧Below w.heap.size w wr) (fun _ i _=>L.length-(intOf i).toNat)
 case atStart=>exact⟨0,Nat.zero_le _,rfl,by simpa [sofar,krow] using World.ownsRow_nil w w.heap.size 235 3,fun _=>rfl,Below.refl _ _⟩
 case round =>
  obtain⟨j,hj,rfl,hown,hnl,hB⟩:=hrel
  have hBs:=hB.size
  by_cases hlt:j<L.length
  ·obtain⟨⟨k',a,v⟩,hav⟩:∃ p,L[j]?=some p:=⟨L[j],List.getElem?_eq_getElem hlt⟩
   obtain⟨d1,d2,d3⟩:=HC.out j k' a v hav
   have e1:=(hB.cell (p:=⟨g,j*3,none⟩) hgl).trans d1
   have e2:=(hB.cell (p:=⟨g,j*3+1,none⟩) hgl).trans d2
   have e3:=(hB.cell (p:=⟨g,j*3+2,none⟩) hgl).trans d3
   have hst:=hid (sofar_step t L j (k',a,v) hav)
   have hkb:=HK.out _ (List.mem_of_getElem? hav)
   have hj0:(0:Int)≤(j:Int):=by omega
   have hj1:(j:Int)<(L.length:Int):=by omega
   have hsl:=sofar_length t L j
   have HO:=hid hown
   have HN:=hid hnl
   clear hav d1 d2 d3 hown hnl
   have hal:Below wr.heap.size wr (wr.alloc (.cells #[.int .i64 k',.int .i64 a,.int .i64 v] 235)):=(Below.refl _ _).alloc (Nat.le_refl _) _
   have hx0:(wr.alloc (.cells #[.int .i64 k',.int .i64 a,.int .i64 v] 235)).heap[wr.heap.size]?=some (.cells #[.int .i64 k',.int .i64 a,.int .i64 v] 235 (0,0)):=World.alloc_heap_new wr _
   have HX0:=hid hx0
   have HAL:=hid hal
   clear hx0 hal
   go_wp2_with fail
   refine (refRead_any base R k' t last _ L _ hkb hlen ((HR.out.below (hB.mono (Nat.le_refl _))).below HAL.out)).mono ?_
   rintro e w1 ⟨rfl,hB1⟩
   have hBr:Below wr.heap.size wr w1:=HAL.out.trans (hB1.mono (by simp))
   have hx1:=(hB1.block wr.heap.size (by simp)).trans HX0.out
   have y0:w1.cell? ⟨wr.heap.size,0,none⟩=some (.int .i64 k'):=(cell_of_row _ _ 0 _ 235 (0,0) hx1).trans rfl
   have y1:w1.cell? ⟨wr.heap.size,1,none⟩=some (.int .i64 a):=(cell_of_row _ _ 1 _ 235 (0,0) hx1).trans rfl
   have y2:w1.cell? ⟨wr.heap.size,2,none⟩=some (.int .i64 v):=(cell_of_row _ _ 2 _ 235 (0,0) hx1).trans rfl
   have hlw:=(Array.getElem?_eq_some_iff.1 hx1).1
   have HO1:=hid (owns_same HO.out (fun g e=>hBr.block g (HO.out.lt g e).2))
   have hBw:=hB.trans (hBr.mono hBs)
   have hBws:=hBw.size
   obtain⟨b,hbq⟩:∃ b,best k' t L=b:=⟨_,rfl⟩
   rw [hbq]
   have HBQ:=hid hbq
   clear hbq hBr hx1 hB1 HX0 HAL HO hB e1 e2 e3
   by_cases q1:t<a
   ·have q0:=hid q1
    cases b with
    | none =>
     simp only [errOf,Option.getD_none]
     have hkp:=hid (show keepB t L (k',a,v)=true by simp [keepB,HBQ.out,q0.out])
     clear q0
     go_wp2_with (at_builtin;refine wpList_append_lies _ rfl _ _ _ rfl w.heap.size 235 i0 _ 3 24 Tryz.underlying103 hi0 hz0 hz1 hz2 rfl (by omega) u5 (sofar t L j).length _ rfl ((HO1.out.alloc _).alloc _) ⟨w1.heap.size+1,0,none⟩ 1 1 [.int .i64 k',.int .i64 a,.int .i64 v] rfl rfl (World.news_of_block (cs:=#[.int .i64 k',.int .i64 a,.int .i64 v]) (t:=235) (fr:=(0,0)) (by have:=heap_alloc_new (w1.alloc (.cells #[.int .i64 0,.int .i64 0] 199)) (.cells #[.int .i64 k',.int .i64 a,.int .i64 v] 235);simpa using this)) (by simp [Value.oneCell']) (by omega) (by unfold maxLen;omega) (by omega) (by simp;omega) (w1.heap.size+1+1) (by simp) ?_;intro g' cap' w2 ho hgrow hat hlt2)
     go_roundw
     case rel =>
      refine⟨j+1,by omega,by go_num,?_,?_,?_⟩
      ·rw [hst.out,hkp.out,if_pos rfl,List.length_append,krow_append];exact ho
      ·intro he
       rw [hst.out,hkp.out,if_pos rfl] at he
       simp at he
      ·exact hBw.trans (((((Below.refl _ w1).alloc (Nat.le_refl _) _).alloc (by simp) _).mono hBws).grown hgrow (by simp;omega) (fun k e=>(HO1.out.lt k e).1))
     case measure=>simp [intOf];omega
    | some bb =>
     obtain⟨p1,p2⟩:=bb
     simp only [errOf,Option.getD_some]
     have hkp:=hid (show keepB t L (k',a,v)=true by simp [keepB,HBQ.out,q0.out])
     clear q0
     go_wp2_with (at_builtin;refine wpList_append_lies _ rfl _ _ _ rfl w.heap.size 235 i0 _ 3 24 Tryz.underlying103 hi0 hz0 hz1 hz2 rfl (by omega) u5 (sofar t L j).length _ rfl ((HO1.out.alloc _).alloc _) ⟨w1.heap.size+1,0,none⟩ 1 1 [.int .i64 k',.int .i64 a,.int .i64 v] rfl rfl (World.news_of_block (cs:=#[.int .i64 k',.int .i64 a,.int .i64 v]) (t:=235) (fr:=(0,0)) (by have:=heap_alloc_new (w1.alloc (.cells #[.int .i64 p1,.int .i64 p2] 199)) (.cells #[.int .i64 k',.int .i64 a,.int .i64 v] 235);simpa using this)) (by simp [Value.oneCell']) (by omega) (by unfold maxLen;omega) (by omega) (by simp;omega) (w1.heap.size+1+1) (by simp) ?_;intro g' cap' w2 ho hgrow hat hlt2)
     go_roundw
     case rel =>
      refine⟨j+1,by omega,by go_num,?_,?_,?_⟩
      ·rw [hst.out,hkp.out,if_pos rfl,List.length_append,krow_append];exact ho
      ·intro he
       rw [hst.out,hkp.out,if_pos rfl] at he
       simp at he
      ·exact hBw.trans (((((Below.refl _ w1).alloc (Nat.le_refl _) _).alloc (by simp) _).mono hBws).grown hgrow (by simp;omega) (fun k e=>(HO1.out.lt k e).1))
     case measure=>simp [intOf];omega
   ·have qn:=hid q1
    cases b with
    | none =>
     simp only [errOf,Option.getD_none]
     have q0:=hid q1
     have hkp:=hid (show keepB t L (k',a,v)=false by simp [keepB,HBQ.out,q0.out])
     clear q0
     go_wp2
     go_roundw
     case rel =>
      refine⟨j+1,by omega,by go_num,?_,?_,?_⟩
      ·rw [hst.out,hkp.out]
       simp only [Bool.false_eq_true,if_false,List.append_nil]
       exact HO1.out.alloc _
      ·intro he
       rw [hst.out,hkp.out] at he
       simp only [Bool.false_eq_true,if_false,List.append_nil] at he
       exact HN.out he
      ·exact hBw.alloc hBws _
     case measure=>simp [intOf];omega
    | some bb =>
     obtain⟨p1,p2⟩:=bb
     simp only [errOf,Option.getD_some]
     by_cases r1:p1=a
     ·obtain rfl:=r1.symm
      by_cases r2:p2=v
      ·obtain rfl:=r2.symm
       have q0:=hid q1
       have hkp:=hid (show keepB t L (k',a,v)=true by simp [keepB,HBQ.out,q0.out])
       clear q0
       go_wp2_with (at_builtin;refine wpList_append_lies _ rfl _ _ _ rfl w.heap.size 235 i0 _ 3 24 Tryz.underlying103 hi0 hz0 hz1 hz2 rfl (by omega) u5 (sofar t L j).length _ rfl ((HO1.out.alloc _).alloc _) ⟨w1.heap.size+1,0,none⟩ 1 1 [.int .i64 k',.int .i64 a,.int .i64 v] rfl rfl (World.news_of_block (cs:=#[.int .i64 k',.int .i64 a,.int .i64 v]) (t:=235) (fr:=(0,0)) (by have:=heap_alloc_new (w1.alloc (.cells #[.int .i64 a,.int .i64 v] 199)) (.cells #[.int .i64 k',.int .i64 a,.int .i64 v] 235);simpa using this)) (by simp [Value.oneCell']) (by omega) (by unfold maxLen;omega) (by omega) (by simp;omega) (w1.heap.size+1+1) (by simp) ?_;intro g' cap' w2 ho hgrow hat hlt2)
       go_roundw
       case rel =>
        refine⟨j+1,by omega,by go_num,?_,?_,?_⟩
        ·rw [hst.out,hkp.out,if_pos rfl,List.length_append,krow_append];exact ho
        ·intro he
         rw [hst.out,hkp.out,if_pos rfl] at he
         simp at he
        ·exact hBw.trans (((((Below.refl _ w1).alloc (Nat.le_refl _) _).alloc (by simp) _).mono hBws).grown hgrow (by simp;omega) (fun k e=>(HO1.out.lt k e).1))
       case measure=>simp [intOf];omega
      ·have r2':(p2==v)=false:=by simpa using r2
       have q0:=hid (show ¬ t<a∧¬ p2=v from ⟨q1,r2⟩)
       clear r2
       have hkp:=hid (show keepB t L (k',a,v)=false by simp [keepB,HBQ.out,q0.out])
       clear q0
       go_wp2
       go_roundw
       case rel =>
        refine⟨j+1,by omega,by go_num,?_,?_,?_⟩
        ·rw [hst.out,hkp.out]
         simp only [Bool.false_eq_true,if_false,List.append_nil]
         exact HO1.out.alloc _
        ·intro he
         rw [hst.out,hkp.out] at he
         simp only [Bool.false_eq_true,if_false,List.append_nil] at he
         exact HN.out he
        ·exact hBw.alloc hBws _
       case measure=>simp [intOf];omega
     ·have r1':(p1==a)=false:=by simpa using r1
      have q0:=hid (show ¬ t<a∧¬ p1=a from ⟨q1,r1⟩)
      clear r1
      have hkp:=hid (show keepB t L (k',a,v)=false by simp [keepB,HBQ.out,q0.out])
      clear q0
      go_wp2
      go_roundw
      case rel =>
       refine⟨j+1,by omega,by go_num,?_,?_,?_⟩
       ·rw [hst.out,hkp.out]
        simp only [Bool.false_eq_true,if_false,List.append_nil]
        exact HO1.out.alloc _
       ·intro he
        rw [hst.out,hkp.out] at he
        simp only [Bool.false_eq_true,if_false,List.append_nil] at he
        exact HN.out he
       ·exact hBw.alloc hBws _
      case measure=>simp [intOf];omega
  ·have e:sofar t L j=refSweep t L:=by rw [sofar,List.take_of_length_le (by omega)];rfl
   rw [e] at hown hnl
   have HO:=hid hown
   have HN:=hid hnl
   have hrl:(refSweep t L).length≤L.length:=List.length_filter_le _ _
   obtain⟨ad,cp,hu5⟩:∃ ad cp,u5=.slice ad (refSweep t L).length cp:=by
    rcases hown.2 with ⟨e,e0⟩ | ⟨g,cap,cur,e,_⟩
    ·exact⟨none,0,by rw [e0];exact e⟩
    ·exact⟨_,_,e⟩
   subst hu5
   have hRw:=HR.out.below hB
   have hcw:=hRw.c0
   have hfw:=frozen_of_row wr R 0 _ P.tt hRw.blk
   have HRW:=hid hRw
   obtain⟨q,hq⟩:∃ q,(refSweep t L).length=q:=⟨_,rfl⟩
   rw [hq] at hrl ⊢
   have HQ:=hid hq
   clear e hown hnl hRw hq
   go_wp2
   go_ret
   refine⟨by rw [HQ.out];rfl,.slice ad q cp,?_,?_,?_⟩
   ·have ho:=HO.out
    rw [HQ.out] at ho
    refine⟨(heap_setCell_same wr R 0 _ P.tt _ HRW.out.blk).trans (by simp [fcells]),?_,?_,HRW.out.rb⟩
    ·rw [HQ.out]
     refine owns_same (owns_base ho hbase) (fun g e=>heap_setCell_other _ _ _ _ ?_)
     have:=(ho.lt g e).1
     simp
     omega
    ·intro he
     have:=HN.out he
     rw [HQ.out] at this
     exact this
   ·exact⟨hB.os,hB.tape,hB.output,by simpa using hB.size,fun b hb hne=>(heap_setCell_other _ _ _ _ hne).trans (hB.block b hb)⟩
   ·intro g e
    have ho:=HO.out
    rw [HQ.out] at ho
    exact (ho.lt g e).1
set_option maxRecDepth 100000 in
set_option maxHeartbeats 2000000 in
theorem refSweep_nil (base R:Nat) (t last:Int) (w:World) (h:Ref P w base R last (.slice none 0 0) []) :
  Calls Tryz.prog 144 #[.pointer (some ⟨R,0,none⟩),.int .i64 t] w fun e w'=>e=.returned (.int .i64 0)∧w'=w.setCell ⟨R,0,none⟩ (.slice none 0 0):=by
 have hc:=h.c0
 have hf:=frozen_of_row w R 0 _ P.tt h.blk
 go_enter Tryz.func144,Tryz.ntmps144
 go_wp2
 go_loop [5,16] (fun tv i=>tv=.slice none 0 0∧i=.int .i64 0) (fun _ _=>0)
 case atStart=>exact⟨rfl,rfl⟩
 case round =>
  obtain⟨rfl,rfl⟩:=hrel
  go_wp2
  go_ret
  exact⟨rfl,rfl⟩
theorem refSweep_any (base R:Nat) (t last:Int) (lv:Value) (L:List (Int × Int × Int)) (w:World) (hkeys:∀ x∈L,inB x.1 0 9=true) (hlen:L.length≤100000) (hbase:base≤w.heap.size) (h:Ref P w base R last lv L) :
  Calls Tryz.prog 144 #[.pointer (some ⟨R,0,none⟩),.int .i64 t] w fun e w'=>e=.returned (.int .i64 ((L.length:Int)-((refSweep t L).length:Int))) ∧
   ∃ lv',Ref P w' base R last lv' (refSweep t L)∧KeptS R w w'∧(∀ g,lv'.ownBlock=some g→w.heap.size≤g):=by
 rcases h.slice with ⟨rfl,rfl⟩ | ⟨g,cap,rfl,_⟩
 ·refine (refSweep_nil base R t last w h).mono ?_
  rintro e w' ⟨rfl,rfl⟩
  refine⟨rfl,.slice none 0 0,⟨(heap_setCell_same w R 0 _ P.tt _ h.blk).trans (by simp [fcells]),World.ownsRow_nil _ _ _ _,fun _=>rfl,h.rb⟩,⟨rfl,rfl,rfl,by simp,fun b _ hne=>heap_setCell_other _ _ _ _ hne⟩,fun g e=>by simp [Value.ownBlock] at e⟩
 ·exact refSweep_walk base R g cap t last L w hkeys hlen hbase h
end Go.Proofs.YtjefgmeejhakbaaGreatDoor
