/- The document's Install where nothing is wrong. -/
import Derived.Test.YtjefgmeejhakbaaGreatDoorFsErr
import Derived.Laws.AppendOwnNone
import Derived.Deep.RegionLaw
import Derived.BigRegion
namespace Go.Proofs.YtjefgmeejhakbaaGreatDoor
open Go.RowKit
variable {P:Tail}
def lastN (k:Int) (ws:List (Int × Int)):Nat→Int
 | 0=>-1
 | m+1=>if (ws[m]?.getD (0,0)).1=k then (m:Int) else lastN k ws m
theorem lastN_bounds (k:Int) (ws:List (Int × Int)):∀ m,lastN k ws m<m∧-1≤lastN k ws m
 | 0=>by simp [lastN]
 | m+1=>by
  have:=lastN_bounds k ws m
  simp only [lastN]
  split<;>omega
def addTo (t:Int) (ws:List (Int × Int)):Nat→List (Int × Int × Int)
 | 0=>[]
 | j+1=>addTo t ws j++(if 0≤lastN j ws ws.length then [((j:Int),t,(ws[(lastN j ws ws.length).toNat]?.getD (0,0)).2)] else [])
theorem addTo_length (t:Int) (ws:List (Int × Int)):∀ j,(addTo t ws j).length≤j
 | 0=>by simp [addTo]
 | j+1=>by
  have:=addTo_length t ws j
  rw [addTo]
  split<;>simp<;>omega
theorem fine_in {p:Int × Int} (h:Fine p):inB p.1 0 9=true∧inB p.2 (-1099511627776) 1099511627776=true:=by
 obtain⟨h1,h2,h3⟩:=h
 simp [keyB] at h1
 exact⟨by simp [inB];omega,by simp [inB];omega⟩
theorem ref_put {wr w2:World} {base R M g2 cap2:Nat} {last k a v:Int} {lz:Value} {L:List (Int × Int × Int)} (h:Ref P wr base R last lz L) (hb:base≤wr.heap.size) (hM:L.length=M)
  (ho:w2.ownsRow wr.heap.size 235 3 (.slice (some ⟨g2,0,none⟩) (M+1) cap2) (M+1) (krow L++[.int .i64 k,.int .i64 a,.int .i64 v])) (hB:Below wr.heap.size wr w2) :
  Ref P (w2.setCell ⟨R,0,none⟩ (.slice (some ⟨g2,0,none⟩) (M+1) cap2)) base R last (.slice (some ⟨g2,0,none⟩) (M+1) cap2) (L++[(k,a,v)]) ∧
   KeptS R wr (w2.setCell ⟨R,0,none⟩ (.slice (some ⟨g2,0,none⟩) (M+1) cap2))∧(∀ g,(Value.slice (some ⟨g2,0,none⟩) (M+1) cap2).ownBlock=some g→wr.heap.size≤g):=by
 have hR:=h.lt
 refine⟨⟨(heap_setCell_same w2 R 0 _ P.tt _ ((hB.block R hR).trans h.blk)).trans (by simp [fcells]),?_,fun e=>by simp at e,h.rb⟩,⟨hB.os,hB.tape,hB.output,by simpa using hB.size,fun b hb2 hne=>(heap_setCell_other _ _ _ _ hne).trans (hB.block b hb2)⟩,fun g e=>(ho.lt g e).1⟩
 have e1:(L++[(k,a,v)]).length=M+1:=by simp [hM]
 rw [e1,krow_append]
 refine owns_same (owns_base ho hb) (fun g e=>heap_setCell_other _ _ _ _ ?_)
 have:=(ho.lt g e).1
 simp
 omega
set_option maxRecDepth 100000 in
set_option maxHeartbeats 8000000 in
theorem refInst_good (base R b off cap:Nat) (last t:Int) (lv:Value) (L:List (Int × Int × Int)) (ws:List (Int × Int)) (w:World) (h:Ref P w base R last lv L) (hbase:base≤w.heap.size)
  (hws:WRow w b off ws) (hbR:b≠R) (hbl:b<w.heap.size) (hfine:∀ p∈ws,Fine p) (h1:last<t) (h2:t≤1099511627776) (hn:ws.length≤1000) (hlen:L.length≤10000) :
  Calls Tryz.prog 75 #[.pointer (some ⟨R,0,none⟩),.int .i64 t,.slice (some ⟨b,off,none⟩) ws.length cap] w fun e w'=>e=.returned (.agg #[.int .i64 0,.int .i64 (-1)]) ∧
   ∃ lv',Ref P w' base R t lv' (L++addTo t ws 10)∧KeptS R w w'∧(∀ g,lv'.ownBlock=some g→lv.ownBlock=some g∨w.heap.size≤g):=by
 obtain⟨i0,hi0,hz0,hz1,hz2⟩:=info_parts info77
 have hc0:=h.c1
 have hRl:=h.lt
 have d1:decide (t≤last)=false:=by simp;omega
 have d2:decide (1099511627776<t)=false:=by simp;omega
 have HR:=hid h
 clear h
 go_enter Tryz.func75,Tryz.ntmps75
 go_wp2
 go_loopw [26] (fun i wr=>∃ k:Nat,k≤ws.length∧i=.int .i64 k∧wr.heap[w.heap.size]?=some (.cells #[.int .i64 0,.int .i64 0] 26 (0,0))∧Below w.heap.size w wr) (fun i _=>ws.length-(intOf i).toNat)
 case atStart=>exact⟨0,Nat.zero_le _,rfl,World.alloc_heap_new w _,(Below.refl _ _).alloc (Nat.le_refl _) _⟩
 case round =>
  obtain⟨k,hk,rfl,hx,hB⟩:=hrel
  have hxl:=(Array.getElem?_eq_some_iff.1 hx).1
  by_cases hlt:k<ws.length
  ·obtain⟨⟨a,v⟩,hav⟩:∃ p,ws[k]?=some p:=⟨ws[k],List.getElem?_eq_getElem hlt⟩
   obtain⟨hf1,hf2⟩:=fine_in (hfine (a,v) (List.mem_of_getElem? hav))
   obtain⟨ca,cv⟩:=(hws.same (hB.block b hbl)) k a v hav
   have hk0:(0:Int)≤(k:Int):=by omega
   have hk1:(k:Int)<(ws.length:Int):=by omega
   simp only at hf1 hf2
   have HX:=hid hx
   clear hav hx
   go_wp2_with (go_at_call 54;refine (in_any _ _ _ _).mono ?_;rintro e w' ⟨rfl,rfl⟩)
   go_roundw
   case rel=>exact⟨k+1,by omega,by go_num,(Below.heap_alloc _ _ _ hxl).trans HX.out,hB.alloc (by omega) _⟩
   case measure=>simp [intOf];omega
  ·have HX:=hid hx
   have hBs:=hB.size
   clear hc0 hx
   go_wp2
   obtain⟨wa,rfl⟩:∃ wa,wa=wr:=⟨wr,rfl⟩
   have hR1:=hid (HR.out.below hB)
   have hK1:KeptS R w wa:=KeptS.of_below hB
   go_loopw [44] (fun i wz=>∃ (j:Nat) (lz:Value),j≤10∧i=.int .i64 j∧Hid (Ref P wz base R last lz (L++addTo t ws j))∧wz.heap[w.heap.size]?=some (.cells #[.int .i64 0,.int .i64 0] 26 (0,0))∧KeptS R w wz∧(∀ g,lz.ownBlock=some g→lv.ownBlock=some g∨w.heap.size≤g)) (fun i _=>10-(intOf i).toNat)
   case atStart=>exact⟨0,lv,by omega,rfl,by simpa [addTo] using hR1,HX.out,hK1,fun g e=>.inl e⟩
   case round =>
    clear hR1 hK1 HX hB hxl hBs
    obtain⟨j,lz,hj,rfl,hRz,hx,hK,hlz⟩:=hrel
    have hxl:=(Array.getElem?_eq_some_iff.1 hx).1
    have HX:=hid hx
    have HLZ:=hid hlz
    clear hx hlz
    by_cases hjl:j<10
    ·obtain⟨wb,rfl⟩:∃ wb,wb=wr:=⟨wr,rfl⟩
     have hws':=hws.same (hK.block b hbl hbR)
     have hj0:(0:Int)≤(j:Int):=by omega
     have hj1:(j:Int)<10:=by omega
     have hKs:=hK.size
     have hblz:b<wb.heap.size:=by omega
     go_wp2
     go_loopw [10,49] (fun lt i wz=>∃ m:Nat,m≤ws.length∧i=.int .i64 m∧lt=.int .i64 (lastN j ws m)∧Below wb.heap.size wb wz) (fun _ i _=>ws.length-(intOf i).toNat)
     case atStart=>exact⟨0,Nat.zero_le _,rfl,rfl,Below.refl _ _⟩
     case round =>
      obtain⟨m,hm,rfl,rfl,hBz⟩:=hrel
      have hBzs:=hBz.size
      by_cases hml:m<ws.length
      ·obtain⟨⟨a,v⟩,hav⟩:∃ p,ws[m]?=some p:=⟨ws[m],List.getElem?_eq_getElem hml⟩
       obtain⟨ca,cv⟩:=(hws'.same (hBz.block b hblz)) m a v hav
       have hm0:(0:Int)≤(m:Int):=by omega
       have hm1:(m:Int)<(ws.length:Int):=by omega
       by_cases hq:a=(j:Int)
       ·have hq':(a==(j:Int))=true:=by simpa using hq
        have hst:Hid (lastN j ws (m+1)=m):=by show _=_;rw [lastN,hav,if_pos (by simpa using hq)]
        clear hav hq
        go_wp2
        go_roundw
        case rel=>exact⟨m+1,by omega,by go_num,by rw [hst.out],hBz.alloc (by omega) _⟩
        case measure=>simp [intOf];omega
       ·have hq':(a==(j:Int))=false:=by simpa using hq
        have hst:Hid (lastN j ws (m+1)=lastN j ws m):=by show _=_;rw [lastN,hav,if_neg (by simpa using hq)]
        clear hav hq
        go_wp2
        go_roundw
        case rel=>exact⟨m+1,by omega,by go_num,by rw [hst.out],hBz.alloc (by omega) _⟩
        case measure=>simp [intOf];omega
      ·have hme:m=ws.length:=by omega
       have hlb:=lastN_bounds j ws m
       subst hme
       obtain⟨q,hq⟩:∃ q,lastN j ws ws.length=q:=⟨_,rfl⟩
       rw [hq] at hlb ⊢
       have HQ:=hid hq
       clear hq
       by_cases hq0:0≤q
       ·obtain⟨r,rfl⟩:=Int.eq_ofNat_of_zero_le hq0
        have hrl:r<ws.length:=by omega
        obtain⟨⟨a,v⟩,hav⟩:∃ p,ws[r]?=some p:=⟨ws[r],List.getElem?_eq_getElem hrl⟩
        obtain⟨ca,cv⟩:=(hws'.same (hBz.block b hblz)) r a v hav
        have hst:Hid (addTo t ws (j+1)=addTo t ws j++[((j:Int),t,v)]):=by show _=_;rw [addTo,HQ.out,if_pos hq0];simp [hav]
        have hRy:=hid (hRz.out.below hBz)
        have cR:=hRy.out.c0
        have fR:=frozen_of_row wr R 0 _ P.tt hRy.out.blk
        have hr0:(0:Int)≤(r:Int):=by omega
        have hr1:(r:Int)<(ws.length:Int):=by omega
        have hRlt:=hRy.out.lt
        clear hav
        obtain⟨M,hM⟩:∃ M,(L++addTo t ws j).length=M:=⟨_,rfl⟩
        have HML:=hid hM
        have HKL:=hid (show (krow (L++addTo t ws j)).length=M*3 by rw [krow_length,hM])
        have hMb:M≤10010:=by have:=addTo_length t ws j;rw [← hM,List.length_append];omega
        have hbw:b<wr.heap.size:=by omega
        rcases Nat.eq_zero_or_pos M with hM0 | hM0
        ·have hnil:L++addTo t ws j=[]:=List.eq_nil_of_length_eq_zero (HML.out.trans hM0)
         have hlzn:=hRy.out.nl hnil
         subst hlzn
         have hO1:=hid (World.ownsRow_made (base:=wr.heap.size) (e:=235) (size:=3) wr #[] 0 (Nat.le_refl _) (by simp [maxLen]) rfl)
         have hO3:=hid (World.ownsRow_made (base:=wr.heap.size) (e:=235) (size:=3) (wr.alloc (.cells #[.int .i64 (j:Int),.int .i64 t,.int .i64 v] 235)) #[] 0 (by simp) (by simp [maxLen]) rfl)
         have hN2:=hid (show ((wr.alloc (.cells #[] 235)).alloc (.cells #[.int .i64 (j:Int),.int .i64 t,.int .i64 v] 235)).heap[wr.heap.size+1]?=some (.cells #[.int .i64 (j:Int),.int .i64 t,.int .i64 v] 235) by have:=heap_alloc_new (wr.alloc (.cells #[] 235)) (.cells #[.int .i64 (j:Int),.int .i64 t,.int .i64 v] 235);rwa [World.size_alloc] at this)
         have hN3:=hid (show ((wr.alloc (.cells #[.int .i64 (j:Int),.int .i64 t,.int .i64 v] 235)).alloc (.cells #[] 235)).heap[wr.heap.size]?=some (.cells #[.int .i64 (j:Int),.int .i64 t,.int .i64 v] 235) from (Below.heap_alloc _ _ wr.heap.size (by simp)).trans (World.alloc_heap_new wr _))
         have HNIL:=hid hnil
         have HM0:=hid hM0
         clear hnil hM hM0
         go_wp2
         go_region_law
          (first
           | (refine step_append_lies _ (by rfl) _ _ _ (by rfl) wr.heap.size 235 i0 _ 3 24 Tryz.underlying103 hi0 hz0 hz1 hz2 rfl (by omega) (.slice (some ⟨wr.heap.size,0,none⟩) 0 0) 0 [] (by rfl) ((hO1.out.alloc (.cells #[.int .i64 (j:Int),.int .i64 t,.int .i64 v] 235)).drew) ⟨wr.heap.size+1,0,none⟩ 1 1 [.int .i64 (j:Int),.int .i64 t,.int .i64 v] (by rfl) (by rfl) (World.news_of_block (cs:=#[.int .i64 (j:Int),.int .i64 t,.int .i64 v]) (t:=235) (fr:=(0,0)) (hN2.out)) (by simp [Value.oneCell']) (by omega) (by unfold maxLen;omega) (by omega) (by simp<;>omega) (wr.heap.size+1+1) (by simp) ?_;intro g2 cap2 w2 hown2 hgrow2 hat2 hlt2;have hBB2:Below wr.heap.size wr w2:=(((((Below.refl _ wr).alloc (Nat.le_refl _) _).alloc (by simp) _).drew)).grown hgrow2 (by simp<;>omega) (fun k e=>by cases e;simp);have fR2:w2.frozen? ⟨R,0,none⟩=false:=(hBB2.frozen (p:=⟨R,0,none⟩) hRlt).trans fR;have cR2:w2.cell? ⟨R,0,none⟩=some (.slice none 0 0):=(hBB2.cell (p:=⟨R,0,none⟩) hRlt).trans cR)
           | (refine step_append_lies _ (by rfl) _ _ _ (by rfl) wr.heap.size 235 i0 _ 3 24 Tryz.underlying103 hi0 hz0 hz1 hz2 rfl (by omega) (.slice (some ⟨wr.heap.size+1,0,none⟩) 0 0) 0 [] (by rfl) (by have:=hO3.out.drew;rw [World.size_alloc] at this;exact this) ⟨wr.heap.size,0,none⟩ 1 1 [.int .i64 (j:Int),.int .i64 t,.int .i64 v] (by rfl) (by rfl) (World.news_of_block (cs:=#[.int .i64 (j:Int),.int .i64 t,.int .i64 v]) (t:=235) (fr:=(0,0)) (hN3.out)) (by simp [Value.oneCell']) (by omega) (by unfold maxLen;omega) (by omega) (by simp<;>omega) (wr.heap.size+1+1) (by simp) ?_;intro g2 cap2 w2 hown2 hgrow2 hat2 hlt2;have hBB2:Below wr.heap.size wr w2:=(((((Below.refl _ wr).alloc (Nat.le_refl _) _).alloc (by simp) _).drew)).grown hgrow2 (by simp<;>omega) (fun k e=>by cases e;simp);have fR2:w2.frozen? ⟨R,0,none⟩=false:=(hBB2.frozen (p:=⟨R,0,none⟩) hRlt).trans fR;have cR2:w2.cell? ⟨R,0,none⟩=some (.slice none 0 0):=(hBB2.cell (p:=⟨R,0,none⟩) hRlt).trans cR)
           | fail)
         all_goals
          have HF:=hid (ref_put (M:=0) (k:=(j:Int)) (a:=t) (v:=v) hRy.out (show base≤wr.heap.size by omega) (HML.out.trans HM0.out) (by rw [HNIL.out];exact hown2) hBB2)
          clear hown2 hgrow2 hat2 hBB2 fR2 cR2 cR fR cv ca
          go_wp2
          go_roundw
          case rel =>
           refine⟨j+1,.slice (some ⟨g2,0,none⟩) 1 cap2,by omega,by go_num,?_,?_,?_,?_⟩
           ·rw [hst.out,← List.append_assoc];exact HF.out.1
           ·exact (HF.out.2.1.block w.heap.size (by omega) (by omega)).trans ((hBz.block w.heap.size hxl).trans HX.out)
           ·exact hK.trans ((KeptS.of_below hBz).trans HF.out.2.1)
           ·intro g e
            right
            have:=HF.out.2.2 g e
            omega
          case measure=>simp [intOf];omega
        ·clear hM
         obtain⟨gz,cz,hlzv,hgz,hcz⟩:∃ gz cz,lz=.slice (some ⟨gz,0,none⟩) M cz∧gz<wr.heap.size∧∀ j' u,(krow (L++addTo t ws j))[j']?=some u→wr.cell? ((⟨gz,0,none⟩:Addr).add j')=some u:=by
          rcases hRy.out.own.2 with ⟨_,e0⟩ | ⟨g,cp,cur,e,_,hg,_⟩
          ·rw [HML.out] at e0;omega
          ·exact⟨g,cp,by rw [e,HML.out],(Array.getElem?_eq_some_iff.1 hg).1,hRy.out.own.cells (by rw [e];rfl)⟩
         subst hlzv
         have HCZ:=hid hcz
         have hk1:=krow_one (L++addTo t ws j)
         have hcA:=hid (fun (o:Obj) (j2:Nat) (u:Value) (hu:(krow (L++addTo t ws j))[j2]?=some u)=>show (wr.alloc o).cell? ((⟨gz,0,none⟩:Addr).add j2)=some u by
          have:=HCZ.out j2 u hu
          rw [addr_add] at this ⊢
          exact (World.cell?_of_block (a:=⟨gz,j2,none⟩) (Below.heap_alloc wr o gz hgz)).trans this)
         have hcB:=hid (fun (o o':Obj) (j2:Nat) (u:Value) (hu:(krow (L++addTo t ws j))[j2]?=some u)=>show ((wr.alloc o).alloc o').cell? ((⟨gz,0,none⟩:Addr).add j2)=some u by
          have:=HCZ.out j2 u hu
          rw [addr_add] at this ⊢
          exact (World.cell?_of_block (a:=⟨gz,j2,none⟩) ((Below.heap_alloc _ o' gz (by simp;omega)).trans (Below.heap_alloc wr o gz hgz))).trans this)
         have hO1:=hid (World.ownsRow_made (base:=wr.heap.size) (e:=235) (size:=3) wr #[] 0 (Nat.le_refl _) (by simp [maxLen]) rfl)
         have hO3:=hid (World.ownsRow_made (base:=wr.heap.size) (e:=235) (size:=3) (wr.alloc (.cells #[.int .i64 (j:Int),.int .i64 t,.int .i64 v] 235)) #[] 0 (by simp) (by simp [maxLen]) rfl)
         have hN2:=hid (show ((wr.alloc (.cells #[] 235)).alloc (.cells #[.int .i64 (j:Int),.int .i64 t,.int .i64 v] 235)).heap[wr.heap.size+1]?=some (.cells #[.int .i64 (j:Int),.int .i64 t,.int .i64 v] 235) by have:=heap_alloc_new (wr.alloc (.cells #[] 235)) (.cells #[.int .i64 (j:Int),.int .i64 t,.int .i64 v] 235);rwa [World.size_alloc] at this)
         clear hcz
         go_wp2
         go_region_law
          (first
           | (refine step_append_lies _ (by rfl) _ _ _ (by rfl) wr.heap.size 235 i0 _ 3 24 Tryz.underlying103 hi0 hz0 hz1 hz2 rfl (by omega) (.slice (some ⟨wr.heap.size,0,none⟩) 0 0) 0 [] (by rfl) (hO1.out.drew) ⟨gz,0,none⟩ M cz (krow (L++addTo t ws j)) (by rfl) HKL.out (fun j2 u hu=>hcA.out (.cells #[] 235) j2 u hu) hk1 hM0 (by unfold maxLen;omega) (by omega) (by simp<;>omega) (wr.heap.size+1) (by simp) ?_;intro g1 cap1 w1 hown1 hgrow1 hat1 hlt1;rw [Nat.zero_add] at hown1 ⊢;rw [List.nil_append] at hown1;have hBB1:Below wr.heap.size wr w1:=((((Below.refl _ wr).alloc (Nat.le_refl _) _).drew)).grown hgrow1 (by simp) (fun k e=>by cases e;exact Nat.le_refl _);have cv1:w1.cell? ⟨b,off+r*2+1,none⟩=some (.int .i64 v):=(hBB1.cell (p:=⟨b,off+r*2+1,none⟩) hbw).trans cv;have cR1:w1.cell? ⟨R,0,none⟩=some (.slice (some ⟨gz,0,none⟩) M cz):=(hBB1.cell (p:=⟨R,0,none⟩) hRlt).trans cR)
           | (refine step_append_lies _ (by rfl) _ _ _ (by rfl) wr.heap.size 235 i0 _ 3 24 Tryz.underlying103 hi0 hz0 hz1 hz2 rfl (by omega) (.slice (some ⟨wr.heap.size,0,none⟩) 0 0) 0 [] (by rfl) ((hO1.out.alloc (.cells #[.int .i64 (j:Int),.int .i64 t,.int .i64 v] 235)).drew) ⟨gz,0,none⟩ M cz (krow (L++addTo t ws j)) (by rfl) HKL.out (fun j2 u hu=>hcB.out (.cells #[] 235) (.cells #[.int .i64 (j:Int),.int .i64 t,.int .i64 v] 235) j2 u hu) hk1 hM0 (by unfold maxLen;omega) (by omega) (by simp<;>omega) (wr.heap.size+1+1) (by simp) ?_;intro g1 cap1 w1 hown1 hgrow1 hat1 hlt1;rw [Nat.zero_add] at hown1 ⊢;rw [List.nil_append] at hown1;have hBB1:Below wr.heap.size wr w1:=(((((Below.refl _ wr).alloc (Nat.le_refl _) _).alloc (by simp) _).drew)).grown hgrow1 (by simp<;>omega) (fun k e=>by cases e;exact Nat.le_refl _);have hsrc:w1.heap[wr.heap.size+1]?=some (.cells #[.int .i64 (j:Int),.int .i64 t,.int .i64 v] 235 (0,0)):=(hgrow1.block (wr.heap.size+1) (by simp) (by simp [Value.ownBlock])).trans hN2.out;have cv1:w1.cell? ⟨b,off+r*2+1,none⟩=some (.int .i64 v):=(hBB1.cell (p:=⟨b,off+r*2+1,none⟩) hbw).trans cv;have cR1:w1.cell? ⟨R,0,none⟩=some (.slice (some ⟨gz,0,none⟩) M cz):=(hBB1.cell (p:=⟨R,0,none⟩) hRlt).trans cR)
           | (refine step_append_lies _ (by rfl) _ _ _ (by rfl) wr.heap.size 235 i0 _ 3 24 Tryz.underlying103 hi0 hz0 hz1 hz2 rfl (by omega) (.slice (some ⟨wr.heap.size+1,0,none⟩) 0 0) 0 [] (by rfl) (by have:=hO3.out.drew;rw [World.size_alloc] at this;exact this) ⟨gz,0,none⟩ M cz (krow (L++addTo t ws j)) (by rfl) HKL.out (fun j2 u hu=>hcB.out (.cells #[.int .i64 (j:Int),.int .i64 t,.int .i64 v] 235) (.cells #[] 235) j2 u hu) hk1 hM0 (by unfold maxLen;omega) (by omega) (by simp<;>omega) (wr.heap.size+1+1) (by simp) ?_;intro g1 cap1 w1 hown1 hgrow1 hat1 hlt1;rw [Nat.zero_add] at hown1 ⊢;rw [List.nil_append] at hown1;have hBB1:Below wr.heap.size wr w1:=(((((Below.refl _ wr).alloc (Nat.le_refl _) _).alloc (by simp) _).drew)).grown hgrow1 (by simp<;>omega) (fun k e=>by cases e;simp);have hsrc:w1.heap[wr.heap.size]?=some (.cells #[.int .i64 (j:Int),.int .i64 t,.int .i64 v] 235 (0,0)):=(hgrow1.block wr.heap.size (by simp<;>omega) (by simp [Value.ownBlock])).trans ((Below.heap_alloc _ _ wr.heap.size (by simp)).trans (World.alloc_heap_new wr _));have cv1:w1.cell? ⟨b,off+r*2+1,none⟩=some (.int .i64 v):=(hBB1.cell (p:=⟨b,off+r*2+1,none⟩) hbw).trans cv;have cR1:w1.cell? ⟨R,0,none⟩=some (.slice (some ⟨gz,0,none⟩) M cz):=(hBB1.cell (p:=⟨R,0,none⟩) hRlt).trans cR)
           | (refine step_append_lies _ (by rfl) _ _ _ (by rfl) wr.heap.size 235 i0 _ 3 24 Tryz.underlying103 hi0 hz0 hz1 hz2 rfl (by omega) (.slice (some ⟨g1,0,none⟩) M cap1) M (krow (L++addTo t ws j)) (by rfl) (hown1.alloc _) ⟨w1.heap.size,0,none⟩ 1 1 [.int .i64 (j:Int),.int .i64 t,.int .i64 v] (by rfl) (by rfl) (World.news_of_block (cs:=#[.int .i64 (j:Int),.int .i64 t,.int .i64 v]) (t:=235) (fr:=(0,0)) (heap_alloc_new w1 _)) (by simp [Value.oneCell']) (by omega) (by unfold maxLen;omega) (by omega) (by have:=hBB1.size;simp<;>omega) (w1.heap.size+1) (by simp) ?_;intro g2 cap2 w2 hown2 hgrow2 hat2 hlt2;have hBB2:Below wr.heap.size wr w2:=(hBB1.alloc hBB1.size _).grown hgrow2 (by have:=hBB1.size;simp<;>omega) (fun k e=>(hown1.lt k e).1);have fR2:w2.frozen? ⟨R,0,none⟩=false:=(hBB2.frozen (p:=⟨R,0,none⟩) hRlt).trans fR;have cR2:w2.cell? ⟨R,0,none⟩=some (.slice (some ⟨gz,0,none⟩) M cz):=(hBB2.cell (p:=⟨R,0,none⟩) hRlt).trans cR)
           | (refine step_append_lies _ (by rfl) _ _ _ (by rfl) wr.heap.size 235 i0 _ 3 24 Tryz.underlying103 hi0 hz0 hz1 hz2 rfl (by omega) (.slice (some ⟨g1,0,none⟩) M cap1) M (krow (L++addTo t ws j)) (by rfl) hown1 ⟨_,0,none⟩ 1 1 [.int .i64 (j:Int),.int .i64 t,.int .i64 v] (by rfl) (by rfl) (World.news_of_block (cs:=#[.int .i64 (j:Int),.int .i64 t,.int .i64 v]) (t:=235) (fr:=(0,0)) hsrc) (by simp [Value.oneCell']) (by omega) (by unfold maxLen;omega) (by omega) hBB1.size w1.heap.size rfl ?_;intro g2 cap2 w2 hown2 hgrow2 hat2 hlt2;have hBB2:Below wr.heap.size wr w2:=hBB1.grown hgrow2 hBB1.size (fun k e=>(hown1.lt k e).1);have fR2:w2.frozen? ⟨R,0,none⟩=false:=(hBB2.frozen (p:=⟨R,0,none⟩) hRlt).trans fR;have cR2:w2.cell? ⟨R,0,none⟩=some (.slice (some ⟨gz,0,none⟩) M cz):=(hBB2.cell (p:=⟨R,0,none⟩) hRlt).trans cR))
         all_goals
          have HF:=hid (ref_put hRy.out (show base≤wr.heap.size by omega) HML.out hown2 hBB2)
          clear hown2 hgrow2 hat2 hBB2 fR2 cR2 hown1 hgrow1 hat1 hBB1 cv1 cR1 cR fR cv ca hk1
          go_wp2
          go_roundw
          case rel =>
           refine⟨j+1,.slice (some ⟨g2,0,none⟩) (M+1) cap2,by omega,by go_num,?_,?_,?_,?_⟩
           ·rw [hst.out,← List.append_assoc];exact HF.out.1
           ·exact (HF.out.2.1.block w.heap.size (by omega) (by omega)).trans ((hBz.block w.heap.size hxl).trans HX.out)
           ·exact hK.trans ((KeptS.of_below hBz).trans HF.out.2.1)
           ·intro g e
            right
            have:=HF.out.2.2 g e
            omega
          case measure=>simp [intOf];omega
       ·have hst:Hid (addTo t ws (j+1)=addTo t ws j):=by show _=_;rw [addTo,HQ.out,if_neg hq0,List.append_nil]
        go_wp2
        go_roundw
        case rel=>exact⟨j+1,lz,by omega,by go_num,by rw [hst.out];exact hRz.out.below hBz,(hBz.block w.heap.size hxl).trans HX.out,hK.trans (KeptS.of_below hBz),HLZ.out⟩
        case measure=>simp [intOf];omega
    ·have hj10:j=10:=by omega
     subst hj10
     have cL:=hRz.out.c1
     have fL:=frozen_of_row wr R 1 _ P.tt hRz.out.blk
     have hRlt:=hRz.out.lt
     have hxne:w.heap.size≠R:=by omega
     go_wp2_with fail
     refine (bareF_any 0 _).mono ?_
     rintro e w3 ⟨rfl,hB3⟩
     have hs3:=hB3.size
     simp only [World.size_setCell] at hs3
     have hx3:w3.heap[w.heap.size]?=some (.cells #[.int .i64 0,.int .i64 0] 26 (0,0)):=(hB3.block w.heap.size (by simpa using hxl)).trans ((heap_setCell_other _ _ _ _ hxne).trans HX.out)
     have f0:=frozen_of_row w3 w.heap.size 0 _ 26 hx3
     have f1:=frozen_of_row w3 w.heap.size 1 _ 26 hx3
     have g0:((w3.setCell ⟨w.heap.size,0,none⟩ (.int .i64 0)).setCell ⟨w.heap.size,1,none⟩ (.int .i64 (-1))).cell? ⟨w.heap.size,0,none⟩=some (.int .i64 0):=(cell_of_row _ _ 0 _ 26 (0,0) (two_set hx3 0 (-1))).trans rfl
     have g1:((w3.setCell ⟨w.heap.size,0,none⟩ (.int .i64 0)).setCell ⟨w.heap.size,1,none⟩ (.int .i64 (-1))).cell? ⟨w.heap.size,1,none⟩=some (.int .i64 (-1)):=(cell_of_row _ _ 1 _ 26 (0,0) (two_set hx3 0 (-1))).trans rfl
     have hgne:∀ g,lz.ownBlock=some g→g≠w.heap.size:=by
      rintro g e rfl
      rcases hRz.out.own.2 with ⟨e0,_⟩ | ⟨g',cap,cur,e1,_,hg,_⟩
      ·rw [e0] at e;simp [Value.ownBlock] at e
      ·rw [e1] at e
       simp only [Value.ownBlock,Option.some.injEq] at e
       rw [e,HX.out] at hg
       simp at hg
     have c0:w3.cell? ⟨w.heap.size,0,none⟩=some (.int .i64 0):=(cell_of_row _ _ 0 _ 26 (0,0) hx3).trans rfl
     have c1:w3.cell? ⟨w.heap.size,1,none⟩=some (.int .i64 0):=(cell_of_row _ _ 1 _ 26 (0,0) hx3).trans rfl
     have G0:=hid g0
     have G1:=hid g1
     clear g0 g1
     have HG:=hid hgne
     have HX3:=hid hx3
     clear hx3 hgne
     go_wp2
     refine bodyPost_ret (v:=.agg #[.int .i64 0,.int .i64 (-1)]) (by simp [results,Tryz.results75,go_sem,G0.out,G1.out]) rfl ⟨rfl,lz,?_,?_,HLZ.out⟩
     ·have hRn:R≠w.heap.size:=fun e=>hxne e.symm
      refine⟨(heap_setCell_other _ _ _ _ hRn).trans ((heap_setCell_other _ _ _ _ hRn).trans ((hB3.block R (by simpa using hRlt)).trans ((heap_setCell_same wr R 1 _ P.tt _ hRz.out.blk).trans (by simp [fcells])))),owns_same hRz.out.own (fun g e=>?_),hRz.out.nl,hRz.out.rb⟩
      have hgl:=hRz.out.own.lt g e
      have hgR:g≠R:=by have:=hRz.out.rb;omega
      exact (heap_setCell_other _ _ _ _ (HG.out g e)).trans ((heap_setCell_other _ _ _ _ (HG.out g e)).trans ((hB3.block g (by simpa using hgl.2)).trans (heap_setCell_other _ _ _ _ hgR)))
     ·have hKs:=hK.size
      refine⟨hB3.os.trans hK.os,hB3.tape.trans hK.tape,hB3.output.trans hK.output,by simp;omega,fun b' hb' hne=>?_⟩
      have hbn:b'≠w.heap.size:=by omega
      exact (heap_setCell_other _ _ _ _ hbn).trans ((heap_setCell_other _ _ _ _ hbn).trans ((hB3.block b' (by simp;omega)).trans ((heap_setCell_other _ _ _ _ hne).trans (hK.block b' hb' hne))))
end Go.Proofs.YtjefgmeejhakbaaGreatDoor
