/- (*interleafref.Table).Drop. -/
import Derived.Test.YtjefgmeejhakbaaGreatDoorMgAK
namespace Go.Proofs.YtjefgmeejhakbaaGreatDoor
open Go.RowKit
variable {F:FEmb}
theorem RTab.set {w1:World} {base r:Nat} {vs:List Value} {T:Tab} {k:Nat} {v:Value} {l:List Int} (h:RTab F w1 base r vs T) (hk:k<10)
  (ho:w1.ownsRow base 3 1 v l.length (intsV l)) (hn:l=[]→v=.slice none 0 0):RTab F (w1.setCell ⟨r,2+k,none⟩ v) base r (vs.set k v) (updT T k l):=by
 have hbb:∀ b,b≠r→(w1.setCell ⟨r,2+k,none⟩ v).heap[b]?=w1.heap[b]?:=fun b hb=>heap_setCell_other w1 ⟨r,2+k,none⟩ b v hb
 have hrb:=h.rb
 refine⟨?_,by simp [h.lv],fun j u hu=>?_,fun j u hu hj=>?_,h.rb⟩
 ·refine (heap_setCell_same w1 r (2+k) _ F.tt v h.blk).trans ?_
  rw [F.setk (by rw [h.lv];exact hk)]
 ·by_cases e:j=k
  ·subst e
   rw [updT_same]
   rw [List.getElem?_set_self (by rw [h.lv];exact hk)] at hu
   cases hu
   exact owns_same ho (fun g hg=>hbb g (by have:=(ho.lt g hg).1;omega))
  ·rw [updT_other _ _ (by omega)]
   rw [List.getElem?_set_ne (fun e2=>e e2.symm)] at hu
   have hou:=h.own j u hu
   exact owns_same hou (fun g hg=>hbb g (by have:=(hou.lt g hg).1;omega))
 ·by_cases e:j=k
  ·subst e
   rw [updT_same] at hj
   rw [List.getElem?_set_self (by rw [h.lv];exact hk)] at hu
   cases hu
   exact hn hj
  ·rw [updT_other _ _ (by omega)] at hj
   rw [List.getElem?_set_ne (fun e2=>e e2.symm)] at hu
   exact h.nl j u hu hj
def stepR (T:Tab) (tx:Int) (k:Nat):Tab:=fun j=>if j<(k:Int) then dropP T tx j else T j
theorem stepR_zero {T:Tab} (hT:Tidy0 T) (tx:Int):stepR T tx 0=T:=by
 funext j
 unfold stepR
 split
 ·rename_i h
  have:T j=[]:=by
   by_cases e:T j=[]
   ·exact e
   ·have:=hT.rng j e;omega
  rw [dropP,this];rfl
 ·rfl
theorem stepR_next (T:Tab) (tx:Int) (k:Nat):stepR T tx (k+1)=updT (stepR T tx k) k (dropP T tx k):=by
 funext j
 by_cases e:j=k
 ·subst e
  rw [updT_same]
  unfold stepR
  rw [if_pos (by omega)]
 ·rw [updT_other _ _ e]
  unfold stepR
  by_cases h:j<(k:Int)
  ·rw [if_pos h,if_pos (by omega)]
  ·rw [if_neg h,if_neg (by omega)]
theorem stepR_end {T:Tab} (hT:Tidy0 T) (tx:Int):stepR T tx 10=dropP T tx:=by
 funext j
 unfold stepR
 by_cases h:j<((10:Nat):Int)
 ·rw [if_pos h]
 ·rw [if_neg h]
  have:T j=[]:=by
   by_cases e:T j=[]
   ·exact e
   ·have:=hT.rng j e;omega
  rw [dropP,this];rfl
theorem rows_apart {w:World} {b1 b2 e1 e2 s1 s2 n1 n2:Nat} {v1 v2:Value} {x1 x2:List Value} (h1:w.ownsRow b1 e1 s1 v1 n1 x1) (h2:w.ownsRow b2 e2 s2 v2 n2 x2) (hne:e1≠e2) {g:Nat} (hg:v1.ownBlock=some g):v2.ownBlock≠some g:=by
 intro hg2
 rcases h1.2 with ⟨e,_⟩ | ⟨g1,_,_,e,_,hc1,_⟩
 ·rw [e] at hg;cases hg
 ·rcases h2.2 with ⟨e',_⟩ | ⟨g2,_,_,e',_,hc2,_⟩
  ·rw [e'] at hg2;cases hg2
  ·rw [e] at hg
   rw [e'] at hg2
   cases hg
   cases hg2
   rw [hc1] at hc2
   injection hc2 with hc2
   injection hc2 with _ hc2
   exact hne hc2
theorem RTab.apart {w:World} {base r b2 s2 n2:Nat} {vs:List Value} {T:Tab} {v2:Value} {x2:List Value} (h:RTab F w base r vs T) (h2:w.ownsRow b2 78 s2 v2 n2 x2) {g:Nat} (hg:ROwn r vs g):v2.ownBlock≠some g:=by
 rcases hg with rfl | ⟨v,hv,hg⟩
 ·intro e
  rcases h2.2 with ⟨e',_⟩ | ⟨g2,_,_,e',_,hc2,_⟩
  ·rw [e'] at e;cases e
  ·rw [e'] at e
   cases e
   have:=h.blk
   rw [hc2] at this
   injection this with this
   injection this with _ this
   exact F.ne this.symm
 ·obtain⟨k,hk,rfl⟩:=List.mem_iff_getElem.1 hv
  exact rows_apart (h.own k _ (List.getElem?_eq_getElem hk)) h2 (by decide) hg
theorem filter_take_succ (l:List Int) (i:Nat) (x tx:Int) (h:l[i]?=some x):(l.take (i+1)).filter (fun y=>y != tx)=(l.take i).filter (fun y=>y != tx)++(if x != tx then [x] else []):=by
 rw [List.take_add_one,h,List.filter_append]
 simp only [Option.toList_some,List.filter_cons,List.filter_nil]
structure RMid (F:FEmb) (w:World) (base r:Nat) (vs:List Value) (T:Tab) (tx:Int) (k:Nat) (vk:List Value) (nx:Value) (wr:World):Prop where
 tab:RTab F wr base r vk (stepR T tx k)
 row:wr.ownsRow w.heap.size 78 2 nx (outTo T tx k).length (vrow (outTo T tx k))
 kept:KeptR r vs vk w wr
theorem RMid.skip {w wr wz:World} {base r k:Nat} {vs vk:List Value} {T:Tab} {tx:Int} {nx lf:Value} (h:RMid F w base r vs T tx k vk nx wr) (hk:k<10) (hbase:base≤wr.heap.size) (hB:Below wr.heap.size wr wz)
  (ho:wz.ownsRow wr.heap.size 3 1 lf (dropP T tx k).length (intsV (dropP T tx k))) (hn:dropP T tx k=[]→lf=.slice none 0 0) (hout:outOf T tx k=[]) :
  RMid F w base r vs T tx (k+1) (vk.set k lf) nx (wz.setCell ⟨r,2+k,none⟩ lf):=by
 have ht:=h.tab.below hB
 have hr:=h.tab.lt
 refine⟨?_,?_,?_⟩
 ·rw [stepR_next]
  exact ht.set hk (owns_base ho hbase) hn
 ·rw [outTo_step T tx hk,hout,List.append_nil]
  have hrow:=owns_same h.row (fun g hg=>hB.block g (h.row.lt g hg).2)
  exact owns_same hrow (fun g hg=>heap_setCell_other wz ⟨r,2+k,none⟩ g lf (fun e=>ht.apart hrow (.inl rfl) (by rw [hg,e])))
 ·refine⟨hB.os.trans h.kept.os,hB.tape.trans h.kept.tape,hB.output.trans h.kept.output,by have:=h.kept.size;have:=hB.size;simp;omega,fun b hb hne=>?_,fun g hg=>?_⟩
  ·exact (heap_setCell_other wz ⟨r,2+k,none⟩ b lf hne).trans ((hB.block b (by have:=h.kept.size;omega)).trans (h.kept.block b hb hne))
  ·rcases hg with e | ⟨u,hu,hgu⟩
   ·exact .inl (.inl e)
   ·rcases List.mem_or_eq_of_mem_set hu with hu | rfl
    ·exact h.kept.sub g (.inr ⟨u,hu,hgu⟩)
    ·right;have:=(ho.lt g hgu).1;have:=h.kept.size;omega
theorem RMid.add {w wr wz w5' w5:World} {base r k:Nat} {vs vk:List Value} {T:Tab} {tx:Int} {nx nx' lf:Value} {p:Int × Int} (h:RMid F w base r vs T tx k vk nx wr) (hk:k<10) (hbase:base≤wr.heap.size) (hB:Below wr.heap.size wr wz)
  (ho:wz.ownsRow wr.heap.size 3 1 lf (dropP T tx k).length (intsV (dropP T tx k))) (hn:dropP T tx k=[]→lf=.slice none 0 0) (hout:outOf T tx k=[p])
  (hB5:Below wz.heap.size wz w5') (hg:w5'.grownBy w5 nx.ownBlock) (ho5:w5.ownsRow w.heap.size 78 2 nx' ((outTo T tx k).length+1) (vrow (outTo T tx k)++vrow [p])) :
  RMid F w base r vs T tx (k+1) (vk.set k lf) nx' (w5.setCell ⟨r,2+k,none⟩ lf):=by
 have ht:=h.tab.below hB
 have hrow:=owns_same h.row (fun g hg=>hB.block g (h.row.lt g hg).2)
 have hs1:=h.kept.size
 have hs2:=hB.size
 have hs3:=hB5.size
 have hs4:=hg.size
 have hsame:∀ b,b<wz.heap.size→nx.ownBlock≠some b→w5.heap[b]?=wz.heap[b]?:=fun b hb hne=>(hg.block b (by omega) (fun e=>hne e.symm)).trans (hB5.block b hb)
 have ht5:=ht.same (w':=w5) (fun b hb=>hsame b (ht.own_lt hb) (ht.apart hrow hb))
 have ho':=owns_same (w':=w5) ho (fun g hgv=>hsame g (ho.lt g hgv).2 (rows_apart ho hrow (by decide) hgv))
 refine⟨?_,?_,?_⟩
 ·rw [stepR_next]
  exact ht5.set hk (owns_base ho' hbase) hn
 ·rw [outTo_step T tx hk,hout,vrow_append,List.length_append]
  exact owns_same ho5 (fun g hgv=>heap_setCell_other w5 ⟨r,2+k,none⟩ g lf (fun e=>ht5.apart ho5 (.inl rfl) (by rw [hgv,e])))
 ·refine⟨hg.os.trans (hB5.os.trans (hB.os.trans h.kept.os)),hg.tape.trans (hB5.tape.trans (hB.tape.trans h.kept.tape)),hg.output.trans (hB5.output.trans (hB.output.trans h.kept.output)),by simp;omega,fun b hb hne=>?_,fun g hgo=>?_⟩
  ·refine (heap_setCell_other w5 ⟨r,2+k,none⟩ b lf hne).trans ((hsame b (by omega) (fun e=>?_)).trans ((hB.block b (by omega)).trans (h.kept.block b hb hne)))
   have:=(hrow.lt b e).1
   omega
  ·rcases hgo with e | ⟨u,hu,hgu⟩
   ·exact .inl (.inl e)
   ·rcases List.mem_or_eq_of_mem_set hu with hu | rfl
    ·exact h.kept.sub g (.inr ⟨u,hu,hgu⟩)
    ·right;have:=(ho.lt g hgu).1;omega
set_option maxRecDepth 100000 in
set_option maxHeartbeats 8000000 in
theorem rdrop_any (base r:Nat) (vs:List Value) (T:Tab) (tx:Int) (w:World) (h:RTab F w base r vs T) (hT:Tidy0 T) (hbase:base≤w.heap.size) (hlen:∀ k,(T k).length≤100000) :
  Calls Tryz.prog 198 #[.pointer (some ⟨r,2,none⟩),.int .i64 tx] w fun e w'=>∃ v,e=.returned v∧w'.ownsRow w.heap.size 78 2 v (outP T tx).length (vrow (outP T tx))∧∃ vs',RTab F w' base r vs' (dropP T tx)∧KeptR r vs vs' w w':=by
 obtain⟨i0,hi0,hz0,hz1,hz2⟩:=info_parts info3
 obtain⟨i1,hi1,hy0,hy1,hy2⟩:=info_parts info78
 have hld:w.rangeAt r 2 vs:=fun j v hv=>h.cell hv
 have hin:(Tryz.prog.info? 108).map (·.size)=some vs.length:=by rw [rinfo108,h.lv]
 have HT:=hid hT
 have HR:=hid h
 have HL:=hid hlen
 have hr:=h.lt
 clear h hT hlen
 go_enter Tryz.func198,Tryz.ntmps198
 go_wp2_with (refine wpList_load_mid (by rfl) 108 _ (by rfl) r 2 (by rfl) vs (.array 10 29) hld Tryz.underlying108 rfl hin ?_)
 clear hld hin
 go_loopw [5,15] (fun nx i wr=>∃ (k:Nat) (vk:List Value),k≤10∧i=.int .i64 k∧Hid (RMid F w base r vs T tx k vk nx wr)) (fun _ i _=>10-(intOf i).toNat)
 case atStart=>exact⟨0,vs,by omega,rfl,by rw [stepR_zero HT.out];exact HR.out,World.ownsRow_nil _ _ _ _,KeptR.refl _ _ _⟩
 case round =>
  obtain⟨k,vk,hk,rfl,HM⟩:=hrel
  obtain⟨wa,rfl⟩:∃ wa,wa=wr:=⟨wr,rfl⟩
  by_cases hlt:k<10
  ·obtain⟨v,hv,ho⟩:=HR.out.at hlt
   have hix:=run_rkey hv hlt
   have hk0:(0:Int)≤(k:Int):=by omega
   have hk1:(k:Int)<10:=by omega
   have hks:=HM.out.kept.size
   have hrow0:wa.ownsRow base 3 1 v (T k).length (intsV (T k)):=owns_same ho (fun g hg=>HM.out.kept.block g (ho.lt g hg).2 (by have:=(ho.lt g hg).1;have:=HR.out.rb;omega))
   obtain⟨ad,cap,rfl⟩:=row_form ho
   have hll:=HL.out k
   have HO:=hid hrow0
   have cr:=HM.out.tab.lt
   obtain⟨l,hl⟩:∃ l,T k=l:=⟨_,rfl⟩
   have HDP:=hid (show dropP T tx k=l.filter (fun y=>y != tx) by rw [dropP,hl])
   have HTK:=hid hl
   rw [hl] at hix hll HO
   clear hv ho hl hrow0
   go_wp2_with fail
   go_loopw [8,21] (fun lf c wz=>∃ i:Nat,i≤l.length∧c=.int .i64 i∧Hid (wz.ownsRow wa.heap.size 3 1 lf ((l.take i).filter (fun y=>y != tx)).length (intsV ((l.take i).filter (fun y=>y != tx))))∧Hid ((l.take i).filter (fun y=>y != tx)=[]→lf=.slice none 0 0)∧Below wa.heap.size wa wz) (fun _ c _=>l.length-(intOf c).toNat)
   case atStart=>exact⟨0,Nat.zero_le _,rfl,World.ownsRow_nil _ _ _ _,fun _=>rfl,Below.refl _ _⟩
   case round =>
    obtain⟨i,hi,rfl,HF,HN,hBz⟩:=hrel
    obtain⟨wz,rfl⟩:∃ wz,wz=wr:=⟨wr,rfl⟩
    have hBs:=hBz.size
    by_cases hil:i<l.length
    ·obtain⟨x,hx⟩:∃ x,l[i]?=some x:=⟨l[i],List.getElem?_eq_getElem hil⟩
     have hst:=filter_take_succ l i x tx hx
     rcases row_slice HO.out with ⟨_,e0⟩ | ⟨g,cg,eg,hgl,hcg⟩
     ·omega
     ·injection eg with e1 e2 e3
      subst e1
      subst e3
      clear e2
      have x0:=(hBz.cell (p:=⟨g,i,none⟩) hgl).trans (hcg i _ (intsV_get hx))
      have hi0':(0:Int)≤(i:Int):=by omega
      have hi1':(i:Int)<(l.length:Int):=by omega
      have hfl:((l.take i).filter (fun y=>y != tx)).length≤i:=Nat.le_trans (List.length_filter_le _ _) (List.length_take_le _ _)
      clear hcg hx
      by_cases hxt:x=tx
      ·have e5:(x != tx)=false:=by simpa using hxt
       rw [e5] at hst
       simp only [Bool.false_eq_true,if_false,List.append_nil] at hst
       have HST:=hid hst
       clear hst
       go_wp2
       go_roundw
       case rel=>exact⟨i+1,by omega,by go_num,by show World.ownsRow _ _ _ _ _ _ _;rw [HST.out];exact HF.out,by show _→_;rw [HST.out];exact HN.out,hBz⟩
       case measure=>simp [intOf];omega
      ·have e5:(x != tx)=true:=by simpa using hxt
       rw [e5] at hst
       simp only [if_true] at hst
       have HST:=hid hst
       obtain⟨F,hF⟩:∃ F,(l.take i).filter (fun y=>y != tx)=F:=⟨_,rfl⟩
       rw [hF] at HF HN HST hfl
       clear hst hF
       go_wp2_with (at_builtin;refine wpList_append_lies _ rfl _ _ _ rfl wa.heap.size 3 i0 _ 1 8 Tryz.underlying29 hi0 hz0 hz1 hz2 rfl (by omega) _ F.length (intsV F) rfl (HF.out.alloc _) ⟨wz.heap.size,0,none⟩ 1 1 [.int .i64 x] rfl rfl (World.news_of_block (cs:=#[.int .i64 x]) (t:=3) (fr:=(0,0)) (heap_alloc_new wz _)) (by simp [Value.oneCell']) (by omega) (by unfold maxLen;omega) (by omega) (by simp;omega) (wz.heap.size+1) (by simp) ?_;intro g5 cap5 w5 ho5 hgrow5 hat5 hlt5)
       go_roundw
       case rel =>
        refine⟨i+1,by omega,by go_num,?_,?_,?_⟩
        ·show World.ownsRow _ _ _ _ _ _ _
         rw [HST.out,intsV_append,List.length_append]
         exact ho5
        ·show _→_
         rw [HST.out]
         intro e
         simp at e
        ·exact (hBz.alloc hBs _).grown hgrow5 (by simp;omega) (fun b e=>(HF.out.lt b e).1)
       case measure=>simp [intOf];omega
    ·have hie:i=l.length:=by omega
     rw [hie,List.take_length] at HF HN
     rw [← HDP.out] at HF HN
     have fR:=(HM.out.tab.below hBz).free (2+k)
     obtain⟨uo,huo,_⟩:=HM.out.tab.at hlt
     have cR:=(HM.out.tab.below hBz).cell huo
     have hlpos:=HDP.out
     clear HL huo hie
     obtain⟨D,hD⟩:∃ D,dropP T tx k=D:=⟨_,rfl⟩
     have HD:=hid hD
     rw [hD] at HF HN
     obtain⟨adl,capl,rfl⟩:=row_form HF.out
     have hdl:D.length≤100000:=by
      have h1:(l.filter (fun y=>y != tx)).length≤l.length:=List.length_filter_le _ _
      rw [← hlpos,hD] at h1
      omega
     clear hlpos hD
     have HSK:=hid (fun (hout:outOf T tx k=[])=>HM.out.skip hlt (by omega) hBz (by rw [HD.out];exact HF.out) (by rw [HD.out];exact HN.out) hout)
     cases l with
     | nil =>
      have HS:=hid (HSK.out (outOf_skip (.inr HTK.out)))
      clear HSK
      go_wp2
      go_roundw
      case rel=>exact⟨k+1,_,by omega,by go_num,HS⟩
      case measure=>simp [intOf];omega
     | cons a t =>
      have hll0:(0:Int)<(((a::t).length:Nat):Int):=by simp only [List.length_cons];omega
      have hha:holdsP T k=a:=by rw [holdsP,HTK.out];rfl
      rcases row_slice HO.out with ⟨_,e0⟩ | ⟨g,cg,eg,hgl,hcg⟩
      ·simp at e0
      injection eg with e1 e2 e3
      subst e1
      subst e3
      have ca:=(hBz.cell (p:=⟨g,0,none⟩) hgl).trans (hcg 0 _ (intsV_get rfl))
      obtain⟨n1,hn1⟩:∃ n1,(a::t).length=n1:=⟨_,rfl⟩
      rw [hn1] at hll0 hix hil hi hll ⊢
      clear e2 hcg hn1
      by_cases hat:a=tx
      ·have e5:(a==tx)=true:=by simpa using hat
       by_cases hD0:D=[]
       ·have HS:=hid (HSK.out (by unfold outOf;rw [if_neg];rintro⟨_,h2⟩;exact h2 (HD.out.trans hD0)))
        have e6:¬ (0:Int)<(D.length:Int):=by rw [hD0];simp
        clear HSK hat hha hD0
        go_wp2
        go_roundw
        case rel=>exact⟨k+1,_,by omega,by go_num,HS⟩
        case measure=>simp [intOf];omega
       ·obtain⟨f,D',hDf⟩:∃ f D',D=f::D':=by
         cases D with
         | nil=>exact (hD0 rfl).elim
         | cons f D'=>exact⟨f,D',rfl⟩
        have hout:outOf T tx k=[((k:Int),f)]:=by
         unfold outOf
         rw [if_pos ⟨hha.trans hat,by rw [HD.out];exact hD0⟩]
         rw [holdsP,HD.out,hDf]
         rfl
        have e6:(0:Int)<(D.length:Int):=by rw [hDf];simp only [List.length_cons];omega
        rcases row_slice HF.out with ⟨_,e0⟩ | ⟨gf,cf,ef,hgf,hcf⟩
        ·omega
        injection ef with e7 e8 e9
        subst e7
        subst e9
        have cfF:wz.cell? ⟨gf,0,none⟩=some (.int .i64 f):=hcf 0 _ (intsV_get (by rw [hDf];rfl))
        have HOUT:=hid hout
        have HNX:=hid (owns_same (w':=wz) HM.out.row (fun b hb=>hBz.block b (HM.out.row.lt b hb).2))
        have hol:=outTo_length T tx k hk
        obtain⟨L,hL⟩:∃ L,outTo T tx k=L:=⟨_,rfl⟩
        rw [hL] at HNX hol
        have HLL:=hid hL
        have hA5:Below wz.heap.size wz (wz.alloc (.cells #[.int .i64 (k:Int),.int .i64 f] 78)):=(Below.refl _ _).alloc (Nat.le_refl _) _
        have HA5:=hid hA5
        have cRf:∀ w5,(wz.alloc (.cells #[.int .i64 (k:Int),.int .i64 f] 78)).grownBy w5 u5.ownBlock→w5.frozen? ⟨r,2+k,none⟩=false∧w5.cell? ⟨r,2+k,none⟩=some uo:=fun w5 hg=>by
         have hrz:r<wz.heap.size:=by omega
         have hap:=(HM.out.tab.below hBz).apart HNX.out (.inl rfl:ROwn r vk r)
         have hb:w5.heap[r]?=wz.heap[r]?:=(hg.block r (by simp;omega) (fun e=>hap e.symm)).trans (Below.heap_alloc _ _ r hrz)
         exact⟨(World.frozen?_of_block (a:=⟨r,2+k,none⟩) hb).trans fR,(World.cell?_of_block (a:=⟨r,2+k,none⟩) hb).trans cR⟩
        have HCR:=hid cRf
        clear HSK hat hha hD0 e8 hcf hDf hout hL hA5 cRf cR fR
        go_wp2_with (at_builtin;refine wpList_append_lies _ rfl _ _ _ rfl w.heap.size 78 i1 _ 2 16 Tryz.underlying23 hi1 hy0 hy1 hy2 rfl (by omega) _ L.length (vrow L) rfl (HNX.out.alloc _) ⟨wz.heap.size,0,none⟩ 1 1 [.int .i64 (k:Int),.int .i64 f] rfl rfl (World.news_of_block (cs:=#[.int .i64 (k:Int),.int .i64 f]) (t:=78) (fr:=(0,0)) (heap_alloc_new wz _)) (by simp [Value.oneCell']) (by omega) (by unfold maxLen;omega) (by omega) (by simp;omega) (wz.heap.size+1) (by simp) ?_;intro g5 cap5 w5 ho5 hgrow5 hat5 hlt5;obtain⟨f5,c5⟩:=HCR.out w5 hgrow5)
        go_roundw
        case rel=>exact⟨k+1,_,by omega,by go_num,HM.out.add (p:=((k:Int),f)) hlt (by omega) hBz (by rw [HD.out];exact HF.out) (by rw [HD.out];exact HN.out) HOUT.out HA5.out hgrow5 (by rw [HLL.out];exact ho5)⟩
        case measure=>simp [intOf];omega
      ·have e5:(a==tx)=false:=by simpa using hat
       have HS:=hid (HSK.out (outOf_skip (.inl (by rw [hha];exact hat))))
       clear HSK hat hha
       go_wp2
       go_roundw
       case rel=>exact⟨k+1,_,by omega,by go_num,HS⟩
       case measure=>simp [intOf];omega
  ·have hk10:k=10:=by omega
   subst hk10
   have HE:=hid (stepR_end HT.out tx)
   go_wp2
   go_ret
   refine⟨_,rfl,HM.out.row,vk,?_,HM.out.kept⟩
   rw [← HE.out]
   exact HM.out.tab
end Go.Proofs.YtjefgmeejhakbaaGreatDoor
