/- (*Table).Drop. -/
import Derived.Test.YtjefgmeejhakbabGreatDoorMgAH
namespace Go.Proofs.YtjefgmeejhakbabGreatDoor
open Go.RowKit
variable {C:Emb}
theorem leaveT (s N:Nat) (M:LkM) (T:Tab) (tx:Int) (w:World) (hT:TabAt C w s N M T) (hG:Tidy0 T) (hx:I64 tx) (hN:N≤100000) :
  Calls Tryz.prog 336 #[.pointer (some ⟨s,C.o,none⟩),.int .i64 tx] w fun e w'=>e=.returned (.tuple #[])∧∃ M',TabAt C w' s (N+1) M' (midT T tx 0)∧KeptO (M.own s) (M'.own s) w w':=by
 obtain⟨h,wa,ln,r,R⟩:=hT
 have hc:=waits_cases T tx
 cases hw:wa tx with
 | none =>
  refine (leave_none s N M h wa ln tx w r hx hw).mono ?_
  rintro e w' ⟨rfl,hB⟩
  have e1:=(R.wa tx).2.1 hw
  refine⟨rfl,M,⟨h,wa,ln,(r.below hB).mono (Nat.le_succ _),?_⟩,KeptO.of_below hB⟩
  rw [mid_none hG e1]
  exact R
 | some k =>
  have e1:waitsP T tx=k:=by have:=(R.wa tx).1;rw [hw] at this;exact this.symm
  have hk:0≤k:=by
   rcases hc with e | e
   ·have:=(R.wa tx).2.2 e;rw [hw] at this;cases this
   ·omega
  have hm:tx∈(T k).tail:=by rw [← e1];exact mem_of_waits (by omega)
  refine (leave_some s N M h wa ln tx k w r hx (by have:=hG.key hm;unfold I64;omega) hw (by rw [R.ln k];intro e;rw [e] at hm;simp at hm) hN).mono ?_
  rintro e w' ⟨rfl,M',hM,hK⟩
  exact⟨rfl,M',⟨_,_,_,hM,R.leave hG e1 hk⟩,hK⟩
theorem kept_row {w w':World} {base:Nat} {o o':Nat→Prop} {e:TypeId} {size n:Nat} {v:Value} {xs:List Value} (ho:w.ownsRow base e size v n xs) (hK:KeptO o o' w w') (hn:∀ g,v.ownBlock=some g→¬ o g):w'.ownsRow base e size v n xs :=
 owns_same ho (fun g hg=>hK.block g (ho.lt g hg).2 (hn g hg))
theorem kept_not {w w':World} {base:Nat} {o o':Nat→Prop} {e:TypeId} {size n:Nat} {v:Value} {xs:List Value} (ho:w.ownsRow base e size v n xs) (hK:KeptO o o' w w') (hn:∀ g,v.ownBlock=some g→¬ o g):∀ g,v.ownBlock=some g→¬ o' g:=by
 intro g hg h
 rcases hK.sub g h with h1 | h1
 ·exact hn g hg h1
 ·have:=(ho.lt g hg).2;omega
set_option maxRecDepth 100000 in
set_option maxHeartbeats 8000000 in
theorem drop_any (s N:Nat) (M:LkM) (T:Tab) (tx:Int) (w:World) (hT:TabAt C w s N M T) (hG:Good T) (hx:I64 tx) (hN:N≤50000) :
  Calls Tryz.prog 287 #[.pointer (some ⟨s,C.o,none⟩),.int .i64 tx] w fun e w'=>∃ v,e=.returned v∧w'.ownsRow w.heap.size 122 2 v (outP T tx).length (vrow (outP T tx)) ∧
   ∃ M',TabAt C w' s (N+21) M' (dropP T tx)∧KeptO (M.own s) (M'.own s) w w'∧∀ g,v.ownBlock=some g→¬ M'.own s g:=by
 obtain⟨i0,hi0,hz0,hz1,hz2⟩:=info_parts info122
 have HT:=hid hT
 have HG:=hid hG
 clear hT hG
 go_enter Tryz.func287,Tryz.ntmps287
 go_wp2_with fail
 refine (leaveT s N M T tx _ HT.out HG.out.tidy hx (by omega)).mono ?_
 rintro e w1 ⟨rfl,M1,hT1,hK1⟩
 have HT1:=hid hT1
 have HK1:=hid hK1
 clear hT1 hK1
 go_wp2
 go_loopw [5,14] (fun nx i wr=>∃ (j:Nat) (M':LkM),j≤10∧i=.int .i64 j∧Hid (TabAt C wr s (N+1+2*j) M' (midT T tx j))∧Hid (wr.ownsRow w.heap.size 122 2 nx (outTo T tx j).length (vrow (outTo T tx j)))∧Hid (KeptO (M.own s) (M'.own s) w wr)∧Hid (∀ g,nx.ownBlock=some g→¬ M'.own s g)) (fun _ i _=>10-(intOf i).toNat)
 case atStart=>exact⟨0,M1,by omega,rfl,HT1,World.ownsRow_nil _ _ _ _,HK1,fun g hg=>by cases hg⟩
 case round =>
  clear HT1 HK1
  obtain⟨j,M',hj,rfl,HTj,HO,HK,HNO⟩:=hrel
  obtain⟨wa,rfl⟩:∃ wa,wa=wr:=⟨wr,rfl⟩
  by_cases hlt:j<10
  ·have hj0:(0:Int)≤(j:Int):=by omega
   have hj1:(j:Int)<10:=by omega
   have hj64:I64 (j:Int):=by unfold I64;omega
   obtain⟨h,wt,ln,r,R⟩:=HTj.out
   have c0:=r.c0
   have hl:=r.lookH2 hj64
   have HR:=hid r
   have HP:=hid R
   clear r R
   by_cases hh:holdsP T j=tx∧T j≠[]
   ·obtain⟨l,hTj⟩:∃ l,T j=tx::l:=by
     obtain⟨h1,h2⟩:=hh
     cases hT:T j with
     | nil=>exact (h2 hT).elim
     | cons a l=>exact⟨l,by simp [holdsP,hT] at h1;rw [h1]⟩
    obtain⟨hm1,hm2⟩:=mid_hit HG.out.tidy hTj
    have hhj:h j=some tx:=by rw [HP.out.h j,hm1];rfl
    rw [hhj] at hl
    simp only [Option.getD_some,Option.isSome_some] at hl
    obtain⟨b,hmb,hIb⟩:=HR.out.mh.imap (a:=(j:Int)) (by rw [hhj];simp)
    rw [hmb] at c0 hl
    obtain⟨w2,hrun,hI2,hg2⟩:=hIb.del Tryz.underlying131 hj64 0
    obtain⟨r2,k2⟩:=HR.out.turnH (h':=updT h j none) hmb (Nat.le_refl _) (by rw [updT_map];exact hI2) hg2
    have c2:=r2.c2
    have hl2:=r2.lookL hj64
    have HR2:=hid r2
    have HK2:=hid k2
    have hlnj:ln j=l:=by rw [HP.out.ln j,hm1];rfl
    clear hI2 hg2 hIb r2 k2 hh hhj
    have e0:(tx != tx)=false:=by simp
    cases l with
    | nil =>
     rw [HR2.out.ln0 j hlnj] at hl2
     simp only [Option.getD_none] at hl2
     have HF:=hid (HP.out.empty hm1)
     have HE:=hid (And.intro hm2 (show outTo T tx (j+1)=outTo T tx j by rw [outTo_step T tx hlt,outOf_none hTj,List.append_nil]))
     clear hm1 hm2 hTj hmb hlnj
     go_wp2_with (at_delete;refine wpList_del (by rfl) _ _ _ _ (by rfl) _ _ (by rfl) (by rfl) hrun ?_)
     go_roundw
     case rel =>
      refine⟨j+1,M',by omega,by go_num,?_,?_,HK.out.trans HK2.out,kept_not HO.out HK2.out HNO.out⟩
      ·show TabAt C _ _ _ _ _
       rw [show ((j+1:Nat):Int)=(j:Int)+1 by omega,HE.out.1]
       exact⟨_,_,_,HR2.out.mono (by omega),HF.out⟩
      ·show World.ownsRow _ _ _ _ _ _ _
       rw [HE.out.2]
       exact kept_row HO.out HK2.out HNO.out
     case measure=>simp [intOf];omega
    | cons f l' =>
     obtain⟨v0,hv0,ho0⟩:=HR2.out.ln1 j (by rw [hlnj];simp)
     rw [hv0] at hl2
     simp only [Option.getD_some] at hl2
     rw [hlnj] at ho0
     rcases row_slice ho0 with ⟨_,e1⟩ | ⟨g,cap,rfl,hgl,hcg⟩
     ·simp at e1
     have cf:w2.cell? ⟨g,0,none⟩=some (.int .i64 f):=hcg 0 _ (intsV_get rfl)
     have hln1:(0:Int)<(((f::l').length:Nat):Int):=by simp only [List.length_cons];omega
     have HL:=hid hlnj
     have hfm:f∈(midT T tx j j).tail:=by rw [hm1];simp
     have hGm:=(HG.out.mid tx j).tidy
     have hwf:=waits_of_mem hGm hfm
     have hwtf:wt f=some (j:Int):=by
      have h1:=HP.out.wa f
      rw [hwf] at h1
      cases hq:wt f with
      | none=>have:=h1.2.1 hq;omega
      | some y=>rw [hq] at h1;simp only [Option.getD_some] at h1;rw [h1.1]
     have hf64:I64 f:=by have:=hGm.pos j f (List.mem_of_mem_tail hfm);unfold I64;omega
     have HF:=hid (HP.out.next hGm hm1)
     have HE:=hid (And.intro hm2 (show outTo T tx (j+1)=outTo T tx j++[((j:Int),f)] by rw [outTo_step T tx hlt,outOf_next HG.out.tidy hTj]))
     have HW:=hid hwtf
     obtain⟨n1,hn1⟩:∃ n1,(f::l').length=n1:=⟨_,rfl⟩
     rw [hn1] at hl2 hln1
     clear hm1 hm2 hTj hmb hlnj hv0 ho0 hcg hfm hwf hwtf hn1
     go_wp2_with (at_delete;refine wpList_del (by rfl) _ _ _ _ (by rfl) _ _ (by rfl) (by rfl) hrun ?_)
     refine (leave_some s _ M' _ _ _ f j _ HR2.out hf64 hj64 HW.out (by rw [HL.out];simp) (by omega)).mono ?_
     rintro e w3 ⟨rfl,M3,hR3,hK3⟩
     have HR3:=hid hR3
     have HK3:=hid hK3
     clear hR3 hK3
     go_wp2_with fail
     refine (hold_any s _ M3 _ _ _ f j _ HR3.out hj64 (by omega)).mono ?_
     rintro e w4 ⟨rfl,M4,hR4,hK4⟩
     have HR4:=hid hR4
     have HK4:=hid hK4
     have HO4:=hid (kept_row (kept_row (kept_row HO.out HK2.out HNO.out) HK3.out (kept_not HO.out HK2.out HNO.out)) hK4 (kept_not (kept_row HO.out HK2.out HNO.out) HK3.out (kept_not HO.out HK2.out HNO.out)))
     have HNO4:=hid (kept_not (kept_row (kept_row HO.out HK2.out HNO.out) HK3.out (kept_not HO.out HK2.out HNO.out)) hK4 (kept_not (kept_row HO.out HK2.out HNO.out) HK3.out (kept_not HO.out HK2.out HNO.out)))
     have HKA:=hid (HK.out.trans (HK2.out.trans (HK3.out.trans hK4)))
     have hsz4:=HKA.out.size
     clear hR4 hK4 HK2 HK3 HK4 HO HNO HK HR3 HR2
     have hol:=outTo_length T tx j hj
     obtain⟨L,hL⟩:∃ L,outTo T tx j=L:=⟨_,rfl⟩
     rw [hL] at HO4 hol
     have HLL:=hid hL
     clear hL
     go_wp2_with (at_builtin;refine wpList_append_lies _ rfl _ _ _ rfl w.heap.size 122 i0 _ 2 16 Tryz.underlying120 hi0 hz0 hz1 hz2 rfl (by omega) _ L.length (vrow L) rfl (HO4.out.alloc _) ⟨w4.heap.size,0,none⟩ 1 1 [.int .i64 (j:Int),.int .i64 f] rfl rfl (World.news_of_block (cs:=#[.int .i64 (j:Int),.int .i64 f]) (t:=122) (fr:=(0,0)) (heap_alloc_new w4 _)) (by simp [Value.oneCell']) (by omega) (by unfold maxLen;omega) (by omega) (by simp;omega) (w4.heap.size+1) (by simp) ?_;intro g5 cap5 w5 ho5 hgrow5 hat5 hlt5)
     go_roundw
     case rel =>
      have hsame:∀ b,b<w4.heap.size→u5.ownBlock≠some b→w5.heap[b]?=w4.heap[b]?:=fun b hb hne =>
       (hgrow5.block b (by simp;omega) (fun e=>hne e.symm)).trans (Below.heap_alloc _ _ b hb)
      have hlow:∀ b,u5.ownBlock=some b→w.heap.size≤b:=fun b hb=>(HO4.out.lt b hb).1
      have hsz5:=hgrow5.size
      simp only [World.size_alloc] at hsz5
      refine⟨j+1,M4,by omega,by go_num,?_,?_,?_,?_⟩
      ·show TabAt C _ _ _ _ _
       rw [show ((j+1:Nat):Int)=(j:Int)+1 by omega,HE.out.1]
       exact⟨_,_,_,(HR4.out.same (fun b hb=>hsame b (HR4.out.own_lt hb) (fun e=>HNO4.out b e hb))).mono (by omega),HF.out⟩
      ·show World.ownsRow _ _ _ _ _ _ _
       rw [HE.out.2,HLL.out,vrow_append,List.length_append]
       exact ho5
      ·exact⟨hgrow5.os.trans HKA.out.os,hgrow5.tape.trans HKA.out.tape,hgrow5.output.trans HKA.out.output,by omega,fun b hb hn=>(hsame b (by omega) (fun e=>by have:=hlow b e;omega)).trans (HKA.out.block b hb hn),HKA.out.sub⟩
      ·intro g' hg' hown
       injection hg' with hg'
       subst hg'
       rcases hat5 with e | e
       ·exact HNO4.out _ e hown
       ·have:=HR4.out.own_lt hown;simp at this;omega
     case measure=>simp [intOf];omega
   ·have hsk:holdsP T j≠tx∨T j=[]:=by
     by_cases e:T j=[]
     ·exact .inr e
     ·exact .inl (fun e2=>hh ⟨e2,e⟩)
    have e1:=mid_skip (tx:=tx) hsk
    have e2:outTo T tx (j+1)=outTo T tx j:=by rw [outTo_step T tx hlt,outOf_skip hsk,List.append_nil]
    have HE:=hid (And.intro e1 e2)
    clear e1 e2 hh
    cases hhj:h j with
    | none =>
     rw [hhj] at hl
     simp only [Option.getD_none,Option.isSome_none] at hl
     clear hhj
     go_wp2
     go_roundw
     case rel=>exact⟨j+1,M',by omega,by go_num,by show TabAt C _ _ _ _ _;rw [show ((j+1:Nat):Int)=(j:Int)+1 by omega,HE.out.1];exact HTj.out.mono (by omega),by show World.ownsRow _ _ _ _ _ _ _;rw [HE.out.2];exact HO.out,HK,HNO⟩
     case measure=>simp [intOf];omega
    | some y =>
     rw [hhj] at hl
     simp only [Option.getD_some,Option.isSome_some] at hl
     have hy:(y != tx)=true:=by
      have e1:midT T tx j j=(T j).filter (fun x=>x != tx):=by
       unfold midT
       rcases hsk with hs | hs
       ·rw [if_pos (.inr hs)]
       ·rw [hs];simp
      have e2:=HP.out.h j
      rw [e1,hhj] at e2
      have:=List.mem_of_mem_head? e2.symm
      exact (List.mem_filter.1 this).2
     clear hhj hsk
     go_wp2
     go_roundw
     case rel=>exact⟨j+1,M',by omega,by go_num,by show TabAt C _ _ _ _ _;rw [show ((j+1:Nat):Int)=(j:Int)+1 by omega,HE.out.1];exact HTj.out.mono (by omega),by show World.ownsRow _ _ _ _ _ _ _;rw [HE.out.2];exact HO.out,HK,HNO⟩
     case measure=>simp [intOf];omega
  ·have hj10:j=10:=by omega
   subst hj10
   have HE:=hid (midT_end HG.out.tidy tx)
   go_wp2
   go_ret
   refine⟨_,rfl,HO.out,M',?_,HK.out,HNO.out⟩
   rw [← HE.out]
   exact HTj.out
end Go.Proofs.YtjefgmeejhakbabGreatDoor
