/- engine.those, with each of the three functions that it is asked with. -/
import Derived.Test.YtjefgmeejhakbabGreatDoorMgAD
import Derived.Deep.AppendLies
namespace Go.Proofs.YtjefgmeejhakbabGreatDoor
open Go.RowKit
variable {w:World} {L:EnL} {E:Eng}
theorem info239:(Tryz.prog.info? 239).map (fun i=>(i.zero,i.size,i.bytes))=some (some (.pointer none),1,8):=by kernel_rfl
def thoseN (E:Eng) (p:Nat→Tx→Bool) (j:Nat):List Nat:=(List.range j).filter (fun i=>match E.txs[i]? with | some t=>p i t | none=>false)
theorem thoseN_all (E:Eng) (p:Nat→Tx→Bool):thoseN E p E.txs.length=thoseP E p:=rfl
theorem thoseN_step {E:Eng} {p:Nat→Tx→Bool} {j:Nat} {t:Tx} (h:E.txs[j]?=some t):thoseN E p (j+1)=thoseN E p j++(if p j t=true then [j] else []):=by
 unfold thoseN
 rw [List.range_succ,List.filter_append]
 congr 1
 simp [List.filter_cons,h]
theorem thoseN_len (E:Eng) (p:Nat→Tx→Bool) (j:Nat):(thoseN E p j).length≤j:=by
 unfold thoseN
 have:=List.length_filter_le (fun i=>match E.txs[i]? with | some t=>p i t | none=>false) (List.range j)
 simpa using this
def EnL.ptrs (L:EnL) (l:List Nat):List Value:=l.map fun i=>ptrV (L.bs[i]?.getD 0)
theorem ptrs_snoc {L:EnL} {i:Nat} {m:TxL} (h:L.txs[i]?=some m) (l:List Nat):L.ptrs (l++[i])=L.ptrs l++[.pointer (some ⟨m.b,0,none⟩)]:=by
 simp [EnL.ptrs,bs_get h,ptrV]
set_option maxRecDepth 100000 in
set_option maxHeartbeats 2000000 in
theorem those_lives (h:EnAt w L E)  (p:Nat→Tx→Bool)
  (hp:∀ W,Below w.heap.size w W→∀ i l t,L.txs[i]?=some l→E.txs[i]?=some t→Calls Tryz.prog 170 #[.pointer (some ⟨l.b,0,none⟩)] W fun e w'=>e=.returned (.bool (p i t))∧∃ q,w'=W.drewN q) :
  Calls Tryz.prog 174 #[.pointer (some ⟨L.s,0,none⟩),.func (.func 170) #[] #[]] w fun e w'=>∃ v,e=.returned v∧w'.ownsRow w.heap.size 239 1 v (thoseP E p).length (L.ptrs (thoseP E p))∧Below w.heap.size w w':=by
 obtain⟨i0,hi0,hz0,hz1,hz2⟩:=info_parts info239
 have c14:=h.c14
 have HH:=hid h
 have HP:=hid hp
 have hle:=h.le
 have hlen:=h.len
 have hs:=h.sto.lt
 obtain⟨m,hm⟩:∃ m,L.txs.length=m:=⟨_,rfl⟩
 have hrow:=h.all
 rw [hm] at hrow
 obtain⟨ad,cap,e⟩:=row_form hrow
 rw [e] at c14
 have hme:m=E.txs.length:=by omega
 rw [← thoseN_all E p,← hme]
 rw [hm] at hlen
 have HR:=hid (show ∀ i l,L.txs[i]?=some l→∃ g,ad=some ⟨g,0,none⟩∧g<w.heap.size∧w.cell? ⟨g,i,none⟩=some (.pointer (some ⟨l.b,0,none⟩)) from fun i l hl=>by
  rcases row_slice hrow with ⟨e1,e2⟩ | ⟨g,cap',e1,hg,hc⟩
  ·have:=(List.getElem?_eq_some_iff.1 hl).1;omega
  ·rw [e] at e1
   injection e1 with e1
   exact⟨g,e1,hg,hc i _ (show (L.bs.map ptrV)[i]?=some (ptrV l.b) from by rw [List.getElem?_map,bs_get hl];rfl)⟩)
 have HM:=hid hm
 have HME:=hid hme
 clear h hp hrow e hm hme
 go_enter Tryz.func174,Tryz.ntmps174
 go_wp2
 go_loopw [5,13] (fun tv iv wr=>∃ j:Nat,j≤m∧iv=.int .i64 j∧wr.ownsRow w.heap.size 239 1 tv (thoseN E p j).length (L.ptrs (thoseN E p j))∧Below w.heap.size w wr) (fun _ iv _=>m-(intOf iv).toNat)
 case atStart=>exact⟨0,by omega,rfl,by simpa [thoseN,EnL.ptrs] using World.ownsRow_nil w w.heap.size 239 1,Below.refl _ _⟩
 case round =>
  obtain⟨j,hj,rfl,hown,hB⟩:=hrel
  have hBs:=hB.size
  have hal:=thoseN_len E p j
  by_cases hlt:j<m
  ·obtain⟨l,hl⟩:∃ l,L.txs[j]?=some l:=⟨L.txs[j]'(by have:=HM.out;omega),List.getElem?_eq_getElem _⟩
   obtain⟨t,ht,hA⟩:=HH.out.getL hl
   obtain⟨g,rfl,hg,hc⟩:=HR.out j l hl
   have hc':=(hB.cell (p:=⟨g,j,none⟩) hg).trans hc
   have HC:=hid (HP.out wr hB j l t hl ht)
   have hst:=hid (thoseN_step (p:=p) ht)
   have hpt:=hid (ptrs_snoc hl (thoseN E p j))
   have HO:=hid hown
   have hj0:(0:Int)≤(j:Int):=by omega
   have hj1:(j:Int)<(m:Int):=by omega
   obtain⟨pb,hpb⟩:∃ pb,p j t=pb:=⟨_,rfl⟩
   rw [hpb] at HC hst
   clear hown hl ht hA hc hpb
   go_wp2_with fail
   refine HC.out.mono ?_
   rintro e w1 ⟨rfl,q,rfl⟩
   have HO1:=hid (owns_same (w':=wr.drewN q) HO.out (fun g _=>rfl))
   have hBw:Below w.heap.size w (wr.drewN q):=below_drewN hB q
   have hBws:=hBw.size
   clear HO HC hB
   cases pb with
   | true =>
    go_wp2_with (at_builtin;refine wpList_append_lies _ rfl _ _ _ rfl w.heap.size 239 i0 _ 1 8 Tryz.underlying251 hi0 hz0 hz1 hz2 rfl (by omega) u5 _ _ rfl (HO1.out.alloc _) ⟨(wr.drewN q).heap.size,0,none⟩ 1 1 [.pointer (some ⟨l.b,0,none⟩)] rfl rfl (World.news_of_block (cs:=#[.pointer (some ⟨l.b,0,none⟩)]) (t:=239) (fr:=(0,0)) (heap_alloc_new (wr.drewN q) _)) (by simp [Value.oneCell']) (by omega) (by unfold maxLen;omega) (by omega) (by simp;omega) ((wr.drewN q).heap.size+1) (by simp) ?_;intro g' cap' w2 ho hgrow hat hlt2)
    go_roundw
    case rel =>
     refine⟨j+1,by omega,by go_num,?_,?_⟩
     ·rw [show thoseN E p (j+1)=thoseN E p j++[j] from by simpa using hst.out,List.length_append,hpt.out];exact ho
     ·exact hBw.trans ((((Below.refl _ (wr.drewN q)).alloc (Nat.le_refl _) _).mono hBws).grown hgrow (by simp;omega) (fun k e=>(HO1.out.lt k e).1))
    case measure=>simp [intOf];omega
   | false =>
    go_wp2
    go_roundw
    case rel=>exact⟨j+1,by omega,by go_num,by rw [show thoseN E p (j+1)=thoseN E p j from by simpa using hst.out];exact HO1.out,hBw⟩
    case measure=>simp [intOf];omega
  ·obtain rfl:j=m:=by omega
   have HO:=hid hown
   clear hown
   go_wp2
   go_ret
   exact⟨_,rfl,HO.out,hB⟩
set_option maxRecDepth 100000 in
set_option maxHeartbeats 2000000 in
theorem those_writes (h:EnAt w L E) (kb:Nat) (p:Nat→Tx→Bool)
  (hp:∀ W,Below w.heap.size w W→∀ i l t,L.txs[i]?=some l→E.txs[i]?=some t→Calls Tryz.prog 262 #[.pointer (some ⟨l.b,0,none⟩),.pointer (some ⟨kb,0,none⟩)] W fun e w'=>e=.returned (.bool (p i t))∧∃ q,w'=W.drewN q) :
  Calls Tryz.prog 174 #[.pointer (some ⟨L.s,0,none⟩),.func (.func 262) #[] #[.pointer (some ⟨kb,0,none⟩)]] w fun e w'=>∃ v,e=.returned v∧w'.ownsRow w.heap.size 239 1 v (thoseP E p).length (L.ptrs (thoseP E p))∧Below w.heap.size w w':=by
 obtain⟨i0,hi0,hz0,hz1,hz2⟩:=info_parts info239
 have c14:=h.c14
 have HH:=hid h
 have HP:=hid hp
 have hle:=h.le
 have hlen:=h.len
 have hs:=h.sto.lt
 obtain⟨m,hm⟩:∃ m,L.txs.length=m:=⟨_,rfl⟩
 have hrow:=h.all
 rw [hm] at hrow
 obtain⟨ad,cap,e⟩:=row_form hrow
 rw [e] at c14
 have hme:m=E.txs.length:=by omega
 rw [← thoseN_all E p,← hme]
 rw [hm] at hlen
 have HR:=hid (show ∀ i l,L.txs[i]?=some l→∃ g,ad=some ⟨g,0,none⟩∧g<w.heap.size∧w.cell? ⟨g,i,none⟩=some (.pointer (some ⟨l.b,0,none⟩)) from fun i l hl=>by
  rcases row_slice hrow with ⟨e1,e2⟩ | ⟨g,cap',e1,hg,hc⟩
  ·have:=(List.getElem?_eq_some_iff.1 hl).1;omega
  ·rw [e] at e1
   injection e1 with e1
   exact⟨g,e1,hg,hc i _ (show (L.bs.map ptrV)[i]?=some (ptrV l.b) from by rw [List.getElem?_map,bs_get hl];rfl)⟩)
 have HM:=hid hm
 have HME:=hid hme
 clear h hp hrow e hm hme
 go_enter Tryz.func174,Tryz.ntmps174
 go_wp2
 go_loopw [5,13] (fun tv iv wr=>∃ j:Nat,j≤m∧iv=.int .i64 j∧wr.ownsRow w.heap.size 239 1 tv (thoseN E p j).length (L.ptrs (thoseN E p j))∧Below w.heap.size w wr) (fun _ iv _=>m-(intOf iv).toNat)
 case atStart=>exact⟨0,by omega,rfl,by simpa [thoseN,EnL.ptrs] using World.ownsRow_nil w w.heap.size 239 1,Below.refl _ _⟩
 case round =>
  obtain⟨j,hj,rfl,hown,hB⟩:=hrel
  have hBs:=hB.size
  have hal:=thoseN_len E p j
  by_cases hlt:j<m
  ·obtain⟨l,hl⟩:∃ l,L.txs[j]?=some l:=⟨L.txs[j]'(by have:=HM.out;omega),List.getElem?_eq_getElem _⟩
   obtain⟨t,ht,hA⟩:=HH.out.getL hl
   obtain⟨g,rfl,hg,hc⟩:=HR.out j l hl
   have hc':=(hB.cell (p:=⟨g,j,none⟩) hg).trans hc
   have HC:=hid (HP.out wr hB j l t hl ht)
   have hst:=hid (thoseN_step (p:=p) ht)
   have hpt:=hid (ptrs_snoc hl (thoseN E p j))
   have HO:=hid hown
   have hj0:(0:Int)≤(j:Int):=by omega
   have hj1:(j:Int)<(m:Int):=by omega
   obtain⟨pb,hpb⟩:∃ pb,p j t=pb:=⟨_,rfl⟩
   rw [hpb] at HC hst
   clear hown hl ht hA hc hpb
   go_wp2_with fail
   refine HC.out.mono ?_
   rintro e w1 ⟨rfl,q,rfl⟩
   have HO1:=hid (owns_same (w':=wr.drewN q) HO.out (fun g _=>rfl))
   have hBw:Below w.heap.size w (wr.drewN q):=below_drewN hB q
   have hBws:=hBw.size
   clear HO HC hB
   cases pb with
   | true =>
    go_wp2_with (at_builtin;refine wpList_append_lies _ rfl _ _ _ rfl w.heap.size 239 i0 _ 1 8 Tryz.underlying251 hi0 hz0 hz1 hz2 rfl (by omega) u5 _ _ rfl (HO1.out.alloc _) ⟨(wr.drewN q).heap.size,0,none⟩ 1 1 [.pointer (some ⟨l.b,0,none⟩)] rfl rfl (World.news_of_block (cs:=#[.pointer (some ⟨l.b,0,none⟩)]) (t:=239) (fr:=(0,0)) (heap_alloc_new (wr.drewN q) _)) (by simp [Value.oneCell']) (by omega) (by unfold maxLen;omega) (by omega) (by simp;omega) ((wr.drewN q).heap.size+1) (by simp) ?_;intro g' cap' w2 ho hgrow hat hlt2)
    go_roundw
    case rel =>
     refine⟨j+1,by omega,by go_num,?_,?_⟩
     ·rw [show thoseN E p (j+1)=thoseN E p j++[j] from by simpa using hst.out,List.length_append,hpt.out];exact ho
     ·exact hBw.trans ((((Below.refl _ (wr.drewN q)).alloc (Nat.le_refl _) _).mono hBws).grown hgrow (by simp;omega) (fun k e=>(HO1.out.lt k e).1))
    case measure=>simp [intOf];omega
   | false =>
    go_wp2
    go_roundw
    case rel=>exact⟨j+1,by omega,by go_num,by rw [show thoseN E p (j+1)=thoseN E p j from by simpa using hst.out];exact HO1.out,hBw⟩
    case measure=>simp [intOf];omega
  ·obtain rfl:j=m:=by omega
   have HO:=hid hown
   clear hown
   go_wp2
   go_ret
   exact⟨_,rfl,HO.out,hB⟩
set_option maxRecDepth 100000 in
set_option maxHeartbeats 2000000 in
theorem those_reads (h:EnAt w L E) (kb tb:Nat) (p:Nat→Tx→Bool)
  (hp:∀ W,Below w.heap.size w W→∀ i l t,L.txs[i]?=some l→E.txs[i]?=some t→Calls Tryz.prog 362 #[.pointer (some ⟨l.b,0,none⟩),.pointer (some ⟨kb,0,none⟩),.pointer (some ⟨tb,0,none⟩)] W fun e w'=>e=.returned (.bool (p i t))∧∃ q,w'=W.drewN q) :
  Calls Tryz.prog 174 #[.pointer (some ⟨L.s,0,none⟩),.func (.func 362) #[] #[.pointer (some ⟨kb,0,none⟩),.pointer (some ⟨tb,0,none⟩)]] w fun e w'=>∃ v,e=.returned v∧w'.ownsRow w.heap.size 239 1 v (thoseP E p).length (L.ptrs (thoseP E p))∧Below w.heap.size w w':=by
 obtain⟨i0,hi0,hz0,hz1,hz2⟩:=info_parts info239
 have c14:=h.c14
 have HH:=hid h
 have HP:=hid hp
 have hle:=h.le
 have hlen:=h.len
 have hs:=h.sto.lt
 obtain⟨m,hm⟩:∃ m,L.txs.length=m:=⟨_,rfl⟩
 have hrow:=h.all
 rw [hm] at hrow
 obtain⟨ad,cap,e⟩:=row_form hrow
 rw [e] at c14
 have hme:m=E.txs.length:=by omega
 rw [← thoseN_all E p,← hme]
 rw [hm] at hlen
 have HR:=hid (show ∀ i l,L.txs[i]?=some l→∃ g,ad=some ⟨g,0,none⟩∧g<w.heap.size∧w.cell? ⟨g,i,none⟩=some (.pointer (some ⟨l.b,0,none⟩)) from fun i l hl=>by
  rcases row_slice hrow with ⟨e1,e2⟩ | ⟨g,cap',e1,hg,hc⟩
  ·have:=(List.getElem?_eq_some_iff.1 hl).1;omega
  ·rw [e] at e1
   injection e1 with e1
   exact⟨g,e1,hg,hc i _ (show (L.bs.map ptrV)[i]?=some (ptrV l.b) from by rw [List.getElem?_map,bs_get hl];rfl)⟩)
 have HM:=hid hm
 have HME:=hid hme
 clear h hp hrow e hm hme
 go_enter Tryz.func174,Tryz.ntmps174
 go_wp2
 go_loopw [5,13] (fun tv iv wr=>∃ j:Nat,j≤m∧iv=.int .i64 j∧wr.ownsRow w.heap.size 239 1 tv (thoseN E p j).length (L.ptrs (thoseN E p j))∧Below w.heap.size w wr) (fun _ iv _=>m-(intOf iv).toNat)
 case atStart=>exact⟨0,by omega,rfl,by simpa [thoseN,EnL.ptrs] using World.ownsRow_nil w w.heap.size 239 1,Below.refl _ _⟩
 case round =>
  obtain⟨j,hj,rfl,hown,hB⟩:=hrel
  have hBs:=hB.size
  have hal:=thoseN_len E p j
  by_cases hlt:j<m
  ·obtain⟨l,hl⟩:∃ l,L.txs[j]?=some l:=⟨L.txs[j]'(by have:=HM.out;omega),List.getElem?_eq_getElem _⟩
   obtain⟨t,ht,hA⟩:=HH.out.getL hl
   obtain⟨g,rfl,hg,hc⟩:=HR.out j l hl
   have hc':=(hB.cell (p:=⟨g,j,none⟩) hg).trans hc
   have HC:=hid (HP.out wr hB j l t hl ht)
   have hst:=hid (thoseN_step (p:=p) ht)
   have hpt:=hid (ptrs_snoc hl (thoseN E p j))
   have HO:=hid hown
   have hj0:(0:Int)≤(j:Int):=by omega
   have hj1:(j:Int)<(m:Int):=by omega
   obtain⟨pb,hpb⟩:∃ pb,p j t=pb:=⟨_,rfl⟩
   rw [hpb] at HC hst
   clear hown hl ht hA hc hpb
   go_wp2_with fail
   refine HC.out.mono ?_
   rintro e w1 ⟨rfl,q,rfl⟩
   have HO1:=hid (owns_same (w':=wr.drewN q) HO.out (fun g _=>rfl))
   have hBw:Below w.heap.size w (wr.drewN q):=below_drewN hB q
   have hBws:=hBw.size
   clear HO HC hB
   cases pb with
   | true =>
    go_wp2_with (at_builtin;refine wpList_append_lies _ rfl _ _ _ rfl w.heap.size 239 i0 _ 1 8 Tryz.underlying251 hi0 hz0 hz1 hz2 rfl (by omega) u5 _ _ rfl (HO1.out.alloc _) ⟨(wr.drewN q).heap.size,0,none⟩ 1 1 [.pointer (some ⟨l.b,0,none⟩)] rfl rfl (World.news_of_block (cs:=#[.pointer (some ⟨l.b,0,none⟩)]) (t:=239) (fr:=(0,0)) (heap_alloc_new (wr.drewN q) _)) (by simp [Value.oneCell']) (by omega) (by unfold maxLen;omega) (by omega) (by simp;omega) ((wr.drewN q).heap.size+1) (by simp) ?_;intro g' cap' w2 ho hgrow hat hlt2)
    go_roundw
    case rel =>
     refine⟨j+1,by omega,by go_num,?_,?_⟩
     ·rw [show thoseN E p (j+1)=thoseN E p j++[j] from by simpa using hst.out,List.length_append,hpt.out];exact ho
     ·exact hBw.trans ((((Below.refl _ (wr.drewN q)).alloc (Nat.le_refl _) _).mono hBws).grown hgrow (by simp;omega) (fun k e=>(HO1.out.lt k e).1))
    case measure=>simp [intOf];omega
   | false =>
    go_wp2
    go_roundw
    case rel=>exact⟨j+1,by omega,by go_num,by rw [show thoseN E p (j+1)=thoseN E p j from by simpa using hst.out];exact HO1.out,hBw⟩
    case measure=>simp [intOf];omega
  ·obtain rfl:j=m:=by omega
   have HO:=hid hown
   clear hown
   go_wp2
   go_ret
   exact⟨_,rfl,HO.out,hB⟩
end Go.Proofs.YtjefgmeejhakbabGreatDoor
