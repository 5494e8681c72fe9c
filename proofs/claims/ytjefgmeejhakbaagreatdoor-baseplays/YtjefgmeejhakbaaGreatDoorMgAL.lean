/- EnFind EnThose BsSum: put together for a claim. -/
import Derived.Test.YtjefgmeejhakbaaGreatDoorMgAK
import Derived.BigQuiet
import Derived.Deep.AppendLies
import Derived.Test.YtjefgmeejhakbaaGreatDoorMgAA
import Derived.Laws.BitsAllLaws
/- engine: find, open, sees, isNewer, wasOver. -/
namespace Go.Proofs.YtjefgmeejhakbaaGreatDoor
open Go.RowKit
variable {w:World} {L:EnL} {E:Eng}
set_option maxRecDepth 100000 in
set_option maxHeartbeats 1000000 in
theorem find_ok (h:EnAt w L E) {i:Nat} {l:TxL} (hl:L.txs[i]?=some l) :
  Calls Tryz.prog 95 #[.pointer (some ⟨L.s,0,none⟩),.int .i64 ((i:Int)+1)] w fun e w'=>e=.returned (.tuple #[.pointer (some ⟨l.b,0,none⟩),.nilIface])∧w'=w:=by
 have c14:=h.c14
 have hi:=(List.getElem?_eq_some_iff.1 hl).1
 have hle:=h.le
 have hlen:=h.len
 rcases row_slice h.all with ⟨_,e⟩ | ⟨g,cap,e,hg,hc⟩
 ·omega
 ·have hcell:w.cell? ⟨g,i,none⟩=some (.pointer (some ⟨l.b,0,none⟩)):=hc i _ (show (L.bs.map ptrV)[i]?=some (ptrV l.b) from by rw [List.getElem?_map,bs_get hl];rfl)
  rw [e] at c14
  obtain⟨m,hm⟩:∃ m,L.txs.length=m:=⟨_,rfl⟩
  rw [hm] at c14 hi hlen
  clear h hl hc e hm
  have g1:¬ (i:Int)+1<1:=by omega
  have g2:decide ((m:Int)<(i:Int)+1)=false:=by simp;omega
  have g3:(0:Int)≤(i:Int):=by omega
  have g4:(i:Int)<(m:Int):=by omega
  have g5:(i:Int)+1-1=(i:Int):=by omega
  have g6:IntKind.i64.wrap (i:Int)=(i:Int):=IntWalk.i64_in _ (by omega)
  go_enter Tryz.func95,Tryz.ntmps95
  go_wp2
  go_ret2
  exact⟨rfl,rfl⟩
set_option maxRecDepth 100000 in
set_option maxHeartbeats 1000000 in
theorem find_err (h:EnAt w L E) {n:Int} (hn:n<1∨(E.txs.length:Int)<n) :
  Calls Tryz.prog 95 #[.pointer (some ⟨L.s,0,none⟩),.int .i64 n] w fun e w'=>e=.returned (.tuple #[.pointer none,errV 7])∧w'=w:=by
 have c14:=h.c14
 have hle:=h.le
 have hlen:=h.len
 obtain⟨ad,cap,e⟩:=row_form h.all
 rw [e] at c14
 obtain⟨m,hm⟩:∃ m,L.txs.length=m:=⟨_,rfl⟩
 rw [hm] at c14 hlen
 rw [← hlen] at hn hle
 clear h e hm hlen
 by_cases g1:n<1
 ·clear hn
  go_enter Tryz.func95,Tryz.ntmps95
  go_wp2
  go_ret2
  exact⟨rfl,rfl⟩
 ·have g2:decide ((m:Int)<n)=true:=by simp;omega
  clear hn
  go_enter Tryz.func95,Tryz.ntmps95
  go_wp2
  go_ret2
  exact⟨rfl,rfl⟩
set_option maxRecDepth 100000 in
set_option maxHeartbeats 1000000 in
theorem open_ok (h:EnAt w L E) {i:Nat} {l:TxL} {t:Tx} (hl:L.txs[i]?=some l) (ht:E.txs[i]?=some t) (hs:t.state=0) :
  Calls Tryz.prog 102 #[.pointer (some ⟨L.s,0,none⟩),.int .i64 ((i:Int)+1)] w fun e w'=>e=.returned (.tuple #[.pointer (some ⟨l.b,0,none⟩),.nilIface])∧w'=w:=by
 have c3:=(h.txs i l t hl ht).c3
 rw [hs] at c3
 have HC:=hid (find_ok h hl)
 clear h hl ht hs
 go_enter Tryz.func102,Tryz.ntmps102
 go_wp2_with fail
 refine HC.out.mono ?_
 rintro e w1 ⟨rfl,rfl⟩
 go_wp2
 go_ret2
 exact⟨rfl,rfl⟩
set_option maxRecDepth 100000 in
set_option maxHeartbeats 1000000 in
theorem open_state (h:EnAt w L E) {i:Nat} {l:TxL} {t:Tx} (hl:L.txs[i]?=some l) (ht:E.txs[i]?=some t) (hs:t.state≠0) :
  Calls Tryz.prog 102 #[.pointer (some ⟨L.s,0,none⟩),.int .i64 ((i:Int)+1)] w fun e w'=>e=.returned (.tuple #[.pointer none,errV 6])∧w'=w:=by
 have c3:=(h.txs i l t hl ht).c3
 obtain⟨st,hst⟩:∃ st,t.state=st:=⟨_,rfl⟩
 rw [hst] at c3 hs
 have HC:=hid (find_ok h hl)
 clear h hl ht hst
 have g1:(st != 0)=true:=by simpa using hs
 clear hs
 go_enter Tryz.func102,Tryz.ntmps102
 go_wp2_with fail
 refine HC.out.mono ?_
 rintro e w1 ⟨rfl,rfl⟩
 go_wp2
 go_ret2
 exact⟨rfl,rfl⟩
set_option maxRecDepth 100000 in
set_option maxHeartbeats 1000000 in
theorem open_err (h:EnAt w L E) {n:Int} (hn:n<1∨(E.txs.length:Int)<n) :
  Calls Tryz.prog 102 #[.pointer (some ⟨L.s,0,none⟩),.int .i64 n] w fun e w'=>e=.returned (.tuple #[.pointer none,errV 7])∧w'=w:=by
 have HC:=hid (find_err h hn)
 clear h hn
 go_enter Tryz.func102,Tryz.ntmps102
 go_wp2_with fail
 refine HC.out.mono ?_
 rintro e w1 ⟨rfl,rfl⟩
 rw [show errV 7=Value.iface 24 (.int .i64 7) from rfl]
 go_wp2
 go_ret2
 exact⟨rfl,rfl⟩
set_option maxRecDepth 100000 in
set_option maxHeartbeats 1000000 in
theorem sees_any (h:EnAt w L E) {i:Nat} {l:TxL} {t:Tx} (hl:L.txs[i]?=some l) (ht:E.txs[i]?=some t) :
  Calls Tryz.prog 112 #[.pointer (some ⟨L.s,0,none⟩),.pointer (some ⟨l.b,0,none⟩)] w fun e w'=>e=.returned (.int .i64 (seesP E t))∧w'=w:=by
 have hA:=h.txs i l t hl ht
 have c1:=hA.c1
 have c2:=hA.c2
 have HC:=hid (last_any _ _ _ _ _ w h.sto)
 unfold seesP
 obtain⟨lv,hlv⟩:∃ lv,t.level=lv:=⟨_,rfl⟩
 rw [hlv] at c1 ⊢
 clear h hl ht hA hlv
 by_cases h0:lv=0
 ·subst h0
  rw [if_pos rfl]
  go_enter Tryz.func112,Tryz.ntmps112
  go_wp2_with fail
  refine HC.out.mono ?_
  rintro e w1 ⟨rfl,rfl⟩
  go_wp2
  go_ret
  exact⟨rfl,rfl⟩
 ·rw [if_neg h0]
  have g1:(lv==0)=false:=by simpa using h0
  clear h0 HC
  go_enter Tryz.func112,Tryz.ntmps112
  go_wp2
  go_ret
  exact⟨rfl,rfl⟩
theorem newer_len (E:Eng) (k:Nat) (t:Int) (l:List (Int × Int)) (hl:E.ks[k]?=some l):newerP E (k:Int) t=(l.drop (lat l t+1).toNat).map (·.1):=by simp [newerP,hl]
set_option maxRecDepth 100000 in
set_option maxHeartbeats 1000000 in
theorem isNewer_any (h:EnAt w L E) {key:Int} (hk:0≤key∧key<10) (t:Int) (hks:∀ l∈E.ks,l.length≤100000) :
  Calls Tryz.prog 212 #[.pointer (some ⟨L.s,0,none⟩),.int .i64 key,.int .i64 t] w fun e w'=>e=.returned (.bool (decide (newerP E key t≠[])))∧Below w.heap.size w w':=by
 obtain⟨k,rfl⟩:∃ k:Nat,key=k:=⟨key.toNat,by omega⟩
 have hk2:k<E.ks.length:=by have:=h.sto.lk;omega
 obtain⟨l,hl⟩:∃ l,E.ks[k]?=some l:=⟨E.ks[k],List.getElem?_eq_getElem hk2⟩
 have hll:=hks l (List.mem_of_getElem? hl)
 have HC:=hid (newer_any _ _ k _ t _ _ l w h.sto hl (by omega))
 rw [newer_len E k t l hl]
 have hlen:((l.drop (lat l t+1).toNat).map (·.1)).length=(l.drop (lat l t+1).toNat).length:=by simp
 have hle:(l.drop (lat l t+1).toNat).length≤l.length:=by simp
 have hiff:decide ((l.drop (lat l t+1).toNat).map (·.1)≠[])=decide (0<(l.drop (lat l t+1).toNat).length):=by
  rw [decide_eq_decide,List.length_pos_iff]
  simp
 rw [hiff]
 obtain⟨m,hm⟩:∃ m,(l.drop (lat l t+1).toNat).length=m:=⟨_,rfl⟩
 rw [hm] at HC hle ⊢
 clear hlen hiff h hl hks hk hk2 hm
 go_enter Tryz.func212,Tryz.ntmps212
 go_wp2_with fail
 refine HC.out.mono ?_
 rintro e w1 ⟨tv,rfl,ho,hB⟩
 obtain⟨ad,cap,rfl⟩:=row_form ho
 have HB:=hid hB
 clear ho hB HC
 go_wp2
 go_ret
 exact⟨by simp,HB.out⟩
set_option maxRecDepth 100000 in
set_option maxHeartbeats 1000000 in
theorem wasOver_any {b1 b2:Nat} {st bae n:Int} (c3:w.cell? ⟨b1,3,none⟩=some (.int .i64 st)) (c5:w.cell? ⟨b1,5,none⟩=some (.int .i64 bae)) (d0:w.cell? ⟨b2,0,none⟩=some (.int .i64 n)) :
  Calls Tryz.prog 241 #[.pointer (some ⟨b1,0,none⟩),.pointer (some ⟨b2,0,none⟩)] w fun e w'=>e=.returned (.bool (!liveB st&&decide (bae<n)))∧∃ q,w'=w.drewN q:=by
 have HC:=hid (fun q=>lives_any b1 st (w.drewN q) (by rw [World.cell?_drewN];exact c3))
 cases hb:liveB st with
 | true =>
  rw [hb] at HC
  clear hb
  go_enter Tryz.func241,Tryz.ntmps241
  go_wp2
  go_quiet (first | (go_at_call 100;refine Calls.quiet_of_same (HC.out _)))
  go_wp2
  go_ret
  exact⟨rfl,_,rfl⟩
 | false =>
  rw [hb] at HC
  clear hb
  go_enter Tryz.func241,Tryz.ntmps241
  go_wp2
  go_quiet (first | (go_at_call 100;refine Calls.quiet_of_same (HC.out _)))
  go_wp2
  go_ret
  exact⟨rfl,_,rfl⟩
end Go.Proofs.YtjefgmeejhakbaaGreatDoor
/- engine.those, with each of the three functions that it is asked with. -/
namespace Go.Proofs.YtjefgmeejhakbaaGreatDoor
open Go.RowKit
variable {w:World} {L:EnL} {E:Eng}
theorem info179:(Tryz.prog.info? 179).map (fun i=>(i.zero,i.size,i.bytes))=some (some (.pointer none),1,8):=by kernel_rfl
def thoseN (E:Eng) (p:Nat→Tx→Bool) (j:Nat):List Nat:=(List.range j).filter (fun i=>match E.txs[i]? with | some t=>p i t | none=>false)
theorem thoseN_all (E:Eng) (p:Nat→Tx→Bool):thoseN E p E.txs.length=thoseP E p:=rfl
theorem thoseN_step {E:Eng} {p:Nat→Tx→Bool} {j:Nat} {t:Tx} (h:E.txs[j]?=some t):thoseN E p (j+1)=thoseN E p j++(if p j t=true then [j] else []):=by
 unfold thoseN
 rw [List.range_succ,List.filter_append]
 congr 1
 simp [List.filter_cons,h]
theorem thoseN_len (E:Eng) (p:Nat→Tx→Bool) (j:Nat):(thoseN E p j).length≤j:=by
 unfold thoseN
 have:=List.length_filter_le (fun i=>match E.txs[i]? with | some t=>p i t | none=>false) (List.range j)
 simpa using this
def EnL.ptrs (L:EnL) (l:List Nat):List Value:=l.map fun i=>ptrV (L.bs[i]?.getD 0)
theorem ptrs_snoc {L:EnL} {i:Nat} {m:TxL} (h:L.txs[i]?=some m) (l:List Nat):L.ptrs (l++[i])=L.ptrs l++[.pointer (some ⟨m.b,0,none⟩)]:=by
 simp [EnL.ptrs,bs_get h,ptrV]
set_option maxRecDepth 100000 in
set_option maxHeartbeats 2000000 in
theorem those_lives (h:EnAt w L E)  (p:Nat→Tx→Bool)
  (hp:∀ W,Below w.heap.size w W→∀ i l t,L.txs[i]?=some l→E.txs[i]?=some t→Calls Tryz.prog 100 #[.pointer (some ⟨l.b,0,none⟩)] W fun e w'=>e=.returned (.bool (p i t))∧∃ q,w'=W.drewN q) :
  Calls Tryz.prog 109 #[.pointer (some ⟨L.s,0,none⟩),.func (.func 100) #[] #[]] w fun e w'=>∃ v,e=.returned v∧w'.ownsRow w.heap.size 179 1 v (thoseP E p).length (L.ptrs (thoseP E p))∧Below w.heap.size w w':=by
 obtain⟨i0,hi0,hz0,hz1,hz2⟩:=info_parts info179
 have c14:=h.c14
 have HH:=hid h
 have HP:=hid hp
 have hle:=h.le
 have hlen:=h.len
 have hs:=h.sto.lt
 obtain⟨m,hm⟩:∃ m,L.txs.length=m:=⟨_,rfl⟩
 have hrow:=h.all
 rw [hm] at hrow
 obtain⟨ad,cap,e⟩:=row_form hrow
 rw [e] at c14
 have hme:m=E.txs.length:=by omega
 rw [← thoseN_all E p,← hme]
 rw [hm] at hlen
 have HR:=hid (show ∀ i l,L.txs[i]?=some l→∃ g,ad=some ⟨g,0,none⟩∧g<w.heap.size∧w.cell? ⟨g,i,none⟩=some (.pointer (some ⟨l.b,0,none⟩)) from fun i l hl=>by
  rcases row_slice hrow with ⟨e1,e2⟩ | ⟨g,cap',e1,hg,hc⟩
  ·have:=(List.getElem?_eq_some_iff.1 hl).1;omega
  ·rw [e] at e1
   injection e1 with e1
   exact⟨g,e1,hg,hc i _ (show (L.bs.map ptrV)[i]?=some (ptrV l.b) from by rw [List.getElem?_map,bs_get hl];rfl)⟩)
 have HM:=hid hm
 have HME:=hid hme
 clear h hp hrow e hm hme
 go_enter Tryz.func109,Tryz.ntmps109
 go_wp2
 go_loopw [5,13] (fun tv iv wr=>∃ j:Nat,j≤m∧iv=.int .i64 j∧wr.ownsRow w.heap.size 179 1 tv (thoseN E p j).length (L.ptrs (thoseN E p j))∧Below w.heap.size w wr) (fun _ iv _=>m-(intOf iv).toNat)
 case atStart=>exact⟨0,by omega,rfl,by simpa [thoseN,EnL.ptrs] using World.ownsRow_nil w w.heap.size 179 1,Below.refl _ _⟩
 case round =>
  obtain⟨j,hj,rfl,hown,hB⟩:=hrel
  have hBs:=hB.size
  have hal:=thoseN_len E p j
  by_cases hlt:j<m
  ·obtain⟨l,hl⟩:∃ l,L.txs[j]?=some l:=⟨L.txs[j]'(by have:=HM.out;omega),List.getElem?_eq_getElem _⟩
   obtain⟨t,ht,hA⟩:=HH.out.getL hl
   obtain⟨g,rfl,hg,hc⟩:=HR.out j l hl
   have hc':=(hB.cell (p:=⟨g,j,none⟩) hg).trans hc
   have HC:=hid (HP.out wr hB j l t hl ht)
   have hst:=hid (thoseN_step (p:=p) ht)
   have hpt:=hid (ptrs_snoc hl (thoseN E p j))
   have HO:=hid hown
   have hj0:(0:Int)≤(j:Int):=by omega
   have hj1:(j:Int)<(m:Int):=by omega
   obtain⟨pb,hpb⟩:∃ pb,p j t=pb:=⟨_,rfl⟩
   rw [hpb] at HC hst
   clear hown hl ht hA hc hpb
   go_wp2_with fail
   refine HC.out.mono ?_
   rintro e w1 ⟨rfl,q,rfl⟩
   have HO1:=hid (owns_same (w':=wr.drewN q) HO.out (fun g _=>rfl))
   have hBw:Below w.heap.size w (wr.drewN q):=below_drewN hB q
   have hBws:=hBw.size
   clear HO HC hB
   cases pb with
   | true =>
    go_wp2_with (at_builtin;refine wpList_append_lies _ rfl _ _ _ rfl w.heap.size 179 i0 _ 1 8 Tryz.underlying160 hi0 hz0 hz1 hz2 rfl (by omega) u5 _ _ rfl (HO1.out.alloc _) ⟨(wr.drewN q).heap.size,0,none⟩ 1 1 [.pointer (some ⟨l.b,0,none⟩)] rfl rfl (World.news_of_block (cs:=#[.pointer (some ⟨l.b,0,none⟩)]) (t:=179) (fr:=(0,0)) (heap_alloc_new (wr.drewN q) _)) (by simp [Value.oneCell']) (by omega) (by unfold maxLen;omega) (by omega) (by simp;omega) ((wr.drewN q).heap.size+1) (by simp) ?_;intro g' cap' w2 ho hgrow hat hlt2)
    go_roundw
    case rel =>
     refine⟨j+1,by omega,by go_num,?_,?_⟩
     ·rw [show thoseN E p (j+1)=thoseN E p j++[j] from by simpa using hst.out,List.length_append,hpt.out];exact ho
     ·exact hBw.trans ((((Below.refl _ (wr.drewN q)).alloc (Nat.le_refl _) _).mono hBws).grown hgrow (by simp;omega) (fun k e=>(HO1.out.lt k e).1))
    case measure=>simp [intOf];omega
   | false =>
    go_wp2
    go_roundw
    case rel=>exact⟨j+1,by omega,by go_num,by rw [show thoseN E p (j+1)=thoseN E p j from by simpa using hst.out];exact HO1.out,hBw⟩
    case measure=>simp [intOf];omega
  ·obtain rfl:j=m:=by omega
   have HO:=hid hown
   clear hown
   go_wp2
   go_ret
   exact⟨_,rfl,HO.out,hB⟩
set_option maxRecDepth 100000 in
set_option maxHeartbeats 2000000 in
theorem those_writes (h:EnAt w L E) (kb:Nat) (p:Nat→Tx→Bool)
  (hp:∀ W,Below w.heap.size w W→∀ i l t,L.txs[i]?=some l→E.txs[i]?=some t→Calls Tryz.prog 162 #[.pointer (some ⟨l.b,0,none⟩),.pointer (some ⟨kb,0,none⟩)] W fun e w'=>e=.returned (.bool (p i t))∧∃ q,w'=W.drewN q) :
  Calls Tryz.prog 109 #[.pointer (some ⟨L.s,0,none⟩),.func (.func 162) #[] #[.pointer (some ⟨kb,0,none⟩)]] w fun e w'=>∃ v,e=.returned v∧w'.ownsRow w.heap.size 179 1 v (thoseP E p).length (L.ptrs (thoseP E p))∧Below w.heap.size w w':=by
 obtain⟨i0,hi0,hz0,hz1,hz2⟩:=info_parts info179
 have c14:=h.c14
 have HH:=hid h
 have HP:=hid hp
 have hle:=h.le
 have hlen:=h.len
 have hs:=h.sto.lt
 obtain⟨m,hm⟩:∃ m,L.txs.length=m:=⟨_,rfl⟩
 have hrow:=h.all
 rw [hm] at hrow
 obtain⟨ad,cap,e⟩:=row_form hrow
 rw [e] at c14
 have hme:m=E.txs.length:=by omega
 rw [← thoseN_all E p,← hme]
 rw [hm] at hlen
 have HR:=hid (show ∀ i l,L.txs[i]?=some l→∃ g,ad=some ⟨g,0,none⟩∧g<w.heap.size∧w.cell? ⟨g,i,none⟩=some (.pointer (some ⟨l.b,0,none⟩)) from fun i l hl=>by
  rcases row_slice hrow with ⟨e1,e2⟩ | ⟨g,cap',e1,hg,hc⟩
  ·have:=(List.getElem?_eq_some_iff.1 hl).1;omega
  ·rw [e] at e1
   injection e1 with e1
   exact⟨g,e1,hg,hc i _ (show (L.bs.map ptrV)[i]?=some (ptrV l.b) from by rw [List.getElem?_map,bs_get hl];rfl)⟩)
 have HM:=hid hm
 have HME:=hid hme
 clear h hp hrow e hm hme
 go_enter Tryz.func109,Tryz.ntmps109
 go_wp2
 go_loopw [5,13] (fun tv iv wr=>∃ j:Nat,j≤m∧iv=.int .i64 j∧wr.ownsRow w.heap.size 179 1 tv (thoseN E p j).length (L.ptrs (thoseN E p j))∧Below w.heap.size w wr) (fun _ iv _=>m-(intOf iv).toNat)
 case atStart=>exact⟨0,by omega,rfl,by simpa [thoseN,EnL.ptrs] using World.ownsRow_nil w w.heap.size 179 1,Below.refl _ _⟩
 case round =>
  obtain⟨j,hj,rfl,hown,hB⟩:=hrel
  have hBs:=hB.size
  have hal:=thoseN_len E p j
  by_cases hlt:j<m
  ·obtain⟨l,hl⟩:∃ l,L.txs[j]?=some l:=⟨L.txs[j]'(by have:=HM.out;omega),List.getElem?_eq_getElem _⟩
   obtain⟨t,ht,hA⟩:=HH.out.getL hl
   obtain⟨g,rfl,hg,hc⟩:=HR.out j l hl
   have hc':=(hB.cell (p:=⟨g,j,none⟩) hg).trans hc
   have HC:=hid (HP.out wr hB j l t hl ht)
   have hst:=hid (thoseN_step (p:=p) ht)
   have hpt:=hid (ptrs_snoc hl (thoseN E p j))
   have HO:=hid hown
   have hj0:(0:Int)≤(j:Int):=by omega
   have hj1:(j:Int)<(m:Int):=by omega
   obtain⟨pb,hpb⟩:∃ pb,p j t=pb:=⟨_,rfl⟩
   rw [hpb] at HC hst
   clear hown hl ht hA hc hpb
   go_wp2_with fail
   refine HC.out.mono ?_
   rintro e w1 ⟨rfl,q,rfl⟩
   have HO1:=hid (owns_same (w':=wr.drewN q) HO.out (fun g _=>rfl))
   have hBw:Below w.heap.size w (wr.drewN q):=below_drewN hB q
   have hBws:=hBw.size
   clear HO HC hB
   cases pb with
   | true =>
    go_wp2_with (at_builtin;refine wpList_append_lies _ rfl _ _ _ rfl w.heap.size 179 i0 _ 1 8 Tryz.underlying160 hi0 hz0 hz1 hz2 rfl (by omega) u5 _ _ rfl (HO1.out.alloc _) ⟨(wr.drewN q).heap.size,0,none⟩ 1 1 [.pointer (some ⟨l.b,0,none⟩)] rfl rfl (World.news_of_block (cs:=#[.pointer (some ⟨l.b,0,none⟩)]) (t:=179) (fr:=(0,0)) (heap_alloc_new (wr.drewN q) _)) (by simp [Value.oneCell']) (by omega) (by unfold maxLen;omega) (by omega) (by simp;omega) ((wr.drewN q).heap.size+1) (by simp) ?_;intro g' cap' w2 ho hgrow hat hlt2)
    go_roundw
    case rel =>
     refine⟨j+1,by omega,by go_num,?_,?_⟩
     ·rw [show thoseN E p (j+1)=thoseN E p j++[j] from by simpa using hst.out,List.length_append,hpt.out];exact ho
     ·exact hBw.trans ((((Below.refl _ (wr.drewN q)).alloc (Nat.le_refl _) _).mono hBws).grown hgrow (by simp;omega) (fun k e=>(HO1.out.lt k e).1))
    case measure=>simp [intOf];omega
   | false =>
    go_wp2
    go_roundw
    case rel=>exact⟨j+1,by omega,by go_num,by rw [show thoseN E p (j+1)=thoseN E p j from by simpa using hst.out];exact HO1.out,hBw⟩
    case measure=>simp [intOf];omega
  ·obtain rfl:j=m:=by omega
   have HO:=hid hown
   clear hown
   go_wp2
   go_ret
   exact⟨_,rfl,HO.out,hB⟩
set_option maxRecDepth 100000 in
set_option maxHeartbeats 2000000 in
theorem those_reads (h:EnAt w L E) (kb tb:Nat) (p:Nat→Tx→Bool)
  (hp:∀ W,Below w.heap.size w W→∀ i l t,L.txs[i]?=some l→E.txs[i]?=some t→Calls Tryz.prog 240 #[.pointer (some ⟨l.b,0,none⟩),.pointer (some ⟨kb,0,none⟩),.pointer (some ⟨tb,0,none⟩)] W fun e w'=>e=.returned (.bool (p i t))∧∃ q,w'=W.drewN q) :
  Calls Tryz.prog 109 #[.pointer (some ⟨L.s,0,none⟩),.func (.func 240) #[] #[.pointer (some ⟨kb,0,none⟩),.pointer (some ⟨tb,0,none⟩)]] w fun e w'=>∃ v,e=.returned v∧w'.ownsRow w.heap.size 179 1 v (thoseP E p).length (L.ptrs (thoseP E p))∧Below w.heap.size w w':=by
 obtain⟨i0,hi0,hz0,hz1,hz2⟩:=info_parts info179
 have c14:=h.c14
 have HH:=hid h
 have HP:=hid hp
 have hle:=h.le
 have hlen:=h.len
 have hs:=h.sto.lt
 obtain⟨m,hm⟩:∃ m,L.txs.length=m:=⟨_,rfl⟩
 have hrow:=h.all
 rw [hm] at hrow
 obtain⟨ad,cap,e⟩:=row_form hrow
 rw [e] at c14
 have hme:m=E.txs.length:=by omega
 rw [← thoseN_all E p,← hme]
 rw [hm] at hlen
 have HR:=hid (show ∀ i l,L.txs[i]?=some l→∃ g,ad=some ⟨g,0,none⟩∧g<w.heap.size∧w.cell? ⟨g,i,none⟩=some (.pointer (some ⟨l.b,0,none⟩)) from fun i l hl=>by
  rcases row_slice hrow with ⟨e1,e2⟩ | ⟨g,cap',e1,hg,hc⟩
  ·have:=(List.getElem?_eq_some_iff.1 hl).1;omega
  ·rw [e] at e1
   injection e1 with e1
   exact⟨g,e1,hg,hc i _ (show (L.bs.map ptrV)[i]?=some (ptrV l.b) from by rw [List.getElem?_map,bs_get hl];rfl)⟩)
 have HM:=hid hm
 have HME:=hid hme
 clear h hp hrow e hm hme
 go_enter Tryz.func109,Tryz.ntmps109
 go_wp2
 go_loopw [5,13] (fun tv iv wr=>∃ j:Nat,j≤m∧iv=.int .i64 j∧wr.ownsRow w.heap.size 179 1 tv (thoseN E p j).length (L.ptrs (thoseN E p j))∧Below w.heap.size w wr) (fun _ iv _=>m-(intOf iv).toNat)
 case atStart=>exact⟨0,by omega,rfl,by simpa [thoseN,EnL.ptrs] using World.ownsRow_nil w w.heap.size 179 1,Below.refl _ _⟩
 case round =>
  obtain⟨j,hj,rfl,hown,hB⟩:=hrel
  have hBs:=hB.size
  have hal:=thoseN_len E p j
  by_cases hlt:j<m
  ·obtain⟨l,hl⟩:∃ l,L.txs[j]?=some l:=⟨L.txs[j]'(by have:=HM.out;omega),List.getElem?_eq_getElem _⟩
   obtain⟨t,ht,hA⟩:=HH.out.getL hl
   obtain⟨g,rfl,hg,hc⟩:=HR.out j l hl
   have hc':=(hB.cell (p:=⟨g,j,none⟩) hg).trans hc
   have HC:=hid (HP.out wr hB j l t hl ht)
   have hst:=hid (thoseN_step (p:=p) ht)
   have hpt:=hid (ptrs_snoc hl (thoseN E p j))
   have HO:=hid hown
   have hj0:(0:Int)≤(j:Int):=by omega
   have hj1:(j:Int)<(m:Int):=by omega
   obtain⟨pb,hpb⟩:∃ pb,p j t=pb:=⟨_,rfl⟩
   rw [hpb] at HC hst
   clear hown hl ht hA hc hpb
   go_wp2_with fail
   refine HC.out.mono ?_
   rintro e w1 ⟨rfl,q,rfl⟩
   have HO1:=hid (owns_same (w':=wr.drewN q) HO.out (fun g _=>rfl))
   have hBw:Below w.heap.size w (wr.drewN q):=below_drewN hB q
   have hBws:=hBw.size
   clear HO HC hB
   cases pb with
   | true =>
    go_wp2_with (at_builtin;refine wpList_append_lies _ rfl _ _ _ rfl w.heap.size 179 i0 _ 1 8 Tryz.underlying160 hi0 hz0 hz1 hz2 rfl (by omega) u5 _ _ rfl (HO1.out.alloc _) ⟨(wr.drewN q).heap.size,0,none⟩ 1 1 [.pointer (some ⟨l.b,0,none⟩)] rfl rfl (World.news_of_block (cs:=#[.pointer (some ⟨l.b,0,none⟩)]) (t:=179) (fr:=(0,0)) (heap_alloc_new (wr.drewN q) _)) (by simp [Value.oneCell']) (by omega) (by unfold maxLen;omega) (by omega) (by simp;omega) ((wr.drewN q).heap.size+1) (by simp) ?_;intro g' cap' w2 ho hgrow hat hlt2)
    go_roundw
    case rel =>
     refine⟨j+1,by omega,by go_num,?_,?_⟩
     ·rw [show thoseN E p (j+1)=thoseN E p j++[j] from by simpa using hst.out,List.length_append,hpt.out];exact ho
     ·exact hBw.trans ((((Below.refl _ (wr.drewN q)).alloc (Nat.le_refl _) _).mono hBws).grown hgrow (by simp;omega) (fun k e=>(HO1.out.lt k e).1))
    case measure=>simp [intOf];omega
   | false =>
    go_wp2
    go_roundw
    case rel=>exact⟨j+1,by omega,by go_num,by rw [show thoseN E p (j+1)=thoseN E p j from by simpa using hst.out];exact HO1.out,hBw⟩
    case measure=>simp [intOf];omega
  ·obtain rfl:j=m:=by omega
   have HO:=hid hown
   clear hown
   go_wp2
   go_ret
   exact⟨_,rfl,HO.out,hB⟩
end Go.Proofs.YtjefgmeejhakbaaGreatDoor
/- base's sum and number: of bytes. -/
namespace Go.Proofs.YtjefgmeejhakbaaGreatDoor
open Go.RowKit
def BytesAt (w:World) (ad:Option Addr) (l:List Int):Prop:=∀ (i:Nat) (x:Int),l[i]?=some x→(0≤x∧x<256)∧∃ g off,ad=some ⟨g,off,none⟩∧w.cell? ⟨g,off+i,none⟩=some (.int .u8 x)
def sumStep (s x:Int):Int:=IntKind.u64.wrap (IntKind.u64.wrap (IntKind.u64.wrap (s*257)+x)+1)
def sumP (l:List Int):Int:=l.foldl sumStep 0
theorem sumP_take {l:List Int} {i:Nat} {x:Int} (h:l[i]?=some x):sumP (l.take (i+1))=sumStep (sumP (l.take i)) x:=by
 rw [List.take_add_one,h]
 unfold sumP
 rw [List.foldl_append]
 rfl
set_option maxRecDepth 100000 in
set_option maxHeartbeats 400000 in
theorem bsum_any (ad:Option Addr) (cap:Nat) (l:List Int) (w:World) (hn:l.length≤100000) (hA:BytesAt w ad l) :
  Calls Tryz.prog 158 #[.slice ad l.length cap] w fun e w'=>e=.returned (.int .u64 (sumP l))∧w'=w:=by
 have HA:=hid hA
 clear hA
 go_enter Tryz.func158,Tryz.ntmps158
 go_wp2
 go_loopw [3,7] (fun sv iv wr=>∃ i:Nat,iv=.int .i64 i∧i≤l.length∧sv=.int .u64 (sumP (l.take i))∧wr=w) (fun _ iv _=>l.length-(intOf iv).toNat)
 case atStart=>exact⟨0,rfl,Nat.zero_le _,rfl,rfl⟩
 case round =>
  obtain⟨i,rfl,hi,rfl,rfl⟩:=hrel
  by_cases hlt:i<l.length
  ·obtain⟨x,hx⟩:∃ x,l[i]?=some x:=⟨_,List.getElem?_eq_getElem hlt⟩
   obtain⟨hb,g,off,rfl,hc⟩:=HA.out i x hx
   have gi0:(0:Int)≤(i:Int):=by omega
   have gi1:(i:Int)<(l.length:Int):=by omega
   have hstep:=sumP_take hx
   go_wp2
   go_roundw
   case rel=>exact⟨i+1,by go_num,by omega,by rw [hstep];rfl,by first | rfl | trivial⟩
   case measure=>simp [intOf];omega
  ·obtain rfl:i=l.length:=by omega
   have gi1:¬ (l.length:Int)<(l.length:Int):=by omega
   go_wp2
   go_ret
   exact⟨rfl,rfl⟩
def numN (l:List Int):Nat→Nat
 | 0=>0
 | i+1=>numN l i+(l[i]?.getD 0).toNat*2 ^ (8*i)
theorem numN_lt {l:List Int} (h:∀ x∈l,0≤x∧x<256):∀ i,numN l i<2 ^ (8*i)
 | 0=>by simp [numN]
 | i+1=>by
  have ih:=numN_lt h i
  have hx:(l[i]?.getD 0).toNat≤255:=by
   cases hl:l[i]? with
   | none=>simp
   | some x=>have:=h x (List.mem_of_getElem? hl);simp;omega
  unfold numN
  rw [show 8*(i+1)=8*i+8 by omega,Nat.pow_add]
  have:=Nat.mul_le_mul_right (2 ^ (8*i)) hx
  omega
theorem or_add (a b i:Nat) (h:a<2 ^ i):a ||| (b*2 ^ i)=a+b*2 ^ i:=by
 rw [Nat.or_comm,← Nat.shiftLeft_eq,← Nat.shiftLeft_add_eq_or_of_lt h,Nat.shiftLeft_eq]
 omega
set_option maxRecDepth 100000 in
set_option maxHeartbeats 400000 in
theorem bnumber_any (ad:Option Addr) (n cap:Nat) (l:List Int) (w:World) (hn:8≤n) (hA:BytesAt w ad l) (hl:8≤l.length) :
  Calls Tryz.prog 209 #[.slice ad n cap] w fun e w'=>e=.returned (.int .u64 (numN l 8:Nat))∧w'=w:=by
 have hall:∀ x∈l,0≤x∧x<256:=fun x hx=>by
  obtain⟨i,hi,e⟩:=List.getElem_of_mem hx
  exact (hA i x (by rw [List.getElem?_eq_getElem hi,e])).1
 have HA:=hid hA
 have HL:=hid (numN_lt hall)
 clear hA hall
 go_enter Tryz.func209,Tryz.ntmps209
 go_wp2
 go_loopw [3,5] (fun sv iv wr=>∃ i:Nat,iv=.int .i64 i∧i≤8∧sv=.int .u64 (numN l i:Nat)∧wr=w) (fun _ iv _=>8-(intOf iv).toNat)
 case atStart=>exact⟨0,rfl,Nat.zero_le _,rfl,rfl⟩
 case round =>
  obtain⟨i,rfl,hi,rfl,rfl⟩:=hrel
  by_cases hlt:i<8
  ·obtain⟨x,hx⟩:∃ x,l[i]?=some x:=⟨_,List.getElem?_eq_getElem (by omega)⟩
   obtain⟨hb,g,off,rfl,hc⟩:=HA.out i x hx
   have gi0:(0:Int)≤(i:Int):=by omega
   have gi1:(i:Int)<(n:Int):=by omega
   have gi8:(i:Int)<8:=by omega
   have gm:IntKind.i64.wrap (8*(i:Int))=8*(i:Int):=IntWalk.i64_in _ (by omega)
   have key:bits BinOp.or IntKind.u64 (numN l i:Nat) (IntKind.u64.wrap (x*2 ^ (8*i)))=((numN l (i+1):Nat):Int):=by
    have h1:=HL.out i
    have h3:2 ^ (8*i)≤2 ^ 56:=Nat.pow_le_pow_right (by decide) (by omega)
    have h4:=HL.out (i+1)
    have h5:2 ^ (8*(i+1))≤2 ^ 64:=Nat.pow_le_pow_right (by decide) (by omega)
    obtain⟨y,rfl⟩:=Int.eq_ofNat_of_zero_le hb.1
    have hy:y≤255:=by omega
    have h6:y*2 ^ (8*i)≤255*2 ^ 56:=Nat.mul_le_mul hy h3
    have e1:((y:Int)*2 ^ (8*i))=((y*2 ^ (8*i):Nat):Int):=by simp
    have e2:IntKind.u64.wrap ((y*2 ^ (8*i):Nat):Int)=((y*2 ^ (8*i):Nat):Int):=IntWalk.u64_in _ (by omega)
    rw [e1,e2,u64_or_nat _ _ (by omega) (by omega),or_add _ _ _ h1,numN,hx]
    simp
   go_wp2
   go_roundw
   case rel=>exact⟨i+1,by go_num,by omega,rfl,by first | rfl | trivial⟩
   case measure=>simp [intOf];omega
  ·obtain rfl:i=8:=by omega
   go_wp2
   go_ret
   exact⟨rfl,rfl⟩
def byteOf (n:Nat) (i:Nat):Int:=((n / 2 ^ (8*i)%256:Nat):Int)
def bytesN (n:Nat):Nat→List Int
 | 0=>[]
 | i+1=>bytesN n i++[byteOf n i]
theorem bytesN_len (n:Nat):∀ i,(bytesN n i).length=i
 | 0=>rfl
 | i+1=>by unfold bytesN;rw [List.length_append,bytesN_len n i];rfl
theorem bytesN_get (n:Nat):∀ (i j:Nat),j<i→(bytesN n i)[j]?=some (byteOf n j)
 | 0,j,h=>by omega
 | i+1,j,h=>by
  unfold bytesN
  by_cases e:j<i
  ·rw [List.getElem?_append_left (by rw [bytesN_len];exact e),bytesN_get n i j e]
  ·obtain rfl:j=i:=by omega
   rw [List.getElem?_append_right (by rw [bytesN_len];exact Nat.le_refl _),bytesN_len]
   simp
theorem byteOf_lt (n i:Nat):0≤byteOf n i∧byteOf n i<256:=by
 unfold byteOf
 have:=Nat.mod_lt (n / 2 ^ (8*i)) (show 0<256 by decide)
 omega
theorem bytesN_in (n:Nat):∀ i,∀ x∈bytesN n i,0≤x∧x<256:=fun i x hx=>by
 obtain⟨j,hj,e⟩:=List.getElem_of_mem hx
 have:=bytesN_get n i j (by rw [bytesN_len] at hj;exact hj)
 rw [List.getElem?_eq_getElem hj,e] at this
 injection this with this
 rw [this]
 exact byteOf_lt n j
theorem numN_bytes (n:Nat) (r:List Int):∀ i,i≤8→numN (bytesN n 8++r) i=n%2 ^ (8*i)
 | 0,_=>by simp [numN,Nat.mod_one]
 | i+1,hi=>by
  unfold numN
  rw [numN_bytes n r i (by omega),List.getElem?_append_left (by rw [bytesN_len];omega),bytesN_get n 8 i (by omega)]
  simp only [Option.getD_some,byteOf,Int.toNat_natCast]
  rw [show 8*(i+1)=8*i+8 by omega,Nat.pow_add,Nat.mod_mul,Nat.mul_comm (2 ^ (8*i))]
theorem number_bytes {n:Nat} (h:n<2 ^ 64) (r:List Int):numN (bytesN n 8++r) 8=n:=by
 rw [numN_bytes n r 8 (Nat.le_refl _)]
 exact Nat.mod_eq_of_lt h
theorem info5:(Tryz.prog.info? 5).map (fun i=>(i.zero,i.size,i.bytes))=some (some (.int .u8 0),1,1):=by kernel_rfl
def u8V (l:List Int):List Value:=l.map (Value.int .u8)
theorem u8V_get {l:List Int} {j:Nat} {x:Int} (h:l[j]?=some x):(u8V l)[j]?=some (.int .u8 x):=by simp [u8V,h]
theorem u8V_append (l m:List Int):u8V (l++m)=u8V l++u8V m:=by simp [u8V]
set_option maxRecDepth 100000 in
set_option maxHeartbeats 400000 in
theorem appendNumber_any (v:Value) (l:List Int) (n base:Nat) (w:World) (hl:l.length≤10000) (hb:base≤w.heap.size) (h:w.ownsRow base 5 1 v l.length (u8V l)) :
  Calls Tryz.prog 157 #[v,.int .u64 (n:Int)] w fun e w'=>∃ v',e=.returned v'∧w'.ownsRow base 5 1 v' (l++bytesN n 8).length (u8V (l++bytesN n 8))∧Below base w w':=by
 obtain⟨i0,hi0,hz0,hz1,hz2⟩:=info_parts info5
 have HO:=hid h
 clear h
 go_enter Tryz.func157,Tryz.ntmps157
 go_wp2
 go_loopw [0,6] (fun tv iv wr=>∃ i:Nat,iv=.int .i64 i∧i≤8∧Hid (wr.ownsRow base 5 1 tv (l++bytesN n i).length (u8V (l++bytesN n i))∧Below base w wr)) (fun _ iv _=>8-(intOf iv).toNat)
 case atStart=>exact⟨0,rfl,Nat.zero_le _,by simpa [bytesN] using HO.out,Below.refl _ _⟩
 case round =>
  obtain⟨i,rfl,hi,HX⟩:=hrel
  by_cases hlt:i<8
  ·have gi8:(i:Int)<8:=by omega
   have gm:IntKind.i64.wrap (8*(i:Int))=8*(i:Int):=IntWalk.i64_in _ (by omega)
   have hln:(l++bytesN n i).length=l.length+i:=by rw [List.length_append,bytesN_len]
   have hln2:(l++bytesN n (i+1)).length=l.length+i+1:=by rw [List.length_append,bytesN_len];omega
   have hby:((n:Int) / 2 ^ (8*i)%256)=byteOf n i:=by
    unfold byteOf
    simp
   obtain⟨y,hy⟩:∃ y,byteOf n i=y:=⟨_,rfl⟩
   have hst:Hid (u8V (l++bytesN n (i+1))=u8V (l++bytesN n i)++[.int .u8 y]):=by
    show _=_
    rw [bytesN,← List.append_assoc,u8V_append,hy]
    rfl
   rw [hy] at hby
   have HO2:=hid HX.out.1
   rw [hln] at HO2
   have HB2:=hid HX.out.2
   have hbs:base≤wr.heap.size:=Nat.le_trans hb HX.out.2.size
   have HLN:=hid hln2
   clear hln hln2 hy
   go_wp2_with (at_builtin;refine wpList_append_lies _ rfl _ _ _ rfl base 5 i0 _ 1 1 Tryz.underlying93 hi0 hz0 hz1 hz2 rfl (by omega) u0 _ _ rfl (HO2.out.alloc _) ⟨wr.heap.size,0,none⟩ 1 1 [.int .u8 y] rfl rfl (World.news_of_block (cs:=#[.int .u8 y]) (t:=5) (fr:=(0,0)) (heap_alloc_new wr _)) (by simp [Value.oneCell']) (by omega) (by unfold maxLen;omega) (by omega) (by simp;omega) (wr.heap.size+1) (by simp) ?_;intro g' cap' w2 ho hgrow hat hlt2)
   go_roundw
   case rel =>
    refine⟨i+1,by go_num,by omega,?_,?_⟩
    ·rw [hst.out,HLN.out];exact ho
    ·exact HB2.out.trans ((((Below.refl _ wr).alloc (Nat.le_refl _) _).mono hbs).grown hgrow (by simp;omega) (fun k e=>(HO2.out.lt k e).1))
   case measure=>simp [intOf];omega
  ·obtain rfl:i=8:=by omega
   go_wp2
   go_ret
   exact⟨_,rfl,HX.out⟩
end Go.Proofs.YtjefgmeejhakbaaGreatDoor
