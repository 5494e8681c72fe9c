/- EnWrite EnRest EnKeys: put together for a claim. -/
import Derived.Test.YtjefgmeejhakbabGreatDoorEnRead
import Derived.Test.YtjefgmeejhakbabGreatDoorEnShelf
namespace Go.Proofs.YtjefgmeejhakbabGreatDoor
open Go.RowKit
variable {w w':World} {L:EnL} {E:Eng}
theorem mem_ask {T:Tab} {q:Int→Nat} {tx key k x:Int} (h:x∈(askP T q tx key).2.2 k):x∈T k∨x=tx:=by
 unfold askP at h
 split at h
 ·exact .inl h
 split at h
 ·exact .inl h
 split at h
 ·exact .inl h
 split at h
 ·by_cases e:k=key
  ·subst e;simp only [updT_same,List.mem_singleton] at h;exact .inr h
  ·simp only [updT_other _ _ e] at h;exact .inl h
 split at h
 ·exact .inl h
 ·by_cases e:k=key
  ·subst e
   simp only [updT_same,List.mem_append,List.mem_singleton] at h
   exact h
  ·simp only [updT_other _ _ e] at h;exact .inl h
noncomputable def writeE (f:Nat) (q:Int→Nat) (E:Eng) (i:Nat) (key val:Int):Option ((Bool × Int) × Eng):=match E.txs[i]? with
 | some t =>
  if key<0∨10≤key then some ((false,2),E) else
  if val < -1099511627776∨1099511627776<val then some ((false,1),E) else
  if (askP E.T q ((i:Int)+1) key).2.1≠0 then (endF f (loseE { (E.setTx i { t with wk:=key,wv:=val }) with T:=(askP E.T q ((i:Int)+1) key).2.2 } i 11) i 3).map (fun E'=>((false,11),E')) else
  if (askP E.T q ((i:Int)+1) key).1=false then some ((false,0),Eng.setTx { (E.setTx i { t with wk:=key,wv:=val }) with T:=(askP E.T q ((i:Int)+1) key).2.2 } i { t with wk:=key,wv:=val,state:=1 }) else
  (writeR (endF f) { (E.setTx i { t with wk:=key,wv:=val }) with T:=(askP E.T q ((i:Int)+1) key).2.2 } i).map (fun R=>((decide (R.1=0),R.1),R.2))
 | none=>none
theorem txCells_wk (n:Int) (l:TxL) (t:Tx) (v:Int):(txCells n l t).setIfInBounds 6 (.int .i64 v)=txCells n l { t with wk:=v }:=by unfold txCells;simp
theorem txCells_wv (n:Int) (l:TxL) (t:Tx) (v:Int):(txCells n l t).setIfInBounds 7 (.int .i64 v)=txCells n l { t with wv:=v }:=by unfold txCells;simp
set_option maxRecDepth 100000 in
set_option maxHeartbeats 1000000 in
theorem write_shut (h:EnAt w L E) {n key val c:Int} (hc:(c=7∧(n<1∨(E.txs.length:Int)<n))∨(c=6∧∃ (i:Nat) (t:Tx),n=(i:Int)+1∧E.txs[i]?=some t∧t.state≠0)) :
  Calls Tryz.prog 124 #[.pointer (some ⟨L.s,0,none⟩),.int .i64 n,.int .i64 key,.int .i64 val] w fun e w'=>e=.returned (.tuple #[.bool false,errV c])∧w'=w:=by
 have HO:Hid (Calls Tryz.prog 194 #[.pointer (some ⟨L.s,0,none⟩),.int .i64 n] w fun e w'=>e=.returned (.tuple #[.pointer none,errV c])∧w'=w):=by
  rcases hc with ⟨rfl,hn⟩ | ⟨rfl,i,t,rfl,ht,hs⟩
  ·exact open_err h hn
  ·obtain⟨l,hl,_⟩:=h.get ht
   exact open_state h hl ht hs
 have h0:c≠0:=by rcases hc with ⟨rfl,_⟩ | ⟨rfl,_⟩<;>decide
 rw [show errV c=Value.iface 33 (.int .i64 c) from if_neg h0] at HO ⊢
 clear h hc h0
 go_enter Tryz.func124,Tryz.ntmps124
 go_wp2_with fail
 refine HO.out.mono ?_
 rintro e w1 ⟨rfl,rfl⟩
 go_wp2
 go_ret2
 exact⟨rfl,rfl⟩
set_option maxRecDepth 100000 in
set_option maxHeartbeats 1000000 in
theorem write_bad (h:EnAt w L E) {i:Nat} {t:Tx} {key val c:Int} (ht:E.txs[i]?=some t) (hs:t.state=0) (hc:((key<0∨10≤key)∧c=2)∨((0≤key∧key<10)∧(val < -1099511627776∨1099511627776<val)∧c=1)) :
  Calls Tryz.prog 124 #[.pointer (some ⟨L.s,0,none⟩),.int .i64 ((i:Int)+1),.int .i64 key,.int .i64 val] w fun e w'=>e=.returned (.tuple #[.bool false,errV c])∧w'=w:=by
 obtain⟨l,hl,_⟩:=h.get ht
 have HO:=hid (open_ok h hl ht hs)
 clear h ht hs hl
 rcases hc with ⟨hk,rfl⟩ | ⟨hk,hv,rfl⟩
 ·by_cases g1:key<0
  ·clear hk
   go_enter Tryz.func124,Tryz.ntmps124
   go_wp2_with fail
   refine HO.out.mono ?_
   rintro e w1 ⟨rfl,rfl⟩
   go_wp2
   go_ret2
   exact⟨rfl,rfl⟩
  ·have g2:decide (10≤key)=true:=by simp;omega
   clear hk
   go_enter Tryz.func124,Tryz.ntmps124
   go_wp2_with fail
   refine HO.out.mono ?_
   rintro e w1 ⟨rfl,rfl⟩
   go_wp2
   go_ret2
   exact⟨rfl,rfl⟩
 ·have g1:¬ key<0:=by omega
  have g2:¬ 10≤key:=by omega
  by_cases g3:val < -1099511627776
  ·clear hk hv
   go_enter Tryz.func124,Tryz.ntmps124
   go_wp2_with fail
   refine HO.out.mono ?_
   rintro e w1 ⟨rfl,rfl⟩
   go_wp2
   go_ret2
   exact⟨rfl,rfl⟩
  ·have g4:decide (1099511627776<val)=true:=by simp;omega
   clear hk hv
   go_enter Tryz.func124,Tryz.ntmps124
   go_wp2_with fail
   refine HO.out.mono ?_
   rintro e w1 ⟨rfl,rfl⟩
   go_wp2
   go_ret2
   exact⟨rfl,rfl⟩
set_option maxRecDepth 100000 in
set_option maxHeartbeats 4000000 in
theorem write_main (h:EnAt w L E) (hf:Fits E) {f:Nat} {q:Int→Nat} (hq:Ranked E.T q) {i:Nat} {t:Tx} (ht:E.txs[i]?=some t) (hs:t.state=0) {key val:Int} (hk:0≤key∧key<10) (hv:-1099511627776≤val∧val≤1099511627776)
  {R:(Bool × Int) × Eng} (hR:writeE f q E i key val=some R) :
  Calls Tryz.prog 124 #[.pointer (some ⟨L.s,0,none⟩),.int .i64 ((i:Int)+1),.int .i64 key,.int .i64 val] w fun e w'=>e=.returned (.tuple #[.bool R.1.1,errV R.1.2])∧EnPost L R.2 w w':=by
 obtain⟨l,hl,hA⟩:=h.get ht
 have HO:=hid (open_ok h hl ht hs)
 have hi:=(List.getElem?_eq_some_iff.1 ht).1
 have hle:=h.le
 obtain⟨h1,k1⟩:=h.setCell hl ht (txCells_wk _ l t key) rfl rfl hA.sl rfl rfl hk
 have hA1:=h1.txs i l _ hl (setTx_get ht)
 obtain⟨h2,k2⟩:=h1.setCell hl (setTx_get ht) (txCells_wv _ l _ val) rfl rfl hA1.sl rfl rfl hk
 rw [setTx_twice] at h2
 have c6:=hA.c6
 have c7:=hA.c7
 have f6:=hA.free 6
 have f7:=hA.free 7
 have d7:=hA1.c7
 have e7:=hA1.free 7
 obtain⟨w2,hw2⟩:∃ w2,(w.setCell ⟨l.b,6,none⟩ (.int .i64 key)).setCell ⟨l.b,7,none⟩ (.int .i64 val)=w2:=⟨_,rfl⟩
 rw [hw2] at h2 k2
 have hask:=ask_any (C:=L.C E.last) L.s 201 L.M E.T q ((i:Int)+1) key w2 h2.loc h.good hq (by unfold I64;omega) (by unfold I64;omega) (by omega)
 rw [h.o] at hask
 have hgood:=h.good.ask hq ((i:Int)+1) key (by omega)
 have HSET:=hid (fun (w3:World) (M':LkM) (N:Nat) (hT:TabAt (L.C E.last) w3 L.s N M' (askP E.T q ((i:Int)+1) key).2.2) (hK:KeptO (L.M.own L.s) (M'.own L.s) w2 w3) =>
  h2.setLock hT hK hgood (fun k x hx=>by
   rw [setTx_len]
   rcases mem_ask hx with h3 | h3
   ·exact h.mem k x h3
   ·omega))
 unfold writeE at hR
 rw [ht] at hR
 simp only at hR
 rw [if_neg (by omega),if_neg (by omega)] at hR
 obtain⟨ab,ac,aT,haq⟩:∃ ab ac aT,askP E.T q ((i:Int)+1) key=(ab,ac,aT):=⟨_,_,_,rfl⟩
 rw [haq] at hask hR HSET
 unfold AskPost at hask
 simp only at hask hR HSET
 obtain⟨E2,hE2⟩:∃ E2:Eng,({ (E.setTx i { t with wk:=key,wv:=val }) with T:=aT }:Eng)=E2:=⟨_,rfl⟩
 have htx2:E2.txs[i]?=some { t with wk:=key,wv:=val }:=by rw [← hE2];exact setTx_get ht
 have hks2:E2.ks=E.ks:=by rw [← hE2];rfl
 rw [hE2] at hR HSET
 have HASK:=hid hask
 have HK:=hid (k1.trans k2)
 have HL:=hid hl
 have HF:=hid hf
 have HTX:=hid htx2
 have HKS:=hid hks2
 have g1:¬ key<0:=by omega
 have g2:¬ 10≤key:=by omega
 have g3:¬ val < -1099511627776:=by omega
 have g4:¬ 1099511627776<val:=by omega
 have HRR:=hid hR
 clear h hl ht hs hA h1 k1 hA1 h2 k2 hask hgood haq hE2 htx2 hks2 hR hf hq
 go_enter Tryz.func124,Tryz.ntmps124
 go_wp2_with fail
 refine HO.out.mono ?_
 rintro e w1 ⟨rfl,hw1⟩
 rw [hw1]
 clear hw1 w1
 go_wp2_with fail
 try rw [hw2]
 refine HASK.out.mono ?_
 rintro e w3 ⟨rfl,M',hT3,hK3⟩
 obtain⟨hE3,hKE3⟩:=HSET.out w3 M' _ hT3 hK3
 have HE3:=hid hE3
 have HKE3:=hid (HK.out.trans hKE3)
 clear hT3 hK3 hE3 hKE3 HASK HSET
 by_cases hc:ac=0
 ·subst hc
  have hRR:=HRR.out
  rw [if_neg (by simp)] at hRR
  rw [show errV 0=Value.nilIface from rfl]
  cases ab with
  | false =>
   rw [if_pos rfl] at hRR
   injection hRR with hRR
   have hA3:=HE3.out.txs (L:={ L with M:=M' }) i l _ HL.out HTX.out
   obtain⟨h4,k4⟩:=HE3.out.setCell (L:={ L with M:=M' }) HL.out HTX.out (txCells_state _ l _ 1) rfl rfl hA3.sl rfl rfl hA3.wkr
   have z3:=hA3.c3
   have zf:=hA3.free 3
   have HP:=hid (show EnPost L R.2 w _ from ⟨{ L with M:=M' },by rw [← hRR];exact h4,HKE3.out.trans k4,rfl,rfl⟩)
   have HR2:=hid (show R.1=(false,0) from by rw [← hRR])
   clear hRR hA3 h4 k4
   go_wp2
   go_ret2
   rw [HR2.out]
   exact⟨rfl,HP.out⟩
  | true =>
   rw [if_neg (by simp)] at hRR
   rcases hwr:writeR (endF f) E2 i with _ | ⟨why,E5⟩
   ·rw [hwr] at hRR;cases hRR
   rw [hwr] at hRR
   simp only [Option.map_some,Option.some.injEq] at hRR
   have HC:=hid (write_any (L:={ L with M:=M' }) (end_ok f) HE3.out HL.out HTX.out (by rw [HKS.out];exact HF.out.len) hwr)
   clear hwr
   go_wp2_with fail
   refine HC.out.mono ?_
   rintro e w4 ⟨rfl,L4,hE4,hK4,hs4,hb4⟩
   have HP:=hid (show EnPost L R.2 w w4 from ⟨L4,by rw [← hRR];exact hE4,HKE3.out.trans hK4,hs4,hb4⟩)
   have HR2:=hid (show R.1=(decide (why=0),why) from by rw [← hRR])
   clear hRR hE4 hK4 hs4 hb4 HC
   by_cases h0:why=0
   ·subst h0
    go_wp2
    go_ret2
    rw [HR2.out]
    exact⟨rfl,HP.out⟩
   ·have e0:(why != 0)=true:=by simpa using h0
    have hr2:=HR2.out
    rw [show decide (why=0)=false from by simpa using h0] at hr2
    have HE:=hid (show errV why=Value.iface 33 (.int .i64 why) from if_neg h0)
    clear h0
    go_wp2
    go_ret2
    rw [hr2,HE.out]
    exact⟨rfl,HP.out⟩
 ·have hRR:=HRR.out
  rw [if_pos hc] at hRR
  obtain⟨E9,hE9,hR2⟩:∃ E9,endF f (loseE E2 i 11) i 3=some E9∧R=((false,11),E9):=by
   cases he:endF f (loseE E2 i 11) i 3 with
   | none=>rw [he] at hRR;cases hRR
   | some E9=>rw [he] at hRR;simp at hRR;exact⟨E9,rfl,hRR.symm⟩
  have HC:=hid (lose_any (L:={ L with M:=M' }) (end_ok f) HE3.out HL.out HTX.out 11 (by rw [HKS.out];exact HF.out.len) hE9)
  have HR2:=hid hR2
  rw [show errV ac=Value.iface 33 (.int .i64 ac) from if_neg hc]
  clear hRR hR2 hE9 hc
  go_wp2_with fail
  refine HC.out.mono ?_
  rintro e w4 ⟨rfl,L4,hE4,hK4,hs4,hb4⟩
  have HP:=hid (show EnPost L E9 w w4 from ⟨L4,hE4,HKE3.out.trans hK4,hs4,hb4⟩)
  clear hE4 hK4 hs4 hb4 HC
  go_wp2
  go_ret2
  rw [HR2.out]
  exact⟨rfl,HP.out⟩
end Go.Proofs.YtjefgmeejhakbabGreatDoor
namespace Go.Proofs.YtjefgmeejhakbabGreatDoor
open Go.RowKit
variable {w w':World} {L:EnL} {E:Eng}
set_option maxRecDepth 100000 in
set_option maxHeartbeats 1000000 in
theorem abort_miss (h:EnAt w L E) {n:Int} (hn:n<1∨(E.txs.length:Int)<n) :
  Calls Tryz.prog 95 #[.pointer (some ⟨L.s,0,none⟩),.int .i64 n] w fun e w'=>e=.returned (errV 7)∧w'=w:=by
 have HO:=hid (find_err h hn)
 rw [show errV 7=Value.iface 33 (.int .i64 7) from rfl] at HO ⊢
 clear h hn
 go_enter Tryz.func95,Tryz.ntmps95
 go_wp2_with fail
 refine HO.out.mono ?_
 rintro e w1 ⟨rfl,rfl⟩
 go_wp2
 go_ret
 exact⟨rfl,rfl⟩
set_option maxRecDepth 100000 in
set_option maxHeartbeats 1000000 in
theorem abort_over (h:EnAt w L E) {i:Nat} {t:Tx} (ht:E.txs[i]?=some t) (hs:liveB t.state=false) :
  Calls Tryz.prog 95 #[.pointer (some ⟨L.s,0,none⟩),.int .i64 ((i:Int)+1)] w fun e w'=>e=.returned (errV 6)∧w'=w:=by
 obtain⟨l,hl,hA⟩:=h.get ht
 have HO:=hid (find_ok h hl)
 have HL:=hid (lives_any l.b t.state w hA.c3)
 rw [hs] at HL
 clear h ht hs hl hA
 go_enter Tryz.func95,Tryz.ntmps95
 go_wp2_with fail
 refine HO.out.mono ?_
 rintro e w1 ⟨rfl,rfl⟩
 go_wp2_with fail
 refine HL.out.mono ?_
 rintro e w1 ⟨rfl,rfl⟩
 go_wp2
 go_ret
 exact⟨rfl,rfl⟩
set_option maxRecDepth 100000 in
set_option maxHeartbeats 1000000 in
theorem abort_main (h:EnAt w L E) (hf:Fits E) {f:Nat} {i:Nat} {t:Tx} (ht:E.txs[i]?=some t) (hs:liveB t.state=true) {E':Eng} (hE:endF f (loseE E i 0) i 3=some E') :
  Calls Tryz.prog 95 #[.pointer (some ⟨L.s,0,none⟩),.int .i64 ((i:Int)+1)] w fun e w'=>e=.returned (errV 0)∧EnPost L E' w w':=by
 obtain⟨l,hl,hA⟩:=h.get ht
 have HO:=hid (find_ok h hl)
 have HL:=hid (lives_any l.b t.state w hA.c3)
 rw [hs] at HL
 have HC:=hid (lose_any (end_ok f) h hl ht 0 hf.len hE)
 clear h ht hs hl hA hE hf
 go_enter Tryz.func95,Tryz.ntmps95
 go_wp2_with fail
 refine HO.out.mono ?_
 rintro e w1 ⟨rfl,hw1⟩
 rw [hw1]
 clear hw1 w1
 go_wp2_with fail
 refine HL.out.mono ?_
 rintro e w1 ⟨rfl,hw1⟩
 rw [hw1]
 clear hw1 w1
 go_wp2_with fail
 refine HC.out.mono ?_
 rintro e w1 ⟨rfl,hP⟩
 have HP:=hid hP
 clear hP HC
 go_wp2
 go_ret
 exact⟨rfl,HP.out⟩
set_option maxRecDepth 100000 in
set_option maxHeartbeats 1000000 in
theorem state_ok (h:EnAt w L E) {i:Nat} {t:Tx} (ht:E.txs[i]?=some t) :
  Calls Tryz.prog 120 #[.pointer (some ⟨L.s,0,none⟩),.int .i64 ((i:Int)+1)] w fun e w'=>e=.returned (.tuple #[.int .i64 t.state,.int .i64 t.why,.nilIface])∧∃ q,w'=w.drewN q:=by
 obtain⟨l,hl,hA⟩:=h.get ht
 have c3:=hA.c3
 have c4:=hA.c4
 have HO:=hid (find_ok h hl)
 clear h ht hl hA
 go_enter Tryz.func120,Tryz.ntmps120
 go_wp2_with fail
 refine HO.out.mono ?_
 rintro e w1 ⟨rfl,hw1⟩
 rw [hw1]
 clear hw1 w1
 go_wp2
 go_quiet (fail)
 go_wp2
 go_ret3
 exact⟨rfl,_,rfl⟩
set_option maxRecDepth 100000 in
set_option maxHeartbeats 1000000 in
theorem state_err (h:EnAt w L E) {n:Int} (hn:n<1∨(E.txs.length:Int)<n) :
  Calls Tryz.prog 120 #[.pointer (some ⟨L.s,0,none⟩),.int .i64 n] w fun e w'=>e=.returned (.tuple #[.int .i64 0,.int .i64 0,errV 7])∧w'=w:=by
 have HO:=hid (find_err h hn)
 rw [show errV 7=Value.iface 33 (.int .i64 7) from rfl] at HO ⊢
 clear h hn
 go_enter Tryz.func120,Tryz.ntmps120
 go_wp2_with fail
 refine HO.out.mono ?_
 rintro e w1 ⟨rfl,rfl⟩
 go_wp2
 go_ret3
 exact⟨rfl,rfl⟩
def allE (E:Eng):List (Int × Int):=allK (fun k=>rdP E.last (E.ks[k]?.getD [])) 10
set_option maxRecDepth 100000 in
set_option maxHeartbeats 1000000 in
theorem allE_any (h:EnAt w L E) (hf:Fits E) :
    Calls Tryz.prog 97 #[.pointer (some ⟨L.s,0,none⟩)] w fun e w'=>∃ tv,e=.returned tv∧w'.ownsRow w.heap.size 122 2 tv (allE E).length (vrow (allE E))∧Below w.heap.size w w':=by
  have HL:=hid (fun q=>last_any _ _ _ _ _ (w.drewN q) (h.below (below_drewN (Below.refl _ w) q)).sto)
  have HA:=hid (fun q=>all_any _ _ _ E.last _ _ (w.drewN q) (h.below (below_drewN (Below.refl _ w) q)).sto (fun l hl=>Nat.le_trans (hf.len l hl) (by omega)))
  unfold allE
  clear h hf
  go_enter Tryz.func97,Tryz.ntmps97
  go_wp2
  go_region_held3 (fun W=>True)
    (first | go_keep | trivial)
    (first | (go_at_call 173
              refine (HL.out 1).mono ?_
              rintro e w2 ⟨rfl,hw2⟩
              rw [hw2]
              clear hw2 w2)
           | (go_at_call 172
              refine (HA.out 1).mono ?_
              rintro e w2 ⟨tv,rfl,ho,hB⟩
              have HO:=hid (And.intro ho hB)
              clear ho hB))
  go_wp2
  go_ret
  exact⟨_,rfl,HO.out.1,(below_drewN (Below.refl _ w) 1).trans HO.out.2⟩
set_option maxRecDepth 100000 in
set_option maxHeartbeats 1000000 in
theorem lastE_any (h:EnAt w L E) :
  Calls Tryz.prog 113 #[.pointer (some ⟨L.s,0,none⟩)] w fun e w'=>e=.returned (.int .i64 E.last)∧w'=w:=by
 have HL:=hid (last_any _ _ _ _ _ w h.sto)
 clear h
 go_enter Tryz.func113,Tryz.ntmps113
 go_wp2_with fail
 refine HL.out.mono ?_
 rintro e w1 ⟨rfl,rfl⟩
 go_wp2
 go_ret
 exact⟨rfl,rfl⟩
set_option maxRecDepth 100000 in
set_option maxHeartbeats 1000000 in
theorem txsE_any (h:EnAt w L E) :
  Calls Tryz.prog 112 #[.pointer (some ⟨L.s,0,none⟩)] w fun e w'=>e=.returned (.int .i64 (E.txs.length:Int))∧w'=w:=by
 have c14:=h.c14
 obtain⟨ad,cap,e⟩:=row_form h.all
 rw [h.len] at e
 rw [e] at c14
 have hle:=h.le
 clear h e
 go_enter Tryz.func112,Tryz.ntmps112
 go_wp2
 go_ret
 exact⟨rfl,rfl⟩
def waitsE (E:Eng) (n:Int):Int:=holdsP E.T (waitsP E.T n)
set_option maxRecDepth 100000 in
set_option maxHeartbeats 1000000 in
theorem waitsE_any (h:EnAt w L E) {n:Int} (hn:I64 n) :
  Calls Tryz.prog 122 #[.pointer (some ⟨L.s,0,none⟩),.int .i64 n] w fun e w'=>e=.returned (.int .i64 (waitsE E n))∧∃ q,w'=w.drewN q:=by
 have ho:=h.o
 obtain⟨hh,wa,ln,r,R⟩:=h.loc
 have HW:=hid (fun q=>waitsR L.s 201 L.M R n (w.drewN q) (r.below (below_drewN (Below.refl _ w) q)) hn)
 have HH:=hid (fun q=>holdsR L.s 201 L.M R (waitsP E.T n) (w.drewN q) (r.below (below_drewN (Below.refl _ w) q)) (waits_i64 E.T n))
 rw [ho] at HW HH
 unfold waitsE
 clear h r R ho
 go_enter Tryz.func122,Tryz.ntmps122
 go_wp2
 go_quiet (first | (go_at_call 201;refine Calls.quiet_of_same (HW.out _)) | (go_at_call 200;refine Calls.quiet_of_same (HH.out _)))
 go_wp2
 go_ret
 exact⟨rfl,_,rfl⟩
end Go.Proofs.YtjefgmeejhakbabGreatDoor
namespace Go.Proofs.YtjefgmeejhakbabGreatDoor
open Go.RowKit Go.Maps Go.Sort Go.Shelf
theorem sortsI (m:Nat):AnyZI.SortsIn Tryz.prog Tryz.lSorted_ren Fence.wide m :=
  ⟨fun blk off cap ss W hH hblk hsz=>callsIn_wide.2 (AnyM.slices_Sort_int Tryz.lSortI blk off cap ss W hH hblk hsz),
   fun p cap W=>callsIn_wide.2 (AnyM.slices_Sort_int_none Tryz.lSortI p cap W)⟩
theorem keys_any (mb:Option Nat) (W:World):Calls Tryz.prog 240 #[.map mb] W fun e w'=>e=.returned (.func (.func 302) #[] #[.pointer (some ⟨W.heap.size,0,none⟩)])∧w'=W.alloc (.cells #[.map mb] 131) :=
 (callsIn_wide (n:=5)).1 (AnyZI.keys_in Tryz.lKeys Fence.wide 5 trivial rfl mb W)
def keysOf {α:Type} (f:Int→Option α):List Int:=keysP.filter (fun k=>(f k).isSome)
theorem keysOf_nodup {α:Type} (f:Int→Option α):(keysOf f).Nodup:=List.Pairwise.filter _ (by decide)
theorem keysOf_rising {α:Type} (f:Int→Option α):(keysOf f).Pairwise (fun a b=>a≤b):=List.Pairwise.filter _ (by decide)
theorem mem_keysOf {α:Type} {f:Int→Option α} (hs:∀ a,f a≠none→0≤a∧a<10) (a:Int):a∈keysOf f↔(f a).isSome=true:=by
 unfold keysOf
 rw [List.mem_filter,mem_keysP]
 constructor
 ·exact fun h=>h.2
 ·intro h
  refine⟨hs a (fun e=>?_),h⟩
  rw [e] at h
  cases h
theorem keysOf_len {α:Type} (f:Int→Option α):(keysOf f).length≤10:=List.length_filter_le _ _
theorem sorted_any {b nn:Nat} {f:Int→Option Value} {w:World} (h:IMap w b nn f) (hs:∀ a,f a≠none→0≤a∧a<10) :
  Calls Tryz.prog 239 #[.func (.func 302) #[] #[.pointer (some ⟨w.heap.size,0,none⟩)]] (w.alloc (.cells #[.map (some b)] 131)) fun e w' =>
   ∃ v,e=.returned v∧w'.ownsRow (w.heap.size+1) 3 1 v (keysOf f).length (intsV (keysOf f))∧Below (w.heap.size+1) (w.alloc (.cells #[.map (some b)] 131)) w':=by
 have h10:=h.upTo 10 hs
 obtain⟨D0,hown,h2⟩:=h10
 have hbl:=hown.lt
 have hmax:Maps.size D0≤10:=hown.size_le
 have hc:CollectedI D0 (fun _=>false) (keysOf f):=⟨keysOf_nodup f,fun x=>by rw [mem_keysOf hs,(h2 x).1];simp⟩
 have hperm0:=hc.perm hown lawI Tryz.underlying3 (fun _=>rfl)
 have hseq:SeqGives Fence.wide 2 Tryz.prog 302 #[.pointer (some ⟨w.heap.size,0,none⟩)] encZ (fun ss=>ss.Perm (intKeys D0)) (Maps.size D0) (w.alloc (.cells #[.map (some b)] 131)) :=
  AnyZI.keys_gives (ρ:=Tryz.lKeys_ren) { Tryz.lKeys with } Fence.wide _ trivial rfl (by omega) w.heap.size b 10 D0 _ (by simp) (by simp) (by
   obtain⟨es,clock,hb,Ft,hs,hD⟩:=hown
   exact⟨es,clock,(Below.heap_alloc _ _ b hbl).trans hb,Ft,hs,hD⟩)
 have cS:=AnyZI.sorted_in Tryz.lSorted Fence.wide 5 trivial trivial trivial trivial rfl (by omega) (sortsI _) (enters_of Tryz.func281 (by kernel_rfl) rfl) 302 #[.pointer (some ⟨w.heap.size,0,none⟩)] trivial (enters_of Tryz.func302 (by kernel_rfl) rfl) _ _ (by unfold maxLen;omega) (by omega) _ hseq
 change CallsIn _ _ Tryz.prog 239 _ _ _ at cS
 refine ((callsIn_wide (n:=5)).1 cS).mono ?_
 rintro e w' ⟨v,ss,rfl,hS,hrow,hnil,hb⟩
 have hp:ss.Perm (keysOf f):=hS.trans hperm0.symm
 have hm:ss.mergeSort (fun x y=>decide (x≤y))=keysOf f:=(mergeSort_of_perm_i hp).trans (List.mergeSort_of_pairwise ((keysOf_rising f).imp (fun h=>by simpa using h)))
 have hsz:(w.alloc (.cells #[.map (some b)] 131)).heap.size=w.heap.size+1:=by simp
 rw [hm,hp.length_eq] at hrow
 rw [hsz] at hrow hb
 refine⟨v,rfl,?_,hb⟩
 exact hrow
def writesP (V:Int→Option Int):List (Int × Int):=(keysOf V).map fun k=>(k,(V k).getD 0)
theorem writesP_len (V:Int→Option Int):(writesP V).length≤10:=by unfold writesP;rw [List.length_map];exact keysOf_len V
theorem keysOf_map (V:Int→Option Int):keysOf (fun k=>(V k).map (Value.int .i64))=keysOf V:=by
 unfold keysOf
 congr 1
 funext k
 show ((V k).map (Value.int .i64)).isSome=(V k).isSome
 cases V k<;>rfl
variable {w w':World} {L:EnL} {E:Eng}
set_option maxRecDepth 100000 in
set_option maxHeartbeats 2000000 in
theorem writes_any {n:Int} {l:TxL} {t:Tx} (hA:TxAt w n l t) :
  Calls Tryz.prog 184 #[.pointer (some ⟨l.b,0,none⟩)] w fun e w'=>∃ v,e=.returned v∧w'.ownsRow w.heap.size 122 2 v (writesP t.vals).length (vrow (writesP t.vals))∧Below w.heap.size w w':=by
 obtain⟨i0,hi0,hz0,hz1,hz2⟩:=info_parts info122
 have c8:=hA.c8
 have hbl:=hA.lt
 have HK:=hid (keys_any (some l.vb) w)
 have hS:=sorted_any hA.va (fun a ha=>hA.vk a (fun e=>ha (by rw [e];rfl)))
 rw [keysOf_map] at hS
 have HS:=hid hS
 have hvl:=hA.va.lt
 have HV:=hid (fun W (hB:Below w.heap.size w W)=>hA.va.same (hB.block l.vb hvl))
 have hkl:=keysOf_len t.vals
 have HKI:=hid (show ∀ a∈keysOf t.vals,I64 a∧t.vals a≠none from fun a ha=>by
  have h1:=(mem_keysOf hA.vk a).1 ha
  have h2:t.vals a≠none:=fun e=>by rw [e] at h1;cases h1
  have:=hA.vk a h2
  exact⟨by unfold I64;omega,h2⟩)
 have hwp:writesP t.vals=(keysOf t.vals).map fun k=>(k,(t.vals k).getD 0):=rfl
 obtain⟨ky,hky⟩:∃ ky,keysOf t.vals=ky:=⟨_,rfl⟩
 rw [hky] at HS hkl HKI hwp
 rw [hwp]
 clear hA hS hwp hky
 go_enter Tryz.func184,Tryz.ntmps184
 go_wp2_with fail
 refine HK.out.mono ?_
 rintro e w1 ⟨rfl,hw1⟩
 rw [hw1]
 clear hw1 w1 HK
 go_wp2_with fail
 refine HS.out.mono ?_
 rintro e w2 ⟨kv,rfl,ho,hB2⟩
 obtain⟨ad,cap,rfl⟩:=row_form ho
 have hB:Below w.heap.size w w2:=((Below.refl _ w).alloc (Nat.le_refl _) _).trans (hB2.mono (by omega))
 have hadg:Hid (∀ j a,ky[j]?=some a→∃ g,ad=some ⟨g,0,none⟩∧g<w2.heap.size∧w.heap.size+1≤g∧w2.cell? ⟨g,j,none⟩=some (.int .i64 a)):=fun j a ha=>by
  rcases row_slice ho with ⟨e1,e2⟩ | ⟨g,cap',e1,hg,hc⟩
  ·have:=(List.getElem?_eq_some_iff.1 ha).1;omega
  ·have hb:=(ho.lt g (by rw [e1];rfl)).1
   injection e1 with e1
   exact⟨g,e1,hg,hb,hc j _ (intsV_get ha)⟩
 have HB:=hid hB
 have hs2:=hB.size
 clear ho hB2 HS hB
 go_wp2
 go_loopw [3,13] (fun tv iv wr=>∃ j:Nat,j≤ky.length∧iv=.int .i64 j∧wr.ownsRow w2.heap.size 122 2 tv ((ky.take j).map fun k=>(k,(t.vals k).getD 0)).length (vrow ((ky.take j).map fun k=>(k,(t.vals k).getD 0)))∧Below w2.heap.size w2 wr) (fun _ iv _=>ky.length-(intOf iv).toNat)
 case atStart=>exact⟨0,by omega,rfl,by simpa [vrow] using World.ownsRow_nil w2 w2.heap.size 122 2,Below.refl _ _⟩
 case round =>
  obtain⟨j,hj,rfl,hown,hB⟩:=hrel
  have hBs:=hB.size
  by_cases hlt:j<ky.length
  ·obtain⟨a,ha⟩:∃ a,ky[j]?=some a:=⟨ky[j],List.getElem?_eq_getElem hlt⟩
   obtain⟨g,rfl,hg,hg2,hc⟩:=hadg.out j a ha
   obtain⟨hia,hna⟩:=HKI.out a (List.mem_of_getElem? ha)
   have hc':=(hB.cell (p:=⟨g,j,none⟩) hg).trans hc
   have hBw:Below w.heap.size w wr:=HB.out.trans (hB.mono (by omega))
   have c8':=(hBw.cell (p:=⟨l.b,8,none⟩) hbl).trans c8
   have hlk:=(HV.out wr hBw).look1 Tryz.underlying131 (zeroI wr) hia
   rw [getD_map] at hlk
   obtain⟨x,hx⟩:∃ x,(t.vals a).getD 0=x:=⟨_,rfl⟩
   rw [hx] at hlk
   have hst:Hid (vrow ((ky.take (j+1)).map fun k=>(k,(t.vals k).getD 0))=vrow ((ky.take j).map fun k=>(k,(t.vals k).getD 0))++[.int .i64 a,.int .i64 x]):=by
    show _=_
    rw [List.take_add_one,ha,List.map_append,vrow_append]
    simp [vrow,hx]
   have hlj:((ky.take j).map fun k=>(k,(t.vals k).getD 0)).length=j:=by simp;omega
   have hlj2:((ky.take (j+1)).map fun k=>(k,(t.vals k).getD 0)).length=j+1:=by simp;omega
   rw [hlj] at hown
   have HO:=hid hown
   have hj0:(0:Int)≤(j:Int):=by omega
   have hj1:(j:Int)<(ky.length:Int):=by omega
   clear hown ha hc hx hna hlj
   go_wp2_with (at_builtin;refine wpList_append_lies _ rfl _ _ _ rfl w2.heap.size 122 i0 _ 2 16 Tryz.underlying120 hi0 hz0 hz1 hz2 rfl (by omega) u3 _ _ rfl (HO.out.alloc _) ⟨wr.heap.size,0,none⟩ 1 1 [.int .i64 a,.int .i64 x] rfl rfl (World.news_of_block (cs:=#[.int .i64 a,.int .i64 x]) (t:=122) (fr:=(0,0)) (heap_alloc_new wr _)) (by simp [Value.oneCell']) (by omega) (by unfold maxLen;omega) (by omega) (by simp;omega) (wr.heap.size+1) (by simp) ?_;intro g' cap' w3 ho hgrow hat hlt2)
   go_roundw
   case rel =>
    refine⟨j+1,by omega,by go_num,?_,?_⟩
    ·rw [hst.out,hlj2];exact ho
    ·exact hB.trans ((((Below.refl _ wr).alloc (Nat.le_refl _) _).mono hBs).grown hgrow (by simp;omega) (fun k e=>(HO.out.lt k e).1))
   case measure=>simp [intOf];omega
  ·rw [List.take_of_length_le (by omega)] at hown
   have HO:=hid hown
   have HBF:=hid (HB.out.trans (hB.mono hs2))
   clear hown hB
   go_wp2
   go_ret
   exact⟨_,rfl,owns_base HO.out hs2,HBF.out⟩
end Go.Proofs.YtjefgmeejhakbabGreatDoor
