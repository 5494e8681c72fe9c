/- EnWrite EnRest SameW: put together for a claim. -/
import Derived.Test.YtjefgmeejhakbaaGreatDoorEnRead
import Derived.Test.YtjefgmeejhakbaaGreatDoorMgAA
/- engine.Write, Ready, Abort. -/
namespace Go.Proofs.YtjefgmeejhakbaaGreatDoor
open Go.RowKit
variable {w w':World} {L:EnL} {E:Eng}
theorem mem_ask {T:Tab} {q:Int→Nat} {tx key k x:Int} (h:x∈(askP T q tx key).2.2 k):x∈T k∨x=tx:=by
 unfold askP at h
 split at h
 ·exact .inl h
 split at h
 ·exact .inl h
 split at h
 ·exact .inl h
 split at h
 ·by_cases e:k=key
  ·subst e;simp only [updT_same,List.mem_singleton] at h;exact .inr h
  ·simp only [updT_other _ _ e] at h;exact .inl h
 split at h
 ·exact .inl h
 ·by_cases e:k=key
  ·subst e
   simp only [updT_same,List.mem_append,List.mem_singleton] at h
   exact h
  ·simp only [updT_other _ _ e] at h;exact .inl h
noncomputable def writeE (f:Nat) (q:Int→Nat) (E:Eng) (i:Nat) (key val:Int):Option ((Bool × Int) × Eng):=match E.txs[i]? with
 | some t =>
  if key<0∨10≤key then some ((false,2),E) else
  if val < -1099511627776∨1099511627776<val then some ((false,1),E) else
  if (askP E.T q ((i:Int)+1) key).2.1≠0 then (endF f (loseE { (E.setTx i { t with wk:=key,wv:=val }) with T:=(askP E.T q ((i:Int)+1) key).2.2 } i 11) i 3).map (fun E'=>((false,11),E')) else
  if (askP E.T q ((i:Int)+1) key).1=false then some ((false,0),Eng.setTx { (E.setTx i { t with wk:=key,wv:=val }) with T:=(askP E.T q ((i:Int)+1) key).2.2 } i { t with wk:=key,wv:=val,state:=1 }) else
  (writeR (endF f) { (E.setTx i { t with wk:=key,wv:=val }) with T:=(askP E.T q ((i:Int)+1) key).2.2 } i).map (fun R=>((decide (R.1=0),R.1),R.2))
 | none=>none
theorem txCells_wk (n:Int) (l:TxL) (t:Tx) (v:Int):(txCells n l t).setIfInBounds 6 (.int .i64 v)=txCells n l { t with wk:=v }:=by unfold txCells;simp
theorem txCells_wv (n:Int) (l:TxL) (t:Tx) (v:Int):(txCells n l t).setIfInBounds 7 (.int .i64 v)=txCells n l { t with wv:=v }:=by unfold txCells;simp
set_option maxRecDepth 100000 in
set_option maxHeartbeats 1000000 in
theorem write_shut (h:EnAt w L E) {n key val c:Int} (hc:(c=7∧(n<1∨(E.txs.length:Int)<n))∨(c=6∧∃ (i:Nat) (t:Tx),n=(i:Int)+1∧E.txs[i]?=some t∧t.state≠0)) :
  Calls Tryz.prog 53 #[.pointer (some ⟨L.s,0,none⟩),.int .i64 n,.int .i64 key,.int .i64 val] w fun e w'=>e=.returned (.tuple #[.bool false,errV c])∧w'=w:=by
 have HO:Hid (Calls Tryz.prog 102 #[.pointer (some ⟨L.s,0,none⟩),.int .i64 n] w fun e w'=>e=.returned (.tuple #[.pointer none,errV c])∧w'=w):=by
  rcases hc with ⟨rfl,hn⟩ | ⟨rfl,i,t,rfl,ht,hs⟩
  ·exact open_err h hn
  ·obtain⟨l,hl,_⟩:=h.get ht
   exact open_state h hl ht hs
 have h0:c≠0:=by rcases hc with ⟨rfl,_⟩ | ⟨rfl,_⟩<;>decide
 rw [show errV c=Value.iface 24 (.int .i64 c) from if_neg h0] at HO ⊢
 clear h hc h0
 go_enter Tryz.func53,Tryz.ntmps53
 go_wp2_with fail
 refine HO.out.mono ?_
 rintro e w1 ⟨rfl,rfl⟩
 go_wp2
 go_ret2
 exact⟨rfl,rfl⟩
set_option maxRecDepth 100000 in
set_option maxHeartbeats 1000000 in
theorem write_bad (h:EnAt w L E) {i:Nat} {t:Tx} {key val c:Int} (ht:E.txs[i]?=some t) (hs:t.state=0) (hc:((key<0∨10≤key)∧c=2)∨((0≤key∧key<10)∧(val < -1099511627776∨1099511627776<val)∧c=1)) :
  Calls Tryz.prog 53 #[.pointer (some ⟨L.s,0,none⟩),.int .i64 ((i:Int)+1),.int .i64 key,.int .i64 val] w fun e w'=>e=.returned (.tuple #[.bool false,errV c])∧w'=w:=by
 obtain⟨l,hl,_⟩:=h.get ht
 have HO:=hid (open_ok h hl ht hs)
 clear h ht hs hl
 rcases hc with ⟨hk,rfl⟩ | ⟨hk,hv,rfl⟩
 ·by_cases g1:key<0
  ·clear hk
   go_enter Tryz.func53,Tryz.ntmps53
   go_wp2_with fail
   refine HO.out.mono ?_
   rintro e w1 ⟨rfl,rfl⟩
   go_wp2
   go_ret2
   exact⟨rfl,rfl⟩
  ·have g2:decide (10≤key)=true:=by simp;omega
   clear hk
   go_enter Tryz.func53,Tryz.ntmps53
   go_wp2_with fail
   refine HO.out.mono ?_
   rintro e w1 ⟨rfl,rfl⟩
   go_wp2
   go_ret2
   exact⟨rfl,rfl⟩
 ·have g1:¬ key<0:=by omega
  have g2:¬ 10≤key:=by omega
  by_cases g3:val < -1099511627776
  ·clear hk hv
   go_enter Tryz.func53,Tryz.ntmps53
   go_wp2_with fail
   refine HO.out.mono ?_
   rintro e w1 ⟨rfl,rfl⟩
   go_wp2
   go_ret2
   exact⟨rfl,rfl⟩
  ·have g4:decide (1099511627776<val)=true:=by simp;omega
   clear hk hv
   go_enter Tryz.func53,Tryz.ntmps53
   go_wp2_with fail
   refine HO.out.mono ?_
   rintro e w1 ⟨rfl,rfl⟩
   go_wp2
   go_ret2
   exact⟨rfl,rfl⟩
set_option maxRecDepth 100000 in
set_option maxHeartbeats 4000000 in
theorem write_main (h:EnAt w L E) (hf:Fits E) {f:Nat} {q:Int→Nat} (hq:Ranked E.T q) {i:Nat} {t:Tx} (ht:E.txs[i]?=some t) (hs:t.state=0) {key val:Int} (hk:0≤key∧key<10) (hv:-1099511627776≤val∧val≤1099511627776)
  {R:(Bool × Int) × Eng} (hR:writeE f q E i key val=some R) :
  Calls Tryz.prog 53 #[.pointer (some ⟨L.s,0,none⟩),.int .i64 ((i:Int)+1),.int .i64 key,.int .i64 val] w fun e w'=>e=.returned (.tuple #[.bool R.1.1,errV R.1.2])∧EnPost L R.2 w w':=by
 obtain⟨l,hl,hA⟩:=h.get ht
 have HO:=hid (open_ok h hl ht hs)
 have hi:=(List.getElem?_eq_some_iff.1 ht).1
 have hle:=h.le
 obtain⟨h1,k1⟩:=h.setCell hl ht (txCells_wk _ l t key) rfl rfl hA.sl rfl rfl hk
 have hA1:=h1.txs i l _ hl (setTx_get ht)
 obtain⟨h2,k2⟩:=h1.setCell hl (setTx_get ht) (txCells_wv _ l _ val) rfl rfl hA1.sl rfl rfl hk
 rw [setTx_twice] at h2
 have c6:=hA.c6
 have c7:=hA.c7
 have f6:=hA.free 6
 have f7:=hA.free 7
 have d7:=hA1.c7
 have e7:=hA1.free 7
 obtain⟨w2,hw2⟩:∃ w2,(w.setCell ⟨l.b,6,none⟩ (.int .i64 key)).setCell ⟨l.b,7,none⟩ (.int .i64 val)=w2:=⟨_,rfl⟩
 rw [hw2] at h2 k2
 have hask:=ask_any (C:=L.C E.last) L.s 201 L.M E.T q ((i:Int)+1) key w2 h2.loc h.good hq (by unfold I64;omega) (by unfold I64;omega) (by omega)
 rw [h.o] at hask
 have hgood:=h.good.ask hq ((i:Int)+1) key (by omega)
 have HSET:=hid (fun (w3:World) (M':LkM) (N:Nat) (hT:TabAt (L.C E.last) w3 L.s N M' (askP E.T q ((i:Int)+1) key).2.2) (hK:KeptO (L.M.own L.s) (M'.own L.s) w2 w3) =>
  h2.setLock hT hK hgood (fun k x hx=>by
   rw [setTx_len]
   rcases mem_ask hx with h3 | h3
   ·exact h.mem k x h3
   ·omega))
 unfold writeE at hR
 rw [ht] at hR
 simp only at hR
 rw [if_neg (by omega),if_neg (by omega)] at hR
 obtain⟨ab,ac,aT,haq⟩:∃ ab ac aT,askP E.T q ((i:Int)+1) key=(ab,ac,aT):=⟨_,_,_,rfl⟩
 rw [haq] at hask hR HSET
 unfold AskPost at hask
 simp only at hask hR HSET
 obtain⟨E2,hE2⟩:∃ E2:Eng,({ (E.setTx i { t with wk:=key,wv:=val }) with T:=aT }:Eng)=E2:=⟨_,rfl⟩
 have htx2:E2.txs[i]?=some { t with wk:=key,wv:=val }:=by rw [← hE2];exact setTx_get ht
 have hks2:E2.ks=E.ks:=by rw [← hE2];rfl
 rw [hE2] at hR HSET
 have HASK:=hid hask
 have HK:=hid (k1.trans k2)
 have HL:=hid hl
 have HF:=hid hf
 have HTX:=hid htx2
 have HKS:=hid hks2
 have g1:¬ key<0:=by omega
 have g2:¬ 10≤key:=by omega
 have g3:¬ val < -1099511627776:=by omega
 have g4:¬ 1099511627776<val:=by omega
 have HRR:=hid hR
 clear h hl ht hs hA h1 k1 hA1 h2 k2 hask hgood haq hE2 htx2 hks2 hR hf hq
 go_enter Tryz.func53,Tryz.ntmps53
 go_wp2_with fail
 refine HO.out.mono ?_
 rintro e w1 ⟨rfl,hw1⟩
 rw [hw1]
 clear hw1 w1
 go_wp2_with fail
 try rw [hw2]
 refine HASK.out.mono ?_
 rintro e w3 ⟨rfl,M',hT3,hK3⟩
 obtain⟨hE3,hKE3⟩:=HSET.out w3 M' _ hT3 hK3
 have HE3:=hid hE3
 have HKE3:=hid (HK.out.trans hKE3)
 clear hT3 hK3 hE3 hKE3 HASK HSET
 by_cases hc:ac=0
 ·subst hc
  have hRR:=HRR.out
  rw [if_neg (by simp)] at hRR
  rw [show errV 0=Value.nilIface from rfl]
  cases ab with
  | false =>
   rw [if_pos rfl] at hRR
   injection hRR with hRR
   have hA3:=HE3.out.txs (L:={ L with M:=M' }) i l _ HL.out HTX.out
   obtain⟨h4,k4⟩:=HE3.out.setCell (L:={ L with M:=M' }) HL.out HTX.out (txCells_state _ l _ 1) rfl rfl hA3.sl rfl rfl hA3.wkr
   have z3:=hA3.c3
   have zf:=hA3.free 3
   have HP:=hid (show EnPost L R.2 w _ from ⟨{ L with M:=M' },by rw [← hRR];exact h4,HKE3.out.trans k4,rfl,rfl⟩)
   have HR2:=hid (show R.1=(false,0) from by rw [← hRR])
   clear hRR hA3 h4 k4
   go_wp2
   go_ret2
   rw [HR2.out]
   exact⟨rfl,HP.out⟩
  | true =>
   rw [if_neg (by simp)] at hRR
   rcases hwr:writeR (endF f) E2 i with _ | ⟨why,E5⟩
   ·rw [hwr] at hRR;cases hRR
   rw [hwr] at hRR
   simp only [Option.map_some,Option.some.injEq] at hRR
   have HC:=hid (write_any (L:={ L with M:=M' }) (end_ok f) HE3.out HL.out HTX.out (by rw [HKS.out];exact HF.out.len) hwr)
   clear hwr
   go_wp2_with fail
   refine HC.out.mono ?_
   rintro e w4 ⟨rfl,L4,hE4,hK4,hs4,hb4⟩
   have HP:=hid (show EnPost L R.2 w w4 from ⟨L4,by rw [← hRR];exact hE4,HKE3.out.trans hK4,hs4,hb4⟩)
   have HR2:=hid (show R.1=(decide (why=0),why) from by rw [← hRR])
   clear hRR hE4 hK4 hs4 hb4 HC
   by_cases h0:why=0
   ·subst h0
    go_wp2
    go_ret2
    rw [HR2.out]
    exact⟨rfl,HP.out⟩
   ·have e0:(why != 0)=true:=by simpa using h0
    have hr2:=HR2.out
    rw [show decide (why=0)=false from by simpa using h0] at hr2
    have HE:=hid (show errV why=Value.iface 24 (.int .i64 why) from if_neg h0)
    clear h0
    go_wp2
    go_ret2
    rw [hr2,HE.out]
    exact⟨rfl,HP.out⟩
 ·have hRR:=HRR.out
  rw [if_pos hc] at hRR
  obtain⟨E9,hE9,hR2⟩:∃ E9,endF f (loseE E2 i 11) i 3=some E9∧R=((false,11),E9):=by
   cases he:endF f (loseE E2 i 11) i 3 with
   | none=>rw [he] at hRR;cases hRR
   | some E9=>rw [he] at hRR;simp at hRR;exact⟨E9,rfl,hRR.symm⟩
  have HC:=hid (lose_any (L:={ L with M:=M' }) (end_ok f) HE3.out HL.out HTX.out 11 (by rw [HKS.out];exact HF.out.len) hE9)
  have HR2:=hid hR2
  rw [show errV ac=Value.iface 24 (.int .i64 ac) from if_neg hc]
  clear hRR hR2 hE9 hc
  go_wp2_with fail
  refine HC.out.mono ?_
  rintro e w4 ⟨rfl,L4,hE4,hK4,hs4,hb4⟩
  have HP:=hid (show EnPost L E9 w w4 from ⟨L4,hE4,HKE3.out.trans hK4,hs4,hb4⟩)
  clear hE4 hK4 hs4 hb4 HC
  go_wp2
  go_ret2
  rw [HR2.out]
  exact⟨rfl,HP.out⟩
end Go.Proofs.YtjefgmeejhakbaaGreatDoor
/- engine.Abort, Ready, State, All, Last, Many, Txs, Waits. -/
namespace Go.Proofs.YtjefgmeejhakbaaGreatDoor
open Go.RowKit
variable {w w':World} {L:EnL} {E:Eng}
set_option maxRecDepth 100000 in
set_option maxHeartbeats 1000000 in
theorem abort_miss (h:EnAt w L E) {n:Int} (hn:n<1∨(E.txs.length:Int)<n) :
  Calls Tryz.prog 36 #[.pointer (some ⟨L.s,0,none⟩),.int .i64 n] w fun e w'=>e=.returned (errV 7)∧w'=w:=by
 have HO:=hid (find_err h hn)
 rw [show errV 7=Value.iface 24 (.int .i64 7) from rfl] at HO ⊢
 clear h hn
 go_enter Tryz.func36,Tryz.ntmps36
 go_wp2_with fail
 refine HO.out.mono ?_
 rintro e w1 ⟨rfl,rfl⟩
 go_wp2
 go_ret
 exact⟨rfl,rfl⟩
set_option maxRecDepth 100000 in
set_option maxHeartbeats 1000000 in
theorem abort_over (h:EnAt w L E) {i:Nat} {t:Tx} (ht:E.txs[i]?=some t) (hs:liveB t.state=false) :
  Calls Tryz.prog 36 #[.pointer (some ⟨L.s,0,none⟩),.int .i64 ((i:Int)+1)] w fun e w'=>e=.returned (errV 6)∧w'=w:=by
 obtain⟨l,hl,hA⟩:=h.get ht
 have HO:=hid (find_ok h hl)
 have HL:=hid (lives_any l.b t.state w hA.c3)
 rw [hs] at HL
 clear h ht hs hl hA
 go_enter Tryz.func36,Tryz.ntmps36
 go_wp2_with fail
 refine HO.out.mono ?_
 rintro e w1 ⟨rfl,rfl⟩
 go_wp2_with fail
 refine HL.out.mono ?_
 rintro e w1 ⟨rfl,rfl⟩
 go_wp2
 go_ret
 exact⟨rfl,rfl⟩
set_option maxRecDepth 100000 in
set_option maxHeartbeats 1000000 in
theorem abort_main (h:EnAt w L E) (hf:Fits E) {f:Nat} {i:Nat} {t:Tx} (ht:E.txs[i]?=some t) (hs:liveB t.state=true) {E':Eng} (hE:endF f (loseE E i 0) i 3=some E') :
  Calls Tryz.prog 36 #[.pointer (some ⟨L.s,0,none⟩),.int .i64 ((i:Int)+1)] w fun e w'=>e=.returned (errV 0)∧EnPost L E' w w':=by
 obtain⟨l,hl,hA⟩:=h.get ht
 have HO:=hid (find_ok h hl)
 have HL:=hid (lives_any l.b t.state w hA.c3)
 rw [hs] at HL
 have HC:=hid (lose_any (end_ok f) h hl ht 0 hf.len hE)
 clear h ht hs hl hA hE hf
 go_enter Tryz.func36,Tryz.ntmps36
 go_wp2_with fail
 refine HO.out.mono ?_
 rintro e w1 ⟨rfl,hw1⟩
 rw [hw1]
 clear hw1 w1
 go_wp2_with fail
 refine HL.out.mono ?_
 rintro e w1 ⟨rfl,hw1⟩
 rw [hw1]
 clear hw1 w1
 go_wp2_with fail
 refine HC.out.mono ?_
 rintro e w1 ⟨rfl,hP⟩
 have HP:=hid hP
 clear hP HC
 go_wp2
 go_ret
 exact⟨rfl,HP.out⟩
set_option maxRecDepth 100000 in
set_option maxHeartbeats 1000000 in
theorem state_ok (h:EnAt w L E) {i:Nat} {t:Tx} (ht:E.txs[i]?=some t) :
  Calls Tryz.prog 33 #[.pointer (some ⟨L.s,0,none⟩),.int .i64 ((i:Int)+1)] w fun e w'=>e=.returned (.tuple #[.int .i64 t.state,.int .i64 t.why,.nilIface])∧∃ q,w'=w.drewN q:=by
 obtain⟨l,hl,hA⟩:=h.get ht
 have c3:=hA.c3
 have c4:=hA.c4
 have HO:=hid (find_ok h hl)
 clear h ht hl hA
 go_enter Tryz.func33,Tryz.ntmps33
 go_wp2_with fail
 refine HO.out.mono ?_
 rintro e w1 ⟨rfl,hw1⟩
 rw [hw1]
 clear hw1 w1
 go_wp2
 go_quiet (fail)
 go_wp2
 go_ret3
 exact⟨rfl,_,rfl⟩
set_option maxRecDepth 100000 in
set_option maxHeartbeats 1000000 in
theorem state_err (h:EnAt w L E) {n:Int} (hn:n<1∨(E.txs.length:Int)<n) :
  Calls Tryz.prog 33 #[.pointer (some ⟨L.s,0,none⟩),.int .i64 n] w fun e w'=>e=.returned (.tuple #[.int .i64 0,.int .i64 0,errV 7])∧w'=w:=by
 have HO:=hid (find_err h hn)
 rw [show errV 7=Value.iface 24 (.int .i64 7) from rfl] at HO ⊢
 clear h hn
 go_enter Tryz.func33,Tryz.ntmps33
 go_wp2_with fail
 refine HO.out.mono ?_
 rintro e w1 ⟨rfl,rfl⟩
 go_wp2
 go_ret3
 exact⟨rfl,rfl⟩
def allE (E:Eng):List (Int × Int):=allK (fun k=>rdP E.last (E.ks[k]?.getD [])) 10
set_option maxRecDepth 100000 in
set_option maxHeartbeats 1000000 in
theorem allE_any (h:EnAt w L E) (hf:Fits E) :
    Calls Tryz.prog 29 #[.pointer (some ⟨L.s,0,none⟩)] w fun e w'=>∃ tv,e=.returned tv∧w'.ownsRow w.heap.size 78 2 tv (allE E).length (vrow (allE E))∧Below w.heap.size w w':=by
  have HL:=hid (fun q=>last_any _ _ _ _ _ (w.drewN q) (h.below (below_drewN (Below.refl _ w) q)).sto)
  have HA:=hid (fun q=>all_any _ _ _ E.last _ _ (w.drewN q) (h.below (below_drewN (Below.refl _ w) q)).sto (fun l hl=>Nat.le_trans (hf.len l hl) (by omega)))
  unfold allE
  clear h hf
  go_enter Tryz.func29,Tryz.ntmps29
  go_wp2
  go_region_held3 (fun W=>True)
    (first | go_keep | trivial)
    (first | (go_at_call 97
              refine (HL.out 1).mono ?_
              rintro e w2 ⟨rfl,hw2⟩
              rw [hw2]
              clear hw2 w2)
           | (go_at_call 96
              refine (HA.out 1).mono ?_
              rintro e w2 ⟨tv,rfl,ho,hB⟩
              have HO:=hid (And.intro ho hB)
              clear ho hB))
  go_wp2
  go_ret
  exact⟨_,rfl,HO.out.1,(below_drewN (Below.refl _ w) 1).trans HO.out.2⟩
set_option maxRecDepth 100000 in
set_option maxHeartbeats 1000000 in
theorem lastE_any (h:EnAt w L E) :
  Calls Tryz.prog 86 #[.pointer (some ⟨L.s,0,none⟩)] w fun e w'=>e=.returned (.int .i64 E.last)∧w'=w:=by
 have HL:=hid (last_any _ _ _ _ _ w h.sto)
 clear h
 go_enter Tryz.func86,Tryz.ntmps86
 go_wp2_with fail
 refine HL.out.mono ?_
 rintro e w1 ⟨rfl,rfl⟩
 go_wp2
 go_ret
 exact⟨rfl,rfl⟩
set_option maxRecDepth 100000 in
set_option maxHeartbeats 1000000 in
theorem txsE_any (h:EnAt w L E) :
  Calls Tryz.prog 32 #[.pointer (some ⟨L.s,0,none⟩)] w fun e w'=>e=.returned (.int .i64 (E.txs.length:Int))∧w'=w:=by
 have c14:=h.c14
 obtain⟨ad,cap,e⟩:=row_form h.all
 rw [h.len] at e
 rw [e] at c14
 have hle:=h.le
 clear h e
 go_enter Tryz.func32,Tryz.ntmps32
 go_wp2
 go_ret
 exact⟨rfl,rfl⟩
def waitsE (E:Eng) (n:Int):Int:=holdsP E.T (waitsP E.T n)
set_option maxRecDepth 100000 in
set_option maxHeartbeats 1000000 in
theorem waitsE_any (h:EnAt w L E) {n:Int} (hn:I64 n) :
  Calls Tryz.prog 34 #[.pointer (some ⟨L.s,0,none⟩),.int .i64 n] w fun e w'=>e=.returned (.int .i64 (waitsE E n))∧∃ q,w'=w.drewN q:=by
 have ho:=h.o
 obtain⟨hh,wa,ln,r,R⟩:=h.loc
 have HW:=hid (fun q=>waitsR L.s 201 L.M R n (w.drewN q) (r.below (below_drewN (Below.refl _ w) q)) hn)
 have HH:=hid (fun q=>holdsR L.s 201 L.M R (waitsP E.T n) (w.drewN q) (r.below (below_drewN (Below.refl _ w) q)) (waits_i64 E.T n))
 rw [ho] at HW HH
 unfold waitsE
 clear h r R ho
 go_enter Tryz.func34,Tryz.ntmps34
 go_wp2
 go_quiet (first | (go_at_call 99;refine Calls.quiet_of_same (HW.out _)) | (go_at_call 98;refine Calls.quiet_of_same (HH.out _)))
 go_wp2
 go_ret
 exact⟨rfl,_,rfl⟩
end Go.Proofs.YtjefgmeejhakbaaGreatDoor
/- law.same and law.sameWrites: two rows that hold the same. -/
namespace Go.Proofs.YtjefgmeejhakbaaGreatDoor
open Go.RowKit
set_option maxRecDepth 100000 in
set_option maxHeartbeats 1000000 in
theorem sameW_nil (a b:Option Addr) (c d:Nat) (w:World):Calls Tryz.prog 15 #[.slice a 0 c,.slice b 0 d] w fun e w'=>e=.returned (.bool true)∧w'=w:=by
 go_enter Tryz.func15,Tryz.ntmps15
 go_wp2
 go_loop [5] (fun i=>i=.int .i64 0) (fun _=>0)
 case atStart=>rfl
 case round =>
  subst hrel
  go_wp2
  go_ret
  exact⟨rfl,rfl⟩
def PRow (w:World) (g:Nat) (l:List (Int × Int)):Prop:=∀ (j:Nat) (a v:Int),l[j]?=some (a,v)→w.cell? ⟨g,j*2,none⟩=some (.int .i64 a)∧w.cell? ⟨g,j*2+1,none⟩=some (.int .i64 v)
set_option maxRecDepth 100000 in
set_option maxHeartbeats 2000000 in
theorem sameW_walk (g h c d:Nat) (l:List (Int × Int)) (w:World) (hn:l.length≤1000000) (h1:PRow w g l) (h2:PRow w h l) :
  Calls Tryz.prog 15 #[.slice (some ⟨g,0,none⟩) l.length c,.slice (some ⟨h,0,none⟩) l.length d] w fun e w'=>e=.returned (.bool true)∧Below w.heap.size w w':=by
 have H1:=hid h1
 have H2:=hid h2
 clear h1 h2
 go_enter Tryz.func15,Tryz.ntmps15
 go_wp2
 go_loopw [5] (fun i wr=>∃ j:Nat,j≤l.length∧i=.int .i64 j∧∃ q,wr=w.drewN q) (fun i _=>l.length-(intOf i).toNat)
 case atStart=>exact⟨0,Nat.zero_le _,rfl,0,rfl⟩
 case round =>
  obtain⟨j,hj,rfl,q,rfl⟩:=hrel
  by_cases hlt:j<l.length
  ·obtain⟨⟨x,y⟩,hx⟩:∃ x,l[j]?=some x:=⟨l[j],List.getElem?_eq_getElem hlt⟩
   obtain⟨c1,c2⟩:=H1.out j x y hx
   obtain⟨c3,c4⟩:=H2.out j x y hx
   have hj0:(0:Int)≤(j:Int):=by omega
   have hj1:(j:Int)<(l.length:Int):=by omega
   clear hx
   go_wp2
   go_quiet (fail)
   go_wp2
   go_roundw
   case rel=>exact⟨j+1,by omega,by go_num,_,rfl⟩
   case measure=>simp [intOf];omega
  ·go_wp2
   go_ret
   exact⟨rfl,below_drewN (Below.refl _ _) _⟩
theorem sameW_true (base base':Nat) (tv uv:Value) (l:List (Int × Int)) (w:World) (hn:l.length≤1000000) (h1:w.ownsRow base 78 2 tv l.length (vrow l)) (h2:w.ownsRow base' 78 2 uv l.length (vrow l)) :
  Calls Tryz.prog 15 #[tv,uv] w fun e w'=>e=.returned (.bool true)∧Below w.heap.size w w':=by
 have hz:∀ {x y:Option Addr} {c d:Nat},Calls Tryz.prog 15 #[.slice x 0 c,.slice y 0 d] w fun e w'=>e=.returned (.bool true)∧Below w.heap.size w w':=fun {x y c d} =>
  (sameW_nil x y c d w).mono (by rintro e w' ⟨rfl,rfl⟩;exact⟨rfl,Below.refl _ _⟩)
 have hi:∀ {g:Nat},(∀ (j:Nat) (u:Value),(vrow l)[j]?=some u→w.cell? ⟨g,j,none⟩=some u)→PRow w g l:=fun h j a x hx=>by
  have:=vrow_get l j a x hx
  exact⟨h _ _ this.1,h _ _ this.2⟩
 rcases row_slice h1 with ⟨rfl,e0⟩ | ⟨g,c,rfl,_,hc⟩
 ·rcases row_slice h2 with ⟨rfl,_⟩ | ⟨g',c',rfl,_,hc'⟩
  ·exact hz
  ·rw [e0];exact hz
 ·rcases row_slice h2 with ⟨rfl,e0⟩ | ⟨g',c',rfl,_,hc'⟩
  ·rw [e0];exact hz
  ·exact sameW_walk g g' c c' l w hn (hi hc) (hi hc')
end Go.Proofs.YtjefgmeejhakbaaGreatDoor
