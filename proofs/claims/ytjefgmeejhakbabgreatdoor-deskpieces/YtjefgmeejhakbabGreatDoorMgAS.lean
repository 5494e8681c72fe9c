/- EnEnd EnEnd2 BsWr OrWrit: put together for a claim. -/
import Derived.Test.YtjefgmeejhakbabGreatDoorMgAR
import Derived.Test.YtjefgmeejhakbabGreatDoorMgAG
import Derived.Test.YtjefgmeejhakbabGreatDoorMgAB
import Derived.Test.YtjefgmeejhakbabGreatDoorOrOps
namespace Go.Proofs.YtjefgmeejhakbabGreatDoor
open Go.RowKit
variable {w w':World} {L:EnL} {E:Eng}
theorem putAhead_rest (E:Eng) (i j:Nat):(putAheadP E i j).2.ks=E.ks∧(putAheadP E i j).2.T=E.T∧(putAheadP E i j).2.last=E.last∧(putAheadP E i j).2.wr=E.wr∧(putAheadP E i j).2.com=E.com:=by
 unfold putAheadP
 split
 ·exact⟨rfl,rfl,rfl,rfl,rfl⟩
 ·exact⟨rfl,rfl,rfl,rfl,rfl⟩
theorem aheadAll_rest (f:Nat→Nat × Nat):∀ (js:List Nat) (E:Eng),(aheadAll f js E).2.ks=E.ks∧(aheadAll f js E).2.T=E.T∧(aheadAll f js E).2.last=E.last∧(aheadAll f js E).2.wr=E.wr∧(aheadAll f js E).2.com=E.com∧(aheadAll f js E).2.txs.length=E.txs.length
 | [],E=>⟨rfl,rfl,rfl,rfl,rfl,rfl⟩
 | j::r,E=>by
  have h1:=putAhead_rest E (f j).1 (f j).2
  have h2:=putAhead_len E (f j).1 (f j).2
  unfold aheadAll
  rcases hp:putAheadP E (f j).1 (f j).2 with ⟨b,E'⟩
  rw [hp] at h1 h2
  cases b with
  | true =>
   have h3:=aheadAll_rest f r E'
   simp only at h1 h2 ⊢
   exact⟨h3.1.trans h1.1,h3.2.1.trans h1.2.1,h3.2.2.1.trans h1.2.2.1,h3.2.2.2.1.trans h1.2.2.2.1,h3.2.2.2.2.1.trans h1.2.2.2.2,h3.2.2.2.2.2.trans h2⟩
  | false =>
   simp only at h1 h2 ⊢
   exact⟨h1.1,h1.2.1,h1.2.2.1,h1.2.2.2.1,h1.2.2.2.2,h2⟩
theorem putE_rest (E:Eng) (i:Nat):(putE E i).2.ks=E.ks∧(putE E i).2.T=E.T∧(putE E i).2.last=E.last∧(putE E i).2.wr=E.wr∧(putE E i).2.com=E.com∧(putE E i).2.txs.length=E.txs.length:=by
 cases ht:E.txs[i]? with
 | none=>unfold putE;rw [ht];exact⟨rfl,rfl,rfl,rfl,rfl,rfl⟩
 | some t =>
  by_cases hn:t.level≠0∧newerP E t.wk t.start≠[]
  ·rw [putE_new ht hn];exact⟨rfl,rfl,rfl,rfl,rfl,rfl⟩
  ·rw [putE_ok ht hn]
   have hl:=setTx_len E i { t with vals:=updT t.vals t.wk (some t.wv) }
   split
   ·have h1:=aheadAll_rest (fun j=>(j,i)) (thoseP (E.setTx i { t with vals:=updT t.vals t.wk (some t.wv) }) (hasReadB t.wk i)) (E.setTx i { t with vals:=updT t.vals t.wk (some t.wv) })
    rcases hb:behindP (E.setTx i { t with vals:=updT t.vals t.wk (some t.wv) }) i t.wk with ⟨b,E2⟩
    unfold behindP at hb
    rw [hb] at h1
    rw [hl] at h1
    cases b<;>exact h1
   ·exact⟨rfl,rfl,rfl,rfl,rfl,hl⟩
set_option maxRecDepth 100000 in
set_option maxHeartbeats 2000000 in
theorem write_any {f:Nat} (hend:EndOk f) (h:EnAt w L E) {i:Nat} {l:TxL} {t:Tx} (hl:L.txs[i]?=some l) (ht:E.txs[i]?=some t) (hks:∀ l∈E.ks,l.length≤100000) {R:Int × Eng} (hR:writeR (endF f) E i=some R) :
  Calls Tryz.prog 203 #[.pointer (some ⟨L.s,0,none⟩),.pointer (some ⟨l.b,0,none⟩)] w fun e w'=>e=.returned (.int .i64 R.1)∧EnPost L R.2 w w':=by
 have hA:=h.txs i l t hl ht
 have c6:=hA.c6
 have c7:=hA.c7
 have HP:=hid (putE_any h hl ht hks)
 have hrest:=putE_rest E i
 have HL:=hid hl
 unfold writeR at hR
 obtain⟨why,E1,hp⟩:∃ why E1,putE E i=(why,E1):=⟨_,_,rfl⟩
 rw [hp] at HP hR hrest
 simp only at hR hrest
 have HKS:=hid (show ∀ l∈E1.ks,l.length≤100000 from by rw [hrest.1];exact hks)
 clear h hl ht hA hp hks hrest
 by_cases h0:why=0
 ·subst h0
  rw [if_pos rfl] at hR
  injection hR with hR
  subst hR
  go_enter Tryz.func203,Tryz.ntmps203
  go_wp2_with fail
  refine HP.out.mono ?_
  rintro e w1 ⟨rfl,hE,hK⟩
  have HF:=hid (show EnPost L E1 w w1 from ⟨L,hE,hK,rfl,rfl⟩)
  clear hE hK HP
  go_wp2
  go_ret
  exact⟨rfl,HF.out⟩
 ·rw [if_neg h0] at hR
  obtain⟨E2,hE2,rfl⟩:∃ E2,endF f (loseE E1 i why) i 3=some E2∧R=(why,E2):=by
   cases he:endF f (loseE E1 i why) i 3 with
   | none=>rw [he] at hR;cases hR
   | some E2=>rw [he] at hR;simp at hR;exact⟨E2,rfl,hR.symm⟩
  have g1:(why != 0)=true:=by simpa using h0
  have HE2:=hid hE2
  clear hR h0 hE2
  go_enter Tryz.func203,Tryz.ntmps203
  go_wp2_with fail
  refine HP.out.mono ?_
  rintro e w1 ⟨rfl,hE,hK⟩
  simp only at hE
  obtain⟨t1,ht1,_⟩:=hE.getL HL.out
  have HC:=hid (lose_any hend hE HL.out ht1 why HKS.out HE2.out)
  have HK:=hid hK
  clear hE hK HP ht1
  go_wp2_with fail
  refine HC.out.mono ?_
  rintro e w2 ⟨rfl,L',hE2,hK2,hs2,hb2⟩
  have HF:=hid (show EnPost L E2 w w2 from ⟨L',hE2,HK.out.trans hK2,hs2,hb2⟩)
  clear hE2 hK2 hs2 hb2 HC
  go_wp2
  go_ret
  exact⟨rfl,HF.out⟩
end Go.Proofs.YtjefgmeejhakbabGreatDoor
namespace Go.Proofs.YtjefgmeejhakbabGreatDoor
open Go.RowKit
variable {w w':World} {L:EnL} {E:Eng}
def SameRest (E E':Eng):Prop:=E'.ks=E.ks∧E'.last=E.last∧E'.wr=E.wr∧E'.com=E.com∧E'.txs.length=E.txs.length
theorem SameRest.refl (E:Eng):SameRest E E:=⟨rfl,rfl,rfl,rfl,rfl⟩
theorem SameRest.trans {A B C:Eng} (h:SameRest A B) (k:SameRest B C):SameRest A C:=⟨k.1.trans h.1,k.2.1.trans h.2.1,k.2.2.1.trans h.2.2.1,k.2.2.2.1.trans h.2.2.2.1,k.2.2.2.2.trans h.2.2.2.2⟩
theorem rest_upd (E:Eng) (i:Nat) (f:Tx→Tx):SameRest E (E.upd i f):=by
 unfold Eng.upd
 split
 ·exact⟨rfl,rfl,rfl,rfl,setTx_len _ _ _⟩
 ·exact SameRest.refl E
theorem rest_over (E:Eng) (i:Nat) (st:Int):SameRest E (overE E i st):=by
 have:=rest_upd E i (fun t=>{ t with state:=st,bae:=E.txs.length })
 exact this
theorem rest_put (E:Eng) (i:Nat):SameRest E (putE E i).2:=by
 have:=putE_rest E i
 exact⟨this.1,this.2.2.1,this.2.2.2.1,this.2.2.2.2.1,this.2.2.2.2.2⟩
theorem rest_lose (E:Eng) (i:Nat) (why:Int):SameRest E (loseE E i why):=by
 unfold loseE
 split
 ·rename_i t ht
  have:=rest_upd { E with txs:=(E.txs.set i { t with why:=why }).map (freeOf ((i:Int)+1)) } i (fun t=>{ t with reads:=[] })
  refine⟨this.1,this.2.1,this.2.2.1,this.2.2.2.1,this.2.2.2.2.trans ?_⟩
  simp
 ·exact SameRest.refl E
theorem rest_write {fin:Eng→Nat→Int→Option Eng} (hf:∀ E i st E',fin E i st=some E'→SameRest E E') {E:Eng} {j:Nat} {R:Int × Eng} (h:writeR fin E j=some R):SameRest E R.2:=by
 unfold writeR at h
 have hp:=rest_put E j
 rcases hq:putE E j with ⟨why,E1⟩
 rw [hq] at h hp
 simp only at h hp
 split at h
 ·injection h with h
  subst h
  exact hp
 ·cases he:fin (loseE E1 j why) j 3 with
  | none=>rw [he] at h;cases h
  | some E2 =>
   rw [he] at h
   simp at h
   subst h
   exact (hp.trans (rest_lose E1 j why)).trans (hf _ _ _ _ he)
theorem rest_go {fin:Eng→Nat→Int→Option Eng} (hf:∀ E i st E',fin E i st=some E'→SameRest E E'):∀ (l:List (Int × Int)) {E E':Eng},goR fin l E=some E'→SameRest E E'
 | [],E,E',h=>by
  simp only [goR] at h
  injection h with h
  subst h
  exact SameRest.refl _
 | (_,x)::r,E,E',h=>by
  simp only [goR] at h
  split at h
  ·rcases hw:writeR fin (E.upd (x-1).toNat (fun t=>{ t with state:=0 })) (x-1).toNat with _ | ⟨why,E1⟩
   ·rw [hw] at h;cases h
   ·rw [hw] at h
    exact ((rest_upd E _ _).trans (rest_write hf hw)).trans (rest_go hf r h)
  ·exact rest_go hf r h
theorem rest_end:∀ (f:Nat) (E:Eng) (i:Nat) (st:Int) (E':Eng),endF f E i st=some E'→SameRest E E'
 | 0,_,_,_,_,h=>by cases h
 | f+1,E,i,st,E',h=>by
  simp only [endF] at h
  exact (rest_over E i st).trans (rest_go (rest_end f) _ h)
theorem mem_out {T:Tab} {tx:Int} {p:Int × Int} (h:p∈outP T tx):p.2∈T p.1:=by
 unfold outP at h
 obtain⟨k,_,hk⟩:=List.mem_flatMap.1 h
 unfold outOf at hk
 split at hk
 ·rename_i hc
  rw [List.mem_singleton] at hk
  subst hk
  simp only
  have:holdsP (dropP T tx) k∈dropP T tx k:=by
   unfold holdsP
   cases hd:dropP T tx k with
   | nil=>exact (hc.2 hd).elim
   | cons a r=>simp
  exact (List.mem_filter.1 this).1
 ·cases hk
theorem EnAt.dropped {i:Nat} (h:EnAt w L E) {M':LkM} {N:Nat} (hT:TabAt (L.C E.last) w' L.s N M' (dropP E.T ((i:Int)+1))) (hK:KeptO (L.M.own L.s) (M'.own L.s) w w') :
  EnAt w' { L with M:=M' } { E with T:=dropP E.T ((i:Int)+1) }∧KeptO L.own ({ L with M:=M' }:EnL).own w w' :=
 h.setLock hT hK (h.good.drop _) (fun k x hx=>h.mem k x (List.mem_filter.1 hx).1)
set_option maxRecDepth 100000 in
set_option maxHeartbeats 4000000 in
theorem end_step {f:Nat} (hend:EndOk f):EndOk (f+1):=by
  intro w L E E' i b st h hb hks hE
  obtain⟨l,hl,rfl⟩:∃ l,L.txs[i]?=some l∧l.b=b:=by
    simp only [EnL.bs,List.getElem?_map,Option.map_eq_some_iff] at hb
    exact hb
  obtain⟨t,ht,hA⟩:=h.getL hl
  have c3:=hA.c3
  have f3:=hA.free 3
  obtain⟨h1,k1⟩:=h.setCell hl ht (txCells_state _ l t st) rfl rfl hA.sl rfl rfl hA.wkr
  have hA1:=h1.txs i l _ hl (setTx_get ht)
  have c5:=hA1.c5
  have f5:=hA1.free 5
  have c14:=h1.c14
  obtain⟨h2,k2⟩:=h1.setCell hl (setTx_get ht) (txCells_bae _ l _ (E.txs.length:Int)) rfl rfl hA1.sl rfl rfl hA1.wkr
  rw [setTx_twice] at h2
  have hA2:=h2.txs i l _ hl (setTx_get ht)
  have c0:=hA2.c0
  obtain⟨ad,cap,e⟩:=row_form h.all
  rw [h.len] at e
  rw [e] at c14
  obtain⟨m,hm⟩:∃ m,E.txs.length=m:=⟨_,rfl⟩
  have hE3:{ (E.setTx i { t with state:=st,bae:=(E.txs.length:Int) }) with T:=dropP E.T ((i:Int)+1) }=overE E i st:=by
    unfold overE
    rw [Eng.upd_some ht]
    rfl
  simp only [endF] at hE
  have hov:=rest_over E i st
  obtain⟨out,hout⟩:∃ out,outP E.T ((i:Int)+1)=out:=⟨_,rfl⟩
  have hmo:∀ p∈out,1≤p.2∧p.2≤m:=fun p hp=>by rw [← hm];exact h.mem p.1 p.2 (mem_out (hout▸hp))
  have hol:out.length≤10:=by rw [← hout,← outTo_end];exact outTo_length _ _ 10 (by omega)
  have hle:=h.le
  have hi:=(List.getElem?_eq_some_iff.1 ht).1
  have hdr:=drop_any (C:=L.C E.last) L.s 201 L.M E.T ((i:Int)+1) _ (h2.below (w':=((w.setCell ⟨l.b,3,none⟩ (.int .i64 st)).setCell ⟨l.b,5,none⟩ (.int .i64 (E.txs.length:Int))).drew) (below_drewN (Below.refl _ _) 1)).loc h.good (by unfold I64;omega) (by omega)
  rw [hout] at hdr hE
  rw [h.o] at hdr
  have hap:=hid (fun (w4:World) (M':LkM) (N:Nat) (hT:TabAt (L.C E.last) w4 L.s N M' (dropP E.T ((i:Int)+1))) (hK:KeptO (L.M.own L.s) (M'.own L.s) ((w.setCell ⟨l.b,3,none⟩ (.int .i64 st)).setCell ⟨l.b,5,none⟩ (.int .i64 (E.txs.length:Int))).drew w4) =>
    (h2.below (w':=((w.setCell ⟨l.b,3,none⟩ (.int .i64 st)).setCell ⟨l.b,5,none⟩ (.int .i64 (E.txs.length:Int))).drew) (below_drewN (Below.refl _ _) 1)).dropped (i:=i) hT hK)
  have hown:=hid (fun g (hg:L.own g)=>h2.own_lt hg)
  rw [show ({ (E.setTx i { t with state:=st,bae:=(E.txs.length:Int) }) with T:=dropP (E.setTx i { t with state:=st,bae:=(E.txs.length:Int) }).T ((i:Int)+1) }:Eng)=overE E i st from hE3] at hap
  rw [hm] at c0 c14 hdr hap hle hown k2
  have HD:=hid hdr
  have HK:=hid (k1.trans k2)
  have hks3:∀ l∈(overE E i st).ks,l.length≤100000:=by rw [hov.1];exact hks
  have hlen3:(overE E i st).txs.length=m:=hov.2.2.2.2.trans hm
  obtain⟨E3,hE3'⟩:∃ E3,overE E i st=E3:=⟨_,rfl⟩
  rw [hE3'] at hap hE hks3 hlen3
  have HE:=hid hE
  have HKS:=hid hks3
  have HMO:=hid hmo
  have HMM:=hid hm
  have HLEN3:=hid hlen3
  clear h hb hks hE ht hA h1 k1 hA1 h2 k2 hA2 e hE3 hov hout hmo hdr hks3 hE3' hlen3 hm
  go_enter Tryz.func228,Tryz.ntmps228
  go_wp2
  go_region_held3 (fun W=>W.cell? ⟨l.b,0,none⟩=some (.int .i64 ((i:Int)+1)))
    (first | go_keep | exact y1)
    (first | (go_at_call 287
              refine HD.out.mono ?_
              rintro e w4 ⟨v,rfl,ho,M',hT4,hK4,hng⟩
              obtain⟨ad2,cap2,hv2⟩:=row_form ho
              subst hv2
              obtain⟨hE4,hKK⟩:=hap.out w4 M' _ hT4 hK4
              obtain⟨t4,_,hA4⟩:=hE4.getL (L:={ L with M:=M' }) hl
              have y1:w4.cell? ⟨l.b,0,none⟩=some (.int .i64 ((i:Int)+1)):=hA4.c0
              have HE4:=hid hE4
              have HKK:=hid hKK
              have HO:=hid ho
              have HNG:=hid hng
              clear hE4 hKK ho hng hA4 hT4 hK4))
  have hadg:Hid (∀ j p,out[j]?=some p→∃ g,(Value.slice ad2 out.length cap2).ownBlock=some g∧¬ ({ L with M:=M' }:EnL).own g∧g<w4.heap.size∧∃ cap,Value.slice ad2 out.length cap2=.slice (some ⟨g,0,none⟩) out.length cap∧w4.cell? ⟨g,j*2,none⟩=some (.int .i64 p.1)∧w4.cell? ⟨g,j*2+1,none⟩=some (.int .i64 p.2)):=fun j p hp=>by
    rcases row_slice HO.out with ⟨e1,e2⟩ | ⟨g,cap',e1,hg,hc⟩
    · have:=(List.getElem?_eq_some_iff.1 hp).1;omega
    · have hob:(Value.slice ad2 out.length cap2).ownBlock=some g:=by rw [e1];rfl
      have hb:=(HO.out.lt g hob).1
      have hv:=vrow_get out j p.1 p.2 hp
      refine⟨g,hob,fun ho=>?_,hg,cap',e1,hc _ _ hv.1,hc _ _ hv.2⟩
      rcases ho with h1 | h1 | h1 | h1 | h1 | h1 | h1
      · exact Nat.lt_irrefl _ (Nat.lt_of_lt_of_le (hown.out g (.inl h1)) hb)
      · exact Nat.lt_irrefl _ (Nat.lt_of_lt_of_le (hown.out g (.inr (.inl h1))) hb)
      · exact HNG.out g hob h1
      · exact Nat.lt_irrefl _ (Nat.lt_of_lt_of_le (hown.out g (.inr (.inr (.inr (.inl h1))))) hb)
      · exact Nat.lt_irrefl _ (Nat.lt_of_lt_of_le (hown.out g (.inr (.inr (.inr (.inr (.inl h1)))))) hb)
      · exact Nat.lt_irrefl _ (Nat.lt_of_lt_of_le (hown.out g (.inr (.inr (.inr (.inr (.inr (.inl h1))))))) hb)
      · exact Nat.lt_irrefl _ (Nat.lt_of_lt_of_le (hown.out g (.inr (.inr (.inr (.inr (.inr (.inr h1))))))) hb)
  go_wp2
  go_loopw [31] (fun iv wr=>∃ (j:Nat) (Lj:EnL) (Ej:Eng),j≤out.length∧iv=.int .i64 j∧EnAt wr Lj Ej∧goR (endF f) (out.drop j) Ej=some E'∧Ej.ks=E3.ks∧Ej.txs.length=m∧KeptO ({ L with M:=M' }:EnL).own Lj.own w4 wr∧Lj.s=L.s∧Lj.bs=L.bs) (fun iv _=>out.length-(intOf iv).toNat)
  case atStart=>exact⟨0,{ L with M:=M' },E3,by omega,rfl,HE4.out,by simpa using HE.out,rfl,HLEN3.out,KeptO.refl _ _,rfl,rfl⟩
  case round =>
    obtain⟨j,Lj,Ej,hj,rfl,hEj,hgo,hksj,hlj,hKj,hsj,hbj⟩:=hrel
    by_cases hlt:j<out.length
    · obtain⟨⟨kx,x⟩,hp⟩:∃ p,out[j]?=some p:=⟨out[j],List.getElem?_eq_getElem hlt⟩
      obtain⟨g,_,hng,hg,cap',e1,r1,r2⟩:=hadg.out j (kx,x) hp
      obtain⟨hx1,hx2⟩:=HMO.out _ (List.mem_of_getElem? hp)
      simp only at hx1 hx2 r1 r2
      have q1:=(World.cell?_of_block (a:=⟨g,j*2,none⟩) (hKj.block g hg hng)).trans r1
      have q2:=(World.cell?_of_block (a:=⟨g,j*2+1,none⟩) (hKj.block g hg hng)).trans r2
      have e2:ad2=some ⟨g,0,none⟩:=by injection e1
      clear e1
      subst e2
      obtain⟨y,hy⟩:∃ y:Nat,x=(y:Int)+1:=⟨(x-1).toNat,by omega⟩
      subst hy
      obtain⟨ly,hly⟩:∃ ly,Lj.txs[y]?=some ly:=⟨Lj.txs[y]'(by have:=hEj.len;omega),List.getElem?_eq_getElem _⟩
      have hdrop:out.drop j=(kx,(y:Int)+1)::out.drop (j+1):=by
        rw [List.drop_eq_getElem_cons hlt]
        congr 1
        rw [List.getElem?_eq_getElem hlt] at hp
        injection hp
      rw [hdrop] at hgo
      simp only [goR] at hgo
      rw [if_pos (by rw [hlj];omega),show ((y:Int)+1-1).toNat=y from by omega] at hgo
      have hB1:Below wr.heap.size wr (wr.alloc (.cells #[.int .i64 kx,.int .i64 ((y:Int)+1)] 122)):=(Below.refl _ wr).alloc (Nat.le_refl _) _
      have hE1:=hEj.below hB1
      obtain⟨ty,hty,hTy⟩:=hE1.getL hly
      have z3:=hTy.c3
      have zf:=hTy.free 3
      obtain⟨hE2,hK2⟩:=hE1.setCell hly hty (txCells_state _ ly ty 0) rfl rfl hTy.sl rfl rfl hTy.wkr
      rw [Eng.upd_some hty] at hgo
      rcases hw:writeR (endF f) (Ej.setTx y { ty with state:=0 }) y with _ | ⟨why,E5⟩
      · rw [hw] at hgo;cases hgo
      rw [hw] at hgo
      simp only at hgo
      have hrest:=rest_write (rest_end f) hw
      have HFI:=hid (find_ok hE1 hly)
      have HWR:=hid (write_any hend hE2 hly (setTx_get hty) (by have:=HKS.out;rw [← hksj] at this;exact this) hw)
      have hj0:(0:Int)≤(j:Int):=by omega
      have hj1:(j:Int)<(out.length:Int):=by omega
      have HGO:=hid hgo
      have HKJ:=hid ((hKj.trans (KeptO.of_below hB1)).trans hK2)
      have HK5:=hid (show E5.ks=E3.ks∧E5.txs.length=m from ⟨hrest.1.trans hksj,hrest.2.2.2.2.trans ((setTx_len _ _ _).trans hlj)⟩)
      have HBJ:=hid (And.intro hsj hbj)
      rw [hsj] at HFI HWR
      clear hp hdrop hgo hB1 hE1 hty hTy hE2 hK2 hw hrest hly hEj hKj hksj hlj hbj hsj r1 r2 HE
      go_wp2_with fail
      refine HFI.out.mono ?_
      rintro e w5 ⟨rfl,hw5⟩
      rw [hw5]
      clear hw5 w5
      go_wp2_with fail
      refine HWR.out.mono ?_
      rintro e w6 ⟨rfl,L6,hE6,hK6,hs6,hb6⟩
      have HF:=hid (show _∧_ from ⟨hE6,HKJ.out.trans hK6⟩)
      have HS6:=hid (show L6.s=L.s∧L6.bs=L.bs from ⟨hs6.trans HBJ.out.1,hb6.trans HBJ.out.2⟩)
      clear hE6 hK6 hs6 hb6 HWR HFI
      go_wp2
      go_roundw
      case rel=>exact⟨j+1,L6,E5,by omega,by go_num,HF.out.1,HGO.out,HK5.out.1,HK5.out.2,HF.out.2,HS6.out.1,HS6.out.2⟩
      case measure=>simp [intOf];omega
    · have hj2:out.drop j=[]:=List.drop_of_length_le (by omega)
      rw [hj2] at hgo
      simp only [goR] at hgo
      injection hgo with hgo
      subst hgo
      have hd:Below ((w.setCell ⟨l.b,3,none⟩ (.int .i64 st)).setCell ⟨l.b,5,none⟩ (.int .i64 (m:Int))).heap.size ((w.setCell ⟨l.b,3,none⟩ (.int .i64 st)).setCell ⟨l.b,5,none⟩ (.int .i64 (m:Int))) ((w.setCell ⟨l.b,3,none⟩ (.int .i64 st)).setCell ⟨l.b,5,none⟩ (.int .i64 (m:Int))).drew:=below_drewN (Below.refl _ _) 1
      have HF:=hid (show EnPost L Ej w wr from ⟨Lj,hEj,(HK.out.trans (KeptO.of_below hd)).trans (HKK.out.trans hKj),hsj,hbj⟩)
      clear hEj hKj hsj hbj hd
      go_wp2
      refine bodyPost_end (results_none rfl _ _ _) rfl ?_
      exact⟨rfl,HF.out⟩
theorem end_ok:∀ f,EndOk f
 | 0=>fun _ _ _ _ _ _ _ _ _ _ h=>by cases h
 | f+1=>end_step (end_ok f)
end Go.Proofs.YtjefgmeejhakbabGreatDoor
namespace Go.Proofs.YtjefgmeejhakbabGreatDoor
open Go.RowKit
theorem split_at {α:Type} {l:List α} {i:Nat} {p:α} (h:l[i]?=some p):l=l.take i++p::l.drop (i+1):=by
 obtain⟨h1,h2⟩:=List.getElem?_eq_some_iff.1 h
 rw [← h2,List.getElem_cons_drop,List.take_append_drop]
theorem rec_drop {ws:List (Int × Int)} {i:Nat} {a x:Int} (h:ws[i]?=some (a,x)):∃ r,(recP ws).drop (1+9*i)=a::(bytesN (valN x) 8++r):=by
 have hi:=(List.getElem?_eq_some_iff.1 h).1
 have hl:((ws.take i).flatMap wrB).length=9*i:=by rw [flat_len9,List.length_take];omega
 refine⟨(ws.drop (i+1)).flatMap wrB++bytesN (sumN (headP ws)) 8,?_⟩
 obtain⟨s,hs⟩:∃ s,bytesN (sumN (headP ws)) 8=s:=⟨_,rfl⟩
 unfold recP
 rw [hs]
 unfold headP
 rw [List.cons_append,Nat.add_comm,List.drop_succ_cons]
 conv=>lhs;rw [split_at h]
 rw [List.flatMap_append,List.flatMap_cons,List.append_assoc,List.drop_append_of_le_length (by omega),List.drop_of_length_le (by omega),List.nil_append]
 unfold wrB
 simp
theorem rec_key {ws:List (Int × Int)} {i:Nat} {a x:Int} (h:ws[i]?=some (a,x)):(recP ws)[1+9*i]?=some a:=by
 obtain⟨r,hr⟩:=rec_drop h
 have:=List.getElem?_drop (xs:=recP ws) (i:=1+9*i) (j:=0)
 rw [hr] at this
 simpa using this.symm
theorem rec_num {ws:List (Int × Int)} {i:Nat} {a x:Int} (h:ws[i]?=some (a,x)):numN ((recP ws).drop (1+9*i+1)) 8=valN x:=by
 obtain⟨r,hr⟩:=rec_drop h
 have:(recP ws).drop (1+9*i+1)=bytesN (valN x) 8++r:=by
  rw [← List.drop_drop,hr]
  rfl
 rw [this]
 exact number_bytes (valN_lt x) r
theorem val_back {x:Int} (h:I64 x):IntKind.i64.wrap ((valN x:Nat):Int)=x:=by
 unfold I64 at h
 unfold valN
 rw [IntKind.wrap_i64]
 have h1:=Int.emod_nonneg x (show (18446744073709551616:Int)≠0 by decide)
 omega
set_option maxRecDepth 100000 in
set_option maxHeartbeats 1000000 in
theorem writesOf_any (g off cap:Nat) (ws:List (Int × Int)) (w:World) (hn:ws.length≤10) (hx:∀ p∈ws,I64 p.2) (hcap:(recP ws).length≤cap) (hg:g<w.heap.size) (hA:BytesAt w (some ⟨g,off,none⟩) (recP ws)) :
    Calls Tryz.prog 256 #[.slice (some ⟨g,off,none⟩) (recP ws).length cap] w fun e w'=>∃ v',e=.returned v'∧w'.ownsRow w.heap.size 122 2 v' ws.length (vrow ws)∧Below w.heap.size w w':=by
  obtain⟨i0,hi0,hz0,hz1,hz2⟩:=info_parts info122
  have HA:=hid hA
  have HX:=hid hx
  rw [recP_len] at hcap ⊢
  obtain⟨m,hm⟩:∃ m,ws.length=m:=⟨_,rfl⟩
  have c0:w.cell? ⟨g,off,none⟩=some (.int .u8 (m:Int)):=by
    obtain⟨_,g',off',e,hc⟩:=hA 0 (m:Int) (by rw [← hm];rfl)
    cases e
    rw [Nat.add_zero] at hc
    exact hc
  have HM:=hid hm
  rw [hm] at hn hcap ⊢
  have gl0:(0:Int)<((9+9*m:Nat):Int):=by omega
  clear hA hx hm
  go_enter Tryz.func256,Tryz.ntmps256
  go_wp2
  go_loopw [3,10] (fun tv iv wr=>∃ i:Nat,iv=.int .i64 i∧i≤m∧Hid (wr.ownsRow w.heap.size 122 2 tv i (vrow (ws.take i))∧Below w.heap.size w wr)) (fun _ iv _=>m-(intOf iv).toNat)
  case atStart=>exact⟨0,rfl,Nat.zero_le _,by simpa [vrow] using World.ownsRow_nil w w.heap.size 122 2,Below.refl _ _⟩
  case round =>
    obtain⟨i,rfl,hi,HI⟩:=hrel
    by_cases hlt:i<m
    · obtain⟨⟨a,x⟩,hax⟩:∃ p,ws[i]?=some p:=⟨_,List.getElem?_eq_getElem (by have:=HM.out;omega)⟩
      have hB:=HI.out.2
      have hbs:=hB.size
      have hAr:BytesAt wr (some ⟨g,off,none⟩) (recP ws):=HA.out.same (fun ad hd=>hB.cell (show ad.block<w.heap.size by
        have h5:g=ad.block:=by simpa using hd
        rw [← h5]
        exact hg))
      obtain⟨hb,g',off',e,hck⟩:=hAr _ _ (rec_key hax)
      cases e
      have hvx:=val_back (HX.out _ (List.mem_of_getElem? hax))
      have hck':wr.cell? ⟨g,off+(1+i*9),none⟩=some (.int .u8 a):=by rw [Nat.mul_comm i 9];exact hck
      have hdr:BytesAt wr.drew (some ⟨g,off+(1+i*9)+1,none⟩) ((recP ws).drop (1+9*i+1)):=by
        rw [Nat.mul_comm i 9,Nat.add_assoc]
        exact (hAr.drop (1+9*i+1)).same (fun _ _=>rfl)
      have hln:9≤9+9*m-(1+i*9):=by omega
      have hln2:9+9*m-(1+i*9)≤cap-(1+i*9):=by omega
      have gm:IntKind.i64.wrap ((i:Int)*9)=(i:Int)*9:=IntWalk.i64_in _ (by omega)
      have gm2:IntKind.i64.wrap (1+(i:Int)*9)=1+(i:Int)*9:=IntWalk.i64_in _ (by omega)
      have gi1:(i:Int)<(m:Int):=by omega
      have hnum:=rec_num hax
      have hdl:8≤((recP ws).drop (1+9*i+1)).length:=by rw [List.length_drop,recP_len];have:=HM.out;omega
      have HR:=hid HI.out.1
      have HB:=hid hB
      have HAX:=hid hax
      simp only at hvx
      clear hck hAr hax hB
      go_wp2
      obtain⟨pp,hpp⟩:∃ pp,off+(1+i*9)=pp:=⟨_,rfl⟩
      obtain⟨LL,hLL⟩:∃ LL,9+9*m-(1+i*9)=LL+9:=⟨9+9*m-(1+i*9)-9,by omega⟩
      obtain⟨CC,hCC⟩:∃ CC,cap-(1+i*9)=LL+9+CC:=⟨cap-(1+i*9)-(LL+9),by omega⟩
      rw [hpp] at hck' hdr
      rw [hpp,hLL,hCC]
      have HN:=hid (fun (nn cc:Nat) (h8:8≤nn)=>bnumber_any (some ⟨g,pp+1,none⟩) nn cc ((recP ws).drop (1+9*i+1)) wr.drew h8 hdr hdl)
      rw [hnum] at HN
      have hfar:some g≠u3.ownBlock:=fun e=>by have:=(HR.out.lt g e.symm).1;omega
      have HFAR:=hid hfar
      have hgr:g<wr.heap.size:=by omega
      obtain⟨vn,hvn⟩:∃ vn:Int,((valN x:Nat):Int)=vn:=⟨_,rfl⟩
      rw [hvn] at HN hvx
      clear hpp hLL hCC hdr hnum hdl gm gm2 hfar hvn hln hln2
      have gL0:(0:Int)<(LL:Int)+9:=by omega
      have gL1:(1:Int)≤(LL:Int)+9:=by omega
      have gL2:(LL:Int)+9≤(LL:Int)+9+(CC:Int):=by omega
      have gL3:1≤LL+9:=by omega
      have gka:IntKind.i64.wrap a=a:=IntWalk.i64_in _ (by omega)
      have gL4:¬ (LL+9+CC=1):=by omega
      go_region_held3 (fun W=>W.cell? ⟨g,pp,none⟩=some (.int .u8 a))
        (first | go_keep | exact y0)
        (first
          | (go_at_call 309
             refine (HN.out _ _ (by omega)).mono ?_
             rintro e w4 ⟨rfl,rfl⟩
             have y0:=hck')
          | (refine step_append_lies _ (by rfl) (.tmp 18) (.tmp 28) 120 (by rfl) w.heap.size 122 i0 _ 2 16 Tryz.underlying120 hi0 hz0 hz1 hz2 rfl (by omega) u3 i (vrow (ws.take i)) (by rfl) ((HR.out.alloc _).drew) ⟨wr.heap.size,0,none⟩ 1 1 [.int .i64 a,.int .i64 x] (by rfl) (by rfl) (World.news_of_block (cs:=#[.int .i64 a,.int .i64 x]) (t:=122) (fr:=(0,0)) (heap_alloc_new wr _)) (by simp [Value.oneCell']) (by omega) (by unfold maxLen;omega) (by omega) (by simp;omega) (wr.heap.size+1) (by simp) ?_
             intro gg cap' w5 hown5 hgrow hat hlt5
             have y0:w5.cell? ⟨g,pp,none⟩=some (.int .u8 a):=(World.cell?_of_block (a:=⟨g,pp,none⟩) ((hgrow.block g (by simp;omega) HFAR.out).trans (Below.heap_alloc wr _ g hgr))).trans hck')
          | fail)
      have HF:=hid (And.intro (show w5.ownsRow w.heap.size 122 2 (.slice (some ⟨gg,0,none⟩) (i+1) cap') (i+1) (vrow (ws.take (i+1))) by
        rw [List.take_add_one,HAX.out]
        simp only [Option.toList_some]
        rw [vrow_append]
        exact hown5) (HB.out.trans ((((Below.refl _ wr).alloc (Nat.le_refl _) _).drew.mono hbs).grown hgrow (by simp;omega) (fun q e=>(HR.out.lt q e).1))))
      clear hown5 hgrow hat y0
      go_wp2
      go_roundw
      case rel=>exact⟨i+1,by go_num,by omega,HF.out⟩
      case measure=>simp [intOf];omega
    · obtain rfl:i=m:=by omega
      have gi1:¬ (i:Int)<(i:Int):=by omega
      have h1:=HI.out
      rw [List.take_of_length_le (by have:=HM.out;omega)] at h1
      have HF:=hid h1
      clear h1
      go_wp2
      go_ret
      exact⟨_,rfl,HF.out⟩
end Go.Proofs.YtjefgmeejhakbabGreatDoor
namespace Go.Proofs.YtjefgmeejhakbabGreatDoor
open Go.RowKit
def firstV (s:List Int) (x:Int):Option Value:=(firstAt x s).map (fun i=>Value.int .i64 (i:Nat))
structure WrAt (w:World) (K k:Nat) (av:Value) (mv:Option Nat) (s:List Int):Prop where
 c0:w.cell? ⟨K,k,none⟩=some av
 c1:w.cell? ⟨K,k+1,none⟩=some (.map mv)
 row:w.ownsRow 0 3 1 av s.length (intsV s)
 map:MapIs w mv s.length (firstV s)
set_option maxRecDepth 100000 in
set_option maxHeartbeats 1000000 in
theorem behindW_any (K k:Nat) (av:Value) (mv:Option Nat) (s:List Int) (x:Int) (w:World) (h:WrAt w K k av mv s) (hx:I64 x) (hn:s.length≤100000000) :
  Calls Tryz.prog 304 #[.pointer (some ⟨K,k,none⟩),.int .i64 x] w fun e w'=>w'=w ∧
   (x=0→e=.returned (.tuple #[.int .i64 0,.bool true]))∧(x≠0→∀ i,firstAt x s=some i→e=.returned (.tuple #[.int .i64 ((i:Int)+1),.bool true]))∧(x≠0→firstAt x s=none→e=.returned (.tuple #[.int .i64 0,.bool false])):=by
 have c1:=h.c1
 have hl:=h.map.look Tryz.underlying131 (zeroI w) hx
 clear h
 by_cases h0:x=0
 ·subst h0
  clear hl
  go_enter Tryz.func304,Tryz.ntmps304
  go_wp2
  go_ret2
  exact⟨rfl,fun _=>rfl,fun h=>(h rfl).elim,fun h=>(h rfl).elim⟩
 ·have e0:(x==0)=false:=by simpa using h0
  cases hf:firstAt x s with
  | none =>
   simp only [firstV,hf,Option.map_none,Option.getD_none,Option.isSome_none] at hl
   clear hf
   go_enter Tryz.func304,Tryz.ntmps304
   go_wp2
   go_ret2
   exact⟨rfl,fun e=>(h0 e).elim,fun _ i e=>(by cases e),fun _ _=>rfl⟩
  | some i =>
   have hi:=firstAt_lt hf
   simp only [firstV,hf,Option.map_some,Option.getD_some,Option.isSome_some] at hl
   clear hf
   go_enter Tryz.func304,Tryz.ntmps304
   go_wp2
   go_ret2
   exact⟨rfl,fun e=>(h0 e).elim,fun _ i e=>(by cases e;rfl),fun _ e=>(by cases e)⟩
end Go.Proofs.YtjefgmeejhakbabGreatDoor
