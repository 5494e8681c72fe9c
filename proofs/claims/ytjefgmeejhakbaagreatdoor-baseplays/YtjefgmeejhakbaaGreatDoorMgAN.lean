/- EnHead EnEnd EnEnd2 FdDoc: put together for a claim. -/
import Derived.Test.YtjefgmeejhakbaaGreatDoorMgAM
import Derived.Test.YtjefgmeejhakbaaGreatDoorFsInst
import Derived.Test.YtjefgmeejhakbaaGreatDoorMgAG
/- The engine's lock table, or its store, is turned. -/
namespace Go.Proofs.YtjefgmeejhakbaaGreatDoor
open Go.RowKit
variable {w w':World} {L:EnL} {E:Eng}
theorem TabAt.tight {C:Emb} {s N:Nat} {M:LkM} {T:Tab} (h:TabAt C w s N M T) (hg:Good T) (hm:∀ k x,x∈T k→1≤x∧x≤200):TabAt C w s 201 M T:=by
 obtain⟨hh,wa,ln,r,R⟩:=h
 have hne:∀ k,T k≠[]→0≤k∧k<(201:Nat):=fun k hk=>by have:=hg.tidy.rng k hk;omega
 refine⟨hh,wa,ln,⟨r.blk,r.mh.upTo 201 (fun k hk=>hne k (fun e=>hk (by rw [R.h k,e];rfl))),r.mw.upTo 201 (fun x hx=>?_),r.ml.upTo 201 (fun k hk=>hne k (fun e=>hk (r.ln0 k (by rw [R.ln k,e];rfl)))),r.ln0,r.ln1,r.ap,r.d1,r.d2,r.both,fun k=>?_⟩,R⟩
 ·have h1:waitsP T x≠-1:=fun e=>hx (by rw [(R.wa x).2.2 e];rfl)
  rcases waits_cases T x with e | ⟨e,_⟩
  ·exact (h1 e).elim
  ·have:=hm _ _ (List.mem_of_mem_tail (mem_of_waits e))
   omega
 ·rw [R.ln k]
  have:=nodup_le (T k) (upTo 201) (hg.tidy.nod k) (fun x hx=>mem_upTo (by have:=hm k x hx;omega) (by have:=hm k x hx;omega))
  rw [upTo_length] at this
  simp only [List.length_tail]
  omega
theorem Sto.reblk {P P':Tail} {base s:Nat} {last last':Int} {vs:List Value} {ks:List (List (Int × Int))} (h:Sto P w base s last vs ks) (hb:w'.heap[s]?=some (.cells (P'.cells last' vs) P'.tt (0,0))) (hr:∀ g,InRows vs g→w'.heap[g]?=w.heap[g]?):Sto P' w' base s last' vs ks :=
 ⟨hb,h.lv,h.lk,fun k v l hv hl=>owns_same (h.own k v l hv hl) (fun g hg=>hr g ⟨v,List.mem_of_getElem? hv,hg⟩),h.apart,h.sb⟩
theorem TabAt.reblk {C C':Emb} {s N:Nat} {M:LkM} {T:Tab} (h:TabAt C w s N M T) (hb:w'.heap[s]?=some (.cells (C'.cells (.map M.mh) (.map M.mw) (.map M.ml)) C'.tt (0,0))) (hr:∀ g,M.own s g→g≠s→w'.heap[g]?=w.heap[g]?):TabAt C' w' s N M T:=by
 obtain⟨hh,wa,ln,r,R⟩:=h
 refine⟨hh,wa,ln,⟨hb,r.mh.same (fun b e=>hr b (.inr (.inl e)) (fun e2=>r.map_ne.1 (e2▸e))),r.mw.same (fun b e=>hr b (.inr (.inr (.inl e))) (fun e2=>r.map_ne.2.1 (e2▸e))),r.ml.same (fun b e=>hr b (.inr (.inr (.inr (.inl e)))) (fun e2=>r.map_ne.2.2 (e2▸e))),r.ln0,fun k hk=>?_,r.ap,r.d1,r.d2,r.both,r.len⟩,R⟩
 obtain⟨v,hv,ho⟩:=r.ln1 k hk
 exact⟨v,hv,owns_same ho (fun g hg=>hr g (.inr (.inr (.inr (.inr ⟨k,v,hv,hg⟩)))) (r.row_ne hv hg).1)⟩
theorem TabAt.blk {C:Emb} {s N:Nat} {M:LkM} {T:Tab} (h:TabAt C w s N M T):w.heap[s]?=some (.cells (C.cells (.map M.mh) (.map M.mw) (.map M.ml)) C.tt (0,0)):=by
 obtain⟨_,_,_,r,_⟩:=h
 exact r.blk
theorem EnAt.setLock (h:EnAt w L E) {M':LkM} {N:Nat} {T':Tab} (hT:TabAt (L.C E.last) w' L.s N M' T') (hK:KeptO (L.M.own L.s) (M'.own L.s) w w') (hg:Good T') (hm:∀ k x,x∈T' k→1≤x∧x≤E.txs.length) :
  EnAt w' { L with M:=M' } { E with T:=T' }∧KeptO L.own ({ L with M:=M' }:EnL).own w w':=by
 obtain⟨ρ,T⟩:=h.tag
 have hle:=h.le
 have hk:∀ g,L.own g→ρ g≠.eng→ρ g≠.lock→w'.heap[g]?=w.heap[g]?:=fun g hg h1 h2=>hK.block g (h.own_lt hg) (fun ho=>by
  by_cases e:g=L.s
  ·exact h1 (by rw [e];exact T.eng)
  ·exact h2 (T.lock g ho e))
 have hblk:=hT.blk
 rw [show (L.C E.last)=(({ L with M:=M' }:EnL).C E.last) from rfl] at hblk
 refine⟨⟨h.sto.reblk ?_ (fun g hg=>hk g (.inr (.inl hg)) (by rw [T.srow g hg];exact nofun) (by rw [T.srow g hg];exact nofun)),hT.tight hg (fun k x hx=>by have:=hm k x hx;omega),hg,hm,
  owns_same h.all (fun g hg=>hk g (.inr (.inr (.inr (.inl hg)))) (by rw [T.all g hg];exact nofun) (by rw [T.all g hg];exact nofun)),h.len,h.le,
  h.wr.same (hk _ (.inr (.inr (.inr (.inr (.inl rfl))))) (by rw [T.wr];exact nofun) (by rw [T.wr];exact nofun)),owns_same h.com (fun g hg=>hk g (.inr (.inr (.inr (.inr (.inr (.inl hg)))))) (by rw [T.com g hg];exact nofun) (by rw [T.com g hg];exact nofun)),h.coml,
  fun i l t hl ht=>(h.txs i l t hl ht).same (fun g hg=>hk g (TxL.own_in (L:=L) hl hg) (by rw [T.tx i l g hl hg];exact nofun) (by rw [T.tx i l g hl hg];exact nofun)),fun g=>if g<w.heap.size then ρ g else .lock,?_⟩,?_⟩
 ·exact hblk.trans (by rw [← EnL.cells_eq];rfl)
 ·have hlt:∀ g,L.own g→(if g<w.heap.size then ρ g else Tag.lock)=ρ g:=fun g hg=>if_pos (h.own_lt hg)
  refine⟨(hlt _ (.inl rfl)).trans T.eng,fun g hg=>(hlt g (.inr (.inl hg))).trans (T.srow g hg),fun g hg hn=>?_,fun g hg=>(hlt g (.inr (.inr (.inr (.inl hg))))).trans (T.all g hg),(hlt _ (.inr (.inr (.inr (.inr (.inl rfl)))))).trans T.wr,
   fun g hg=>(hlt g (.inr (.inr (.inr (.inr (.inr (.inl hg))))))).trans (T.com g hg),fun j m g hm hg=>(hlt g (TxL.own_in (L:=L) hm hg)).trans (T.tx j m g hm hg)⟩
  rcases hK.sub g hg with ho | ho
  ·exact (hlt g (.inr (.inr (.inl ho)))).trans (T.lock g ho hn)
  ·simp only [if_neg (Nat.not_lt.2 ho)]
 ·refine⟨hK.os,hK.tape,hK.output,hK.size,fun g hg hn=>hK.block g hg (fun ho=>hn (.inr (.inr (.inl ho)))),fun g hg=>?_⟩
  rcases hg with h1 | h1 | h1 | h1 | h1 | h1 | h1
  ·exact .inl (.inl h1)
  ·exact .inl (.inr (.inl h1))
  ·rcases hK.sub g h1 with h2 | h2
   ·exact .inl (.inr (.inr (.inl h2)))
   ·exact .inr h2
  ·exact .inl (.inr (.inr (.inr (.inl h1))))
  ·exact .inl (.inr (.inr (.inr (.inr (.inl h1)))))
  ·exact .inl (.inr (.inr (.inr (.inr (.inr (.inl h1))))))
  ·exact .inl (.inr (.inr (.inr (.inr (.inr (.inr h1))))))
theorem EnAt.setSto (h:EnAt w L E) {last':Int} {vs':List Value} {ks':List (List (Int × Int))} (hS:Sto L.P w' (L.s+1) L.s last' vs' ks') (hK:Kept L.s L.vs vs' w w') :
  EnAt w' { L with vs:=vs' } { E with last:=last',ks:=ks' }∧KeptO L.own ({ L with vs:=vs' }:EnL).own w w':=by
 obtain⟨ρ,T⟩:=h.tag
 have hk:∀ g,L.own g→ρ g≠.eng→ρ g≠.srow→w'.heap[g]?=w.heap[g]?:=fun g hg h1 h2=>hK.block g (h.own_lt hg) (fun e=>h1 (by rw [e];exact T.eng)) (fun ho=>h2 (T.srow g ho))
 have hlv:=hS.lv
 refine⟨⟨hS,h.loc.reblk (C':=({ L with vs:=vs' }:EnL).C last') ?_ (fun g hg hne=>hk g (.inr (.inr (.inl hg))) (by rw [T.lock g hg hne];exact nofun) (by rw [T.lock g hg hne];exact nofun)),h.good,h.mem,
  owns_same h.all (fun g hg=>hk g (.inr (.inr (.inr (.inl hg)))) (by rw [T.all g hg];exact nofun) (by rw [T.all g hg];exact nofun)),h.len,h.le,
  h.wr.same (hk _ (.inr (.inr (.inr (.inr (.inl rfl))))) (by rw [T.wr];exact nofun) (by rw [T.wr];exact nofun)),owns_same h.com (fun g hg=>hk g (.inr (.inr (.inr (.inr (.inr (.inl hg)))))) (by rw [T.com g hg];exact nofun) (by rw [T.com g hg];exact nofun)),h.coml,
  fun i l t hl ht=>(h.txs i l t hl ht).same (fun g hg=>hk g (TxL.own_in (L:=L) hl hg) (by rw [T.tx i l g hl hg];exact nofun) (by rw [T.tx i l g hl hg];exact nofun)),fun g=>if g<w.heap.size then ρ g else .srow,?_⟩,?_⟩
 ·exact hS.blk.trans (by rw [← EnL.cells_eq];rfl)
 ·have hlt:∀ g,L.own g→(if g<w.heap.size then ρ g else Tag.srow)=ρ g:=fun g hg=>if_pos (h.own_lt hg)
  refine⟨(hlt _ (.inl rfl)).trans T.eng,fun g hg=>?_,fun g hg hn=>(hlt g (.inr (.inr (.inl hg)))).trans (T.lock g hg hn),fun g hg=>(hlt g (.inr (.inr (.inr (.inl hg))))).trans (T.all g hg),(hlt _ (.inr (.inr (.inr (.inr (.inl rfl)))))).trans T.wr,
   fun g hg=>(hlt g (.inr (.inr (.inr (.inr (.inr (.inl hg))))))).trans (T.com g hg),fun j m g hm hg=>(hlt g (TxL.own_in (L:=L) hm hg)).trans (T.tx j m g hm hg)⟩
  rcases hK.sub g hg with ho | ho
  ·exact (hlt g (.inr (.inl ho))).trans (T.srow g ho)
  ·simp only [if_neg (Nat.not_lt.2 ho)]
 ·refine⟨hK.os,hK.tape,hK.output,hK.size,fun g hg hn=>hK.block g hg (fun e=>hn (.inl e)) (fun ho=>hn (.inr (.inl ho))),fun g hg=>?_⟩
  rcases hg with h1 | h1 | h1 | h1 | h1 | h1 | h1
  ·exact .inl (.inl h1)
  ·rcases hK.sub g h1 with h2 | h2
   ·exact .inl (.inr (.inl h2))
   ·exact .inr h2
  ·exact .inl (.inr (.inr (.inl h1)))
  ·exact .inl (.inr (.inr (.inr (.inl h1))))
  ·exact .inl (.inr (.inr (.inr (.inr (.inl h1)))))
  ·exact .inl (.inr (.inr (.inr (.inr (.inr (.inl h1))))))
  ·exact .inl (.inr (.inr (.inr (.inr (.inr (.inr h1))))))
end Go.Proofs.YtjefgmeejhakbaaGreatDoor
/- engine.write, end: by one induction. -/
namespace Go.Proofs.YtjefgmeejhakbaaGreatDoor
open Go.RowKit
variable {w w':World} {L:EnL} {E:Eng}
theorem putAhead_rest (E:Eng) (i j:Nat):(putAheadP E i j).2.ks=E.ks∧(putAheadP E i j).2.T=E.T∧(putAheadP E i j).2.last=E.last∧(putAheadP E i j).2.wr=E.wr∧(putAheadP E i j).2.com=E.com:=by
 unfold putAheadP
 split
 ·exact⟨rfl,rfl,rfl,rfl,rfl⟩
 ·exact⟨rfl,rfl,rfl,rfl,rfl⟩
theorem aheadAll_rest (f:Nat→Nat × Nat):∀ (js:List Nat) (E:Eng),(aheadAll f js E).2.ks=E.ks∧(aheadAll f js E).2.T=E.T∧(aheadAll f js E).2.last=E.last∧(aheadAll f js E).2.wr=E.wr∧(aheadAll f js E).2.com=E.com∧(aheadAll f js E).2.txs.length=E.txs.length
 | [],E=>⟨rfl,rfl,rfl,rfl,rfl,rfl⟩
 | j::r,E=>by
  have h1:=putAhead_rest E (f j).1 (f j).2
  have h2:=putAhead_len E (f j).1 (f j).2
  unfold aheadAll
  rcases hp:putAheadP E (f j).1 (f j).2 with ⟨b,E'⟩
  rw [hp] at h1 h2
  cases b with
  | true =>
   have h3:=aheadAll_rest f r E'
   simp only at h1 h2 ⊢
   exact⟨h3.1.trans h1.1,h3.2.1.trans h1.2.1,h3.2.2.1.trans h1.2.2.1,h3.2.2.2.1.trans h1.2.2.2.1,h3.2.2.2.2.1.trans h1.2.2.2.2,h3.2.2.2.2.2.trans h2⟩
  | false =>
   simp only at h1 h2 ⊢
   exact⟨h1.1,h1.2.1,h1.2.2.1,h1.2.2.2.1,h1.2.2.2.2,h2⟩
theorem putE_rest (E:Eng) (i:Nat):(putE E i).2.ks=E.ks∧(putE E i).2.T=E.T∧(putE E i).2.last=E.last∧(putE E i).2.wr=E.wr∧(putE E i).2.com=E.com∧(putE E i).2.txs.length=E.txs.length:=by
 cases ht:E.txs[i]? with
 | none=>unfold putE;rw [ht];exact⟨rfl,rfl,rfl,rfl,rfl,rfl⟩
 | some t =>
  by_cases hn:t.level≠0∧newerP E t.wk t.start≠[]
  ·rw [putE_new ht hn];exact⟨rfl,rfl,rfl,rfl,rfl,rfl⟩
  ·rw [putE_ok ht hn]
   have hl:=setTx_len E i { t with vals:=updT t.vals t.wk (some t.wv) }
   split
   ·have h1:=aheadAll_rest (fun j=>(j,i)) (thoseP (E.setTx i { t with vals:=updT t.vals t.wk (some t.wv) }) (hasReadB t.wk i)) (E.setTx i { t with vals:=updT t.vals t.wk (some t.wv) })
    rcases hb:behindP (E.setTx i { t with vals:=updT t.vals t.wk (some t.wv) }) i t.wk with ⟨b,E2⟩
    unfold behindP at hb
    rw [hb] at h1
    rw [hl] at h1
    cases b<;>exact h1
   ·exact⟨rfl,rfl,rfl,rfl,rfl,hl⟩
set_option maxRecDepth 100000 in
set_option maxHeartbeats 2000000 in
theorem write_any {f:Nat} (hend:EndOk f) (h:EnAt w L E) {i:Nat} {l:TxL} {t:Tx} (hl:L.txs[i]?=some l) (ht:E.txs[i]?=some t) (hks:∀ l∈E.ks,l.length≤100000) {R:Int × Eng} (hR:writeR (endF f) E i=some R) :
  Calls Tryz.prog 116 #[.pointer (some ⟨L.s,0,none⟩),.pointer (some ⟨l.b,0,none⟩)] w fun e w'=>e=.returned (.int .i64 R.1)∧EnPost L R.2 w w':=by
 have hA:=h.txs i l t hl ht
 have c6:=hA.c6
 have c7:=hA.c7
 have HP:=hid (putE_any h hl ht hks)
 have hrest:=putE_rest E i
 have HL:=hid hl
 unfold writeR at hR
 obtain⟨why,E1,hp⟩:∃ why E1,putE E i=(why,E1):=⟨_,_,rfl⟩
 rw [hp] at HP hR hrest
 simp only at hR hrest
 have HKS:=hid (show ∀ l∈E1.ks,l.length≤100000 from by rw [hrest.1];exact hks)
 clear h hl ht hA hp hks hrest
 by_cases h0:why=0
 ·subst h0
  rw [if_pos rfl] at hR
  injection hR with hR
  subst hR
  go_enter Tryz.func116,Tryz.ntmps116
  go_wp2_with fail
  refine HP.out.mono ?_
  rintro e w1 ⟨rfl,hE,hK⟩
  have HF:=hid (show EnPost L E1 w w1 from ⟨L,hE,hK,rfl,rfl⟩)
  clear hE hK HP
  go_wp2
  go_ret
  exact⟨rfl,HF.out⟩
 ·rw [if_neg h0] at hR
  obtain⟨E2,hE2,rfl⟩:∃ E2,endF f (loseE E1 i why) i 3=some E2∧R=(why,E2):=by
   cases he:endF f (loseE E1 i why) i 3 with
   | none=>rw [he] at hR;cases hR
   | some E2=>rw [he] at hR;simp at hR;exact⟨E2,rfl,hR.symm⟩
  have g1:(why != 0)=true:=by simpa using h0
  have HE2:=hid hE2
  clear hR h0 hE2
  go_enter Tryz.func116,Tryz.ntmps116
  go_wp2_with fail
  refine HP.out.mono ?_
  rintro e w1 ⟨rfl,hE,hK⟩
  simp only at hE
  obtain⟨t1,ht1,_⟩:=hE.getL HL.out
  have HC:=hid (lose_any hend hE HL.out ht1 why HKS.out HE2.out)
  have HK:=hid hK
  clear hE hK HP ht1
  go_wp2_with fail
  refine HC.out.mono ?_
  rintro e w2 ⟨rfl,L',hE2,hK2,hs2,hb2⟩
  have HF:=hid (show EnPost L E2 w w2 from ⟨L',hE2,HK.out.trans hK2,hs2,hb2⟩)
  clear hE2 hK2 hs2 hb2 HC
  go_wp2
  go_ret
  exact⟨rfl,HF.out⟩
end Go.Proofs.YtjefgmeejhakbaaGreatDoor
/- engine.end. -/
namespace Go.Proofs.YtjefgmeejhakbaaGreatDoor
open Go.RowKit
variable {w w':World} {L:EnL} {E:Eng}
def SameRest (E E':Eng):Prop:=E'.ks=E.ks∧E'.last=E.last∧E'.wr=E.wr∧E'.com=E.com∧E'.txs.length=E.txs.length
theorem SameRest.refl (E:Eng):SameRest E E:=⟨rfl,rfl,rfl,rfl,rfl⟩
theorem SameRest.trans {A B C:Eng} (h:SameRest A B) (k:SameRest B C):SameRest A C:=⟨k.1.trans h.1,k.2.1.trans h.2.1,k.2.2.1.trans h.2.2.1,k.2.2.2.1.trans h.2.2.2.1,k.2.2.2.2.trans h.2.2.2.2⟩
theorem rest_upd (E:Eng) (i:Nat) (f:Tx→Tx):SameRest E (E.upd i f):=by
 unfold Eng.upd
 split
 ·exact⟨rfl,rfl,rfl,rfl,setTx_len _ _ _⟩
 ·exact SameRest.refl E
theorem rest_over (E:Eng) (i:Nat) (st:Int):SameRest E (overE E i st):=by
 have:=rest_upd E i (fun t=>{ t with state:=st,bae:=E.txs.length })
 exact this
theorem rest_put (E:Eng) (i:Nat):SameRest E (putE E i).2:=by
 have:=putE_rest E i
 exact⟨this.1,this.2.2.1,this.2.2.2.1,this.2.2.2.2.1,this.2.2.2.2.2⟩
theorem rest_lose (E:Eng) (i:Nat) (why:Int):SameRest E (loseE E i why):=by
 unfold loseE
 split
 ·rename_i t ht
  have:=rest_upd { E with txs:=(E.txs.set i { t with why:=why }).map (freeOf ((i:Int)+1)) } i (fun t=>{ t with reads:=[] })
  refine⟨this.1,this.2.1,this.2.2.1,this.2.2.2.1,this.2.2.2.2.trans ?_⟩
  simp
 ·exact SameRest.refl E
theorem rest_write {fin:Eng→Nat→Int→Option Eng} (hf:∀ E i st E',fin E i st=some E'→SameRest E E') {E:Eng} {j:Nat} {R:Int × Eng} (h:writeR fin E j=some R):SameRest E R.2:=by
 unfold writeR at h
 have hp:=rest_put E j
 rcases hq:putE E j with ⟨why,E1⟩
 rw [hq] at h hp
 simp only at h hp
 split at h
 ·injection h with h
  subst h
  exact hp
 ·cases he:fin (loseE E1 j why) j 3 with
  | none=>rw [he] at h;cases h
  | some E2 =>
   rw [he] at h
   simp at h
   subst h
   exact (hp.trans (rest_lose E1 j why)).trans (hf _ _ _ _ he)
theorem rest_go {fin:Eng→Nat→Int→Option Eng} (hf:∀ E i st E',fin E i st=some E'→SameRest E E'):∀ (l:List (Int × Int)) {E E':Eng},goR fin l E=some E'→SameRest E E'
 | [],E,E',h=>by
  simp only [goR] at h
  injection h with h
  subst h
  exact SameRest.refl _
 | (_,x)::r,E,E',h=>by
  simp only [goR] at h
  split at h
  ·rcases hw:writeR fin (E.upd (x-1).toNat (fun t=>{ t with state:=0 })) (x-1).toNat with _ | ⟨why,E1⟩
   ·rw [hw] at h;cases h
   ·rw [hw] at h
    exact ((rest_upd E _ _).trans (rest_write hf hw)).trans (rest_go hf r h)
  ·exact rest_go hf r h
theorem rest_end:∀ (f:Nat) (E:Eng) (i:Nat) (st:Int) (E':Eng),endF f E i st=some E'→SameRest E E'
 | 0,_,_,_,_,h=>by cases h
 | f+1,E,i,st,E',h=>by
  simp only [endF] at h
  exact (rest_over E i st).trans (rest_go (rest_end f) _ h)
theorem mem_out {T:Tab} {tx:Int} {p:Int × Int} (h:p∈outP T tx):p.2∈T p.1:=by
 unfold outP at h
 obtain⟨k,_,hk⟩:=List.mem_flatMap.1 h
 unfold outOf at hk
 split at hk
 ·rename_i hc
  rw [List.mem_singleton] at hk
  subst hk
  simp only
  have:holdsP (dropP T tx) k∈dropP T tx k:=by
   unfold holdsP
   cases hd:dropP T tx k with
   | nil=>exact (hc.2 hd).elim
   | cons a r=>simp
  exact (List.mem_filter.1 this).1
 ·cases hk
theorem EnAt.dropped {i:Nat} (h:EnAt w L E) {M':LkM} {N:Nat} (hT:TabAt (L.C E.last) w' L.s N M' (dropP E.T ((i:Int)+1))) (hK:KeptO (L.M.own L.s) (M'.own L.s) w w') :
  EnAt w' { L with M:=M' } { E with T:=dropP E.T ((i:Int)+1) }∧KeptO L.own ({ L with M:=M' }:EnL).own w w' :=
 h.setLock hT hK (h.good.drop _) (fun k x hx=>h.mem k x (List.mem_filter.1 hx).1)
set_option maxRecDepth 100000 in
set_option maxHeartbeats 4000000 in
theorem end_step {f:Nat} (hend:EndOk f):EndOk (f+1):=by
  intro w L E E' i b st h hb hks hE
  obtain⟨l,hl,rfl⟩:∃ l,L.txs[i]?=some l∧l.b=b:=by
    simp only [EnL.bs,List.getElem?_map,Option.map_eq_some_iff] at hb
    exact hb
  obtain⟨t,ht,hA⟩:=h.getL hl
  have c3:=hA.c3
  have f3:=hA.free 3
  obtain⟨h1,k1⟩:=h.setCell hl ht (txCells_state _ l t st) rfl rfl hA.sl rfl rfl hA.wkr
  have hA1:=h1.txs i l _ hl (setTx_get ht)
  have c5:=hA1.c5
  have f5:=hA1.free 5
  have c14:=h1.c14
  obtain⟨h2,k2⟩:=h1.setCell hl (setTx_get ht) (txCells_bae _ l _ (E.txs.length:Int)) rfl rfl hA1.sl rfl rfl hA1.wkr
  rw [setTx_twice] at h2
  have hA2:=h2.txs i l _ hl (setTx_get ht)
  have c0:=hA2.c0
  obtain⟨ad,cap,e⟩:=row_form h.all
  rw [h.len] at e
  rw [e] at c14
  obtain⟨m,hm⟩:∃ m,E.txs.length=m:=⟨_,rfl⟩
  have hE3:{ (E.setTx i { t with state:=st,bae:=(E.txs.length:Int) }) with T:=dropP E.T ((i:Int)+1) }=overE E i st:=by
    unfold overE
    rw [Eng.upd_some ht]
    rfl
  simp only [endF] at hE
  have hov:=rest_over E i st
  obtain⟨out,hout⟩:∃ out,outP E.T ((i:Int)+1)=out:=⟨_,rfl⟩
  have hmo:∀ p∈out,1≤p.2∧p.2≤m:=fun p hp=>by rw [← hm];exact h.mem p.1 p.2 (mem_out (hout▸hp))
  have hol:out.length≤10:=by rw [← hout,← outTo_end];exact outTo_length _ _ 10 (by omega)
  have hle:=h.le
  have hi:=(List.getElem?_eq_some_iff.1 ht).1
  have hdr:=drop_any (C:=L.C E.last) L.s 201 L.M E.T ((i:Int)+1) _ (h2.below (w':=((w.setCell ⟨l.b,3,none⟩ (.int .i64 st)).setCell ⟨l.b,5,none⟩ (.int .i64 (E.txs.length:Int))).drew) (below_drewN (Below.refl _ _) 1)).loc h.good (by unfold I64;omega) (by omega)
  rw [hout] at hdr hE
  rw [h.o] at hdr
  have hap:=hid (fun (w4:World) (M':LkM) (N:Nat) (hT:TabAt (L.C E.last) w4 L.s N M' (dropP E.T ((i:Int)+1))) (hK:KeptO (L.M.own L.s) (M'.own L.s) ((w.setCell ⟨l.b,3,none⟩ (.int .i64 st)).setCell ⟨l.b,5,none⟩ (.int .i64 (E.txs.length:Int))).drew w4) =>
    (h2.below (w':=((w.setCell ⟨l.b,3,none⟩ (.int .i64 st)).setCell ⟨l.b,5,none⟩ (.int .i64 (E.txs.length:Int))).drew) (below_drewN (Below.refl _ _) 1)).dropped (i:=i) hT hK)
  have hown:=hid (fun g (hg:L.own g)=>h2.own_lt hg)
  rw [show ({ (E.setTx i { t with state:=st,bae:=(E.txs.length:Int) }) with T:=dropP (E.setTx i { t with state:=st,bae:=(E.txs.length:Int) }).T ((i:Int)+1) }:Eng)=overE E i st from hE3] at hap
  rw [hm] at c0 c14 hdr hap hle hown k2
  have HD:=hid hdr
  have HK:=hid (k1.trans k2)
  have hks3:∀ l∈(overE E i st).ks,l.length≤100000:=by rw [hov.1];exact hks
  have hlen3:(overE E i st).txs.length=m:=hov.2.2.2.2.trans hm
  obtain⟨E3,hE3'⟩:∃ E3,overE E i st=E3:=⟨_,rfl⟩
  rw [hE3'] at hap hE hks3 hlen3
  have HE:=hid hE
  have HKS:=hid hks3
  have HMO:=hid hmo
  have HMM:=hid hm
  have HLEN3:=hid hlen3
  clear h hb hks hE ht hA h1 k1 hA1 h2 k2 hA2 e hE3 hov hout hmo hdr hks3 hE3' hlen3 hm
  go_enter Tryz.func105,Tryz.ntmps105
  go_wp2
  go_region_held3 (fun W=>W.cell? ⟨l.b,0,none⟩=some (.int .i64 ((i:Int)+1)))
    (first | go_keep | exact y1)
    (first | (go_at_call 153
              refine HD.out.mono ?_
              rintro e w4 ⟨v,rfl,ho,M',hT4,hK4,hng⟩
              obtain⟨ad2,cap2,hv2⟩:=row_form ho
              subst hv2
              obtain⟨hE4,hKK⟩:=hap.out w4 M' _ hT4 hK4
              obtain⟨t4,_,hA4⟩:=hE4.getL (L:={ L with M:=M' }) hl
              have y1:w4.cell? ⟨l.b,0,none⟩=some (.int .i64 ((i:Int)+1)):=hA4.c0
              have HE4:=hid hE4
              have HKK:=hid hKK
              have HO:=hid ho
              have HNG:=hid hng
              clear hE4 hKK ho hng hA4 hT4 hK4))
  have hadg:Hid (∀ j p,out[j]?=some p→∃ g,(Value.slice ad2 out.length cap2).ownBlock=some g∧¬ ({ L with M:=M' }:EnL).own g∧g<w4.heap.size∧∃ cap,Value.slice ad2 out.length cap2=.slice (some ⟨g,0,none⟩) out.length cap∧w4.cell? ⟨g,j*2,none⟩=some (.int .i64 p.1)∧w4.cell? ⟨g,j*2+1,none⟩=some (.int .i64 p.2)):=fun j p hp=>by
    rcases row_slice HO.out with ⟨e1,e2⟩ | ⟨g,cap',e1,hg,hc⟩
    · have:=(List.getElem?_eq_some_iff.1 hp).1;omega
    · have hob:(Value.slice ad2 out.length cap2).ownBlock=some g:=by rw [e1];rfl
      have hb:=(HO.out.lt g hob).1
      have hv:=vrow_get out j p.1 p.2 hp
      refine⟨g,hob,fun ho=>?_,hg,cap',e1,hc _ _ hv.1,hc _ _ hv.2⟩
      rcases ho with h1 | h1 | h1 | h1 | h1 | h1 | h1
      · exact Nat.lt_irrefl _ (Nat.lt_of_lt_of_le (hown.out g (.inl h1)) hb)
      · exact Nat.lt_irrefl _ (Nat.lt_of_lt_of_le (hown.out g (.inr (.inl h1))) hb)
      · exact HNG.out g hob h1
      · exact Nat.lt_irrefl _ (Nat.lt_of_lt_of_le (hown.out g (.inr (.inr (.inr (.inl h1))))) hb)
      · exact Nat.lt_irrefl _ (Nat.lt_of_lt_of_le (hown.out g (.inr (.inr (.inr (.inr (.inl h1)))))) hb)
      · exact Nat.lt_irrefl _ (Nat.lt_of_lt_of_le (hown.out g (.inr (.inr (.inr (.inr (.inr (.inl h1))))))) hb)
      · exact Nat.lt_irrefl _ (Nat.lt_of_lt_of_le (hown.out g (.inr (.inr (.inr (.inr (.inr (.inr h1))))))) hb)
  go_wp2
  go_loopw [31] (fun iv wr=>∃ (j:Nat) (Lj:EnL) (Ej:Eng),j≤out.length∧iv=.int .i64 j∧EnAt wr Lj Ej∧goR (endF f) (out.drop j) Ej=some E'∧Ej.ks=E3.ks∧Ej.txs.length=m∧KeptO ({ L with M:=M' }:EnL).own Lj.own w4 wr∧Lj.s=L.s∧Lj.bs=L.bs) (fun iv _=>out.length-(intOf iv).toNat)
  case atStart=>exact⟨0,{ L with M:=M' },E3,by omega,rfl,HE4.out,by simpa using HE.out,rfl,HLEN3.out,KeptO.refl _ _,rfl,rfl⟩
  case round =>
    obtain⟨j,Lj,Ej,hj,rfl,hEj,hgo,hksj,hlj,hKj,hsj,hbj⟩:=hrel
    by_cases hlt:j<out.length
    · obtain⟨⟨kx,x⟩,hp⟩:∃ p,out[j]?=some p:=⟨out[j],List.getElem?_eq_getElem hlt⟩
      obtain⟨g,_,hng,hg,cap',e1,r1,r2⟩:=hadg.out j (kx,x) hp
      obtain⟨hx1,hx2⟩:=HMO.out _ (List.mem_of_getElem? hp)
      simp only at hx1 hx2 r1 r2
      have q1:=(World.cell?_of_block (a:=⟨g,j*2,none⟩) (hKj.block g hg hng)).trans r1
      have q2:=(World.cell?_of_block (a:=⟨g,j*2+1,none⟩) (hKj.block g hg hng)).trans r2
      have e2:ad2=some ⟨g,0,none⟩:=by injection e1
      clear e1
      subst e2
      obtain⟨y,hy⟩:∃ y:Nat,x=(y:Int)+1:=⟨(x-1).toNat,by omega⟩
      subst hy
      obtain⟨ly,hly⟩:∃ ly,Lj.txs[y]?=some ly:=⟨Lj.txs[y]'(by have:=hEj.len;omega),List.getElem?_eq_getElem _⟩
      have hdrop:out.drop j=(kx,(y:Int)+1)::out.drop (j+1):=by
        rw [List.drop_eq_getElem_cons hlt]
        congr 1
        rw [List.getElem?_eq_getElem hlt] at hp
        injection hp
      rw [hdrop] at hgo
      simp only [goR] at hgo
      rw [if_pos (by rw [hlj];omega),show ((y:Int)+1-1).toNat=y from by omega] at hgo
      have hB1:Below wr.heap.size wr (wr.alloc (.cells #[.int .i64 kx,.int .i64 ((y:Int)+1)] 78)):=(Below.refl _ wr).alloc (Nat.le_refl _) _
      have hE1:=hEj.below hB1
      obtain⟨ty,hty,hTy⟩:=hE1.getL hly
      have z3:=hTy.c3
      have zf:=hTy.free 3
      obtain⟨hE2,hK2⟩:=hE1.setCell hly hty (txCells_state _ ly ty 0) rfl rfl hTy.sl rfl rfl hTy.wkr
      rw [Eng.upd_some hty] at hgo
      rcases hw:writeR (endF f) (Ej.setTx y { ty with state:=0 }) y with _ | ⟨why,E5⟩
      · rw [hw] at hgo;cases hgo
      rw [hw] at hgo
      simp only at hgo
      have hrest:=rest_write (rest_end f) hw
      have HFI:=hid (find_ok hE1 hly)
      have HWR:=hid (write_any hend hE2 hly (setTx_get hty) (by have:=HKS.out;rw [← hksj] at this;exact this) hw)
      have hj0:(0:Int)≤(j:Int):=by omega
      have hj1:(j:Int)<(out.length:Int):=by omega
      have HGO:=hid hgo
      have HKJ:=hid ((hKj.trans (KeptO.of_below hB1)).trans hK2)
      have HK5:=hid (show E5.ks=E3.ks∧E5.txs.length=m from ⟨hrest.1.trans hksj,hrest.2.2.2.2.trans ((setTx_len _ _ _).trans hlj)⟩)
      have HBJ:=hid (And.intro hsj hbj)
      rw [hsj] at HFI HWR
      clear hp hdrop hgo hB1 hE1 hty hTy hE2 hK2 hw hrest hly hEj hKj hksj hlj hbj hsj r1 r2 HE
      go_wp2_with fail
      refine HFI.out.mono ?_
      rintro e w5 ⟨rfl,hw5⟩
      rw [hw5]
      clear hw5 w5
      go_wp2_with fail
      refine HWR.out.mono ?_
      rintro e w6 ⟨rfl,L6,hE6,hK6,hs6,hb6⟩
      have HF:=hid (show _∧_ from ⟨hE6,HKJ.out.trans hK6⟩)
      have HS6:=hid (show L6.s=L.s∧L6.bs=L.bs from ⟨hs6.trans HBJ.out.1,hb6.trans HBJ.out.2⟩)
      clear hE6 hK6 hs6 hb6 HWR HFI
      go_wp2
      go_roundw
      case rel=>exact⟨j+1,L6,E5,by omega,by go_num,HF.out.1,HGO.out,HK5.out.1,HK5.out.2,HF.out.2,HS6.out.1,HS6.out.2⟩
      case measure=>simp [intOf];omega
    · have hj2:out.drop j=[]:=List.drop_of_length_le (by omega)
      rw [hj2] at hgo
      simp only [goR] at hgo
      injection hgo with hgo
      subst hgo
      have hd:Below ((w.setCell ⟨l.b,3,none⟩ (.int .i64 st)).setCell ⟨l.b,5,none⟩ (.int .i64 (m:Int))).heap.size ((w.setCell ⟨l.b,3,none⟩ (.int .i64 st)).setCell ⟨l.b,5,none⟩ (.int .i64 (m:Int))) ((w.setCell ⟨l.b,3,none⟩ (.int .i64 st)).setCell ⟨l.b,5,none⟩ (.int .i64 (m:Int))).drew:=below_drewN (Below.refl _ _) 1
      have HF:=hid (show EnPost L Ej w wr from ⟨Lj,hEj,(HK.out.trans (KeptO.of_below hd)).trans (HKK.out.trans hKj),hsj,hbj⟩)
      clear hEj hKj hsj hbj hd
      go_wp2
      refine bodyPost_end (results_none rfl _ _ _) rfl ?_
      exact⟨rfl,HF.out⟩
theorem end_ok:∀ f,EndOk f
 | 0=>fun _ _ _ _ _ _ _ _ _ _ h=>by cases h
 | f+1=>end_step (end_ok f)
end Go.Proofs.YtjefgmeejhakbaaGreatDoor
/- Plain: the document's versions as they came, and of each key its versions: as DocA, DocB, for a store inside an engine. -/
namespace Go.Proofs.YtjefgmeejhakbaaGreatDoor
open Go.RowKit
theorem latN_congr (l m:List (Int × Int)) (t:Int):∀ n,(∀ j,j<n→(l[j]?.getD (0,0)).1=(m[j]?.getD (0,0)).1)→latN l t n=latN m t n
 | 0,_=>rfl
 | n+1,h=>by
  simp only [latN]
  rw [h n (by omega),latN_congr l m t n (fun j hj=>h j (by omega))]
theorem many_swept (t:Int) (ks:List (List (Int × Int))):manyP (ks.map (sweepL t))+sweepN t ks=manyP ks:=by
 induction ks with
 | nil=>rfl
 | cons l r ih =>
  have hb:=lat_bounds l t
  have e:(sweepL t l).length+(lat l t).toNat=l.length:=by rw [sweepL,List.length_drop];omega
  simp only [manyP,sweepN,List.map_cons,List.sum_cons] at *
  omega
theorem snoc_ind {α:Type} {P:List α→Prop} (h0:P []) (h1:∀ l x,P l→P (l++[x])) (l:List α):P l:=by
 have:∀ r:List α,P r.reverse:=fun r=>by
  induction r with
  | nil=>exact h0
  | cons x r ih=>rw [List.reverse_cons];exact h1 _ _ ih
 simpa using this l.reverse
def sub (k:Int) (L:List (Int × Int × Int)):List (Int × Int):=(L.filter fun x=>decide (x.1=k)).map fun x=>x.2
theorem sub_cons (k:Int) (x:Int × Int × Int) (L:List (Int × Int × Int)):sub k (x::L)=if x.1=k then x.2::sub k L else sub k L:=by
 by_cases h:x.1=k<;>simp [sub,h]
theorem sub_append (k:Int) (L M:List (Int × Int × Int)):sub k (L++M)=sub k L++sub k M:=by simp [sub]
theorem mem_sub {k:Int} {p:Int × Int} {L:List (Int × Int × Int)}:p∈sub k L↔(k,p)∈L:=by
 simp only [sub,List.mem_map,List.mem_filter,decide_eq_true_eq]
 constructor
 ·rintro⟨⟨a,b⟩,⟨h1,rfl⟩,rfl⟩;exact h1
 ·intro h;exact⟨(k,p),⟨h,rfl⟩,rfl⟩
theorem sub_length (k:Int) (L:List (Int × Int × Int)):(sub k L).length≤L.length:=by
 rw [sub,List.length_map];exact List.length_filter_le _ _
def Rises (l:List (Int × Int)):Prop:=l.Pairwise fun a b=>a.1<b.1
theorem Rises.snoc {l:List (Int × Int)} {p:Int × Int} (h:Rises (l++[p])):Rises l∧∀ a∈l,a.1<p.1:=by
 have:=List.pairwise_append.1 h
 exact⟨this.1,fun a ha=>this.2.2 a ha p (by simp)⟩
theorem Rises.add {l:List (Int × Int)} {p:Int × Int} (h:Rises l) (hp:∀ a∈l,a.1<p.1):Rises (l++[p]) :=
 List.pairwise_append.2 ⟨h,by simp,fun a ha b hb=>by rw [List.mem_singleton.1 hb];exact hp a ha⟩
theorem lat_snoc (l:List (Int × Int)) (p:Int × Int) (t:Int):lat (l++[p]) t=if p.1≤t then (l.length:Int) else lat l t:=by
 unfold lat
 rw [List.length_append,List.length_singleton]
 simp only [latN]
 rw [show (l++[p])[l.length]?=some p by simp,Option.getD_some]
 have:latN (l++[p]) t l.length=latN l t l.length:=latN_congr _ _ _ _ (fun j hj=>by rw [List.getElem?_append_left hj])
 rw [this]
theorem rdP_mem {t:Int} {l:List (Int × Int)} {q:Int × Int} (h:rdP t l=some q):q∈l:=by
 unfold rdP at h
 split at h
 ·exact List.mem_of_getElem? h
 ·cases h
theorem rdP_snoc (t:Int) (l:List (Int × Int)) (p:Int × Int):rdP t (l++[p])=if p.1≤t then some p else rdP t l:=by
 unfold rdP
 rw [lat_snoc]
 by_cases h:p.1≤t
 ·rw [if_pos h,if_pos h,if_pos (by omega)];simp
 ·rw [if_neg h,if_neg h]
  have:=lat_bounds l t
  split
  ·rw [List.getElem?_append_left (by omega)]
  ·rfl
def bestT (t:Int) (b:Option (Int × Int)) (x:Int × Int):Option (Int × Int):=if x.1≤t∧(b=none∨(b.getD (0,0)).1<x.1) then some x else b
theorem best_fold (k t:Int):∀ (L:List (Int × Int × Int)) (b:Option (Int × Int)),L.foldl (bestS k t) b=(sub k L).foldl (bestT t) b
 | [],_=>rfl
 | x::L,b=>by
  rw [List.foldl_cons,best_fold k t L,sub_cons]
  by_cases h:x.1=k
  ·rw [if_pos h,List.foldl_cons]
   simp [bestS,bestT,h]
  ·rw [if_neg h]
   simp [bestS,h]
theorem best_rises (t:Int) (l:List (Int × Int)):Rises l→l.foldl (bestT t) none=rdP t l:=by
 refine snoc_ind (P:=fun l=>Rises l→l.foldl (bestT t) none=rdP t l) (fun _=>by simp [rdP,lat,latN]) (fun l p ih h=>?_) l
 obtain⟨h1,h2⟩:=h.snoc
 rw [List.foldl_append,List.foldl_cons,List.foldl_nil,ih h1,rdP_snoc]
 unfold bestT
 by_cases hp:p.1≤t
 ·rw [if_pos hp,if_pos]
  refine⟨hp,?_⟩
  cases hq:rdP t l with
  | none=>exact .inl rfl
  | some q=>exact .inr (by simpa using h2 q (rdP_mem hq))
 ·rw [if_neg hp,if_neg (fun e=>hp e.1)]
theorem best_sub (k t:Int) (L:List (Int × Int × Int)) (h:Rises (sub k L)):best k t L=rdP t (sub k L):=by
 rw [← best_rises t _ h]
 exact best_fold k t L none
theorem newsR_sub (k t:Int):∀ L:List (Int × Int × Int),newsR k t L=((sub k L).filter fun x=>decide (t<x.1)).map fun x=>x.1
 | []=>rfl
 | x::L=>by
  have ih:=newsR_sub k t L
  unfold newsR at ih ⊢
  rw [sub_cons]
  by_cases h:x.1=k
  ·by_cases h2:t<x.2.1<;>simp [h,h2,ih]
  ·simp [h,ih]
theorem later_rises (t:Int) (l:List (Int × Int)):Rises l→l.filter (fun x=>decide (t<x.1))=l.drop (lat l t+1).toNat:=by
 refine snoc_ind (P:=fun l=>Rises l→l.filter (fun x=>decide (t<x.1))=l.drop (lat l t+1).toNat) (fun _=>by simp) (fun l p ih h=>?_) l
 obtain⟨h1,h2⟩:=h.snoc
 rw [lat_snoc,List.filter_append]
 by_cases hp:p.1≤t
 ·rw [if_pos hp,List.drop_of_length_le (by simp),List.filter_eq_nil_iff.2 (fun a ha=>by have:=h2 a ha;simp;omega)]
  simp;omega
 ·have hb:=lat_bounds l t
  rw [if_neg hp,ih h1,List.drop_append_of_le_length (by omega)]
  simp;omega
theorem news_sub (k t:Int) (L:List (Int × Int × Int)) (h:Rises (sub k L)):newsR k t L=((sub k L).drop (lat (sub k L) t+1).toNat).map fun x=>x.1:=by
 rw [newsR_sub,later_rises t _ h]
theorem news_pair (k t:Int) (L:List (Int × Int × Int)) (h:Rises (sub k L)):(newsR k t L).Pairwise (·≤·):=by
 rw [newsR_sub]
 refine List.pairwise_map.2 ((h.sublist List.filter_sublist).imp (fun h=>?_))
 omega
theorem latN_le (l:List (Int × Int)) (t:Int):∀ m,0≤latN l t m→(l[(latN l t m).toNat]?.getD (0,0)).1≤t
 | 0,h=>by simp [latN] at h
 | m+1,h=>by
  by_cases hq:(l[m]?.getD (0,0)).1≤t
  ·have e:latN l t (m+1)=(m:Int):=by rw [latN,if_pos hq]
   rw [e,Int.toNat_natCast];exact hq
  ·have e:latN l t (m+1)=latN l t m:=by rw [latN,if_neg hq]
   rw [e] at h ⊢
   exact latN_le l t m h
theorem keep_rises (t:Int) (l:List (Int × Int)) (h:Rises l):l.filter (fun x=>decide (t<x.1)||(rdP t l==some x))=sweepL t l:=by
 have hb:=lat_bounds l t
 have hl:=later_rises t l h
 unfold sweepL
 by_cases h0:0≤lat l t
 ·obtain⟨m,hm⟩:=Int.eq_ofNat_of_zero_le h0
  have hml:m<l.length:=by omega
  have hle:=latN_le l t l.length h0
  obtain⟨q,hq⟩:∃ q,l[m]?=some q:=⟨l[m],List.getElem?_eq_getElem hml⟩
  rw [show latN l t l.length=lat l t from rfl,hm,Int.toNat_natCast,hq,Option.getD_some] at hle
  have hr:rdP t l=some q:=by rw [rdP,if_pos h0,hm,Int.toNat_natCast,hq]
  rw [hm] at hl ⊢
  rw [Int.toNat_natCast]
  have e0:l.drop m=q::l.drop (m+1):=by rw [List.drop_eq_getElem_cons hml,← Option.some.inj (hq.symm.trans (List.getElem?_eq_getElem hml))]
  have e1:l=l.take m++(q::l.drop (m+1)):=by rw [← e0,List.take_append_drop]
  have hd:l.drop (m+1)=l.filter (fun x=>decide (t<x.1)):=by rw [hl];congr 1
  have h3:=h
  unfold Rises at h3
  rw [e1,List.pairwise_append] at h3
  rw [hr]
  conv=>lhs;rw [e1]
  rw [List.filter_append,List.filter_eq_nil_iff.2,List.nil_append,e0,List.filter_cons,if_pos (by simp)]
  ·congr 1
   refine List.filter_eq_self.2 (fun a ha=>?_)
   rw [hd] at ha
   have:=(List.mem_filter.1 ha).2
   rw [this];rfl
  ·intro a ha
   have h4:=h3.2.2 a ha q (by simp)
   have hne:q≠a:=fun e=>by rw [e] at h4;omega
   simp [hne];omega
 ·have e:lat l t=-1:=by omega
  rw [e] at hl ⊢
  have hl':l.filter (fun x=>decide (t<x.1))=l:=by rw [hl];simp
  have ha:=List.filter_eq_self.1 hl'
  rw [List.filter_eq_self.2 (fun a h=>by rw [ha a h];rfl)]
  simp
theorem sub_keep (k t:Int) (L:List (Int × Int × Int)):∀ M:List (Int × Int × Int),sub k (M.filter (keepB t L))=(sub k M).filter (fun x=>decide (t<x.1)||(best k t L==some x))
 | []=>rfl
 | y::M=>by
  have ih:=sub_keep k t L M
  rw [sub_cons,List.filter_cons]
  by_cases h:y.1=k
  ·rw [if_pos h]
   have e:keepB t L y=(decide (t<y.2.1)||(best k t L==some y.2)):=by rw [keepB,h]
   rw [List.filter_cons,← e]
   split
   ·rw [sub_cons,if_pos h,ih]
   ·rw [ih]
  ·rw [if_neg h]
   split
   ·rw [sub_cons,if_neg h,ih]
   ·rw [ih]
theorem sub_sweep (k t:Int) (L:List (Int × Int × Int)) (h:Rises (sub k L)):sub k (refSweep t L)=sweepL t (sub k L):=by
 rw [refSweep,sub_keep,best_sub k t L h,keep_rises t _ h]
structure Doc (last:Int) (ks:List (List (Int × Int))) (L:List (Int × Int × Int)):Prop where
 lk:ks.length=10
 eq:∀ k:Nat,k<10→ks[k]?=some (sub k L)
 key:∀ x∈L,inB x.1 0 9=true
 rise:∀ k:Int,Rises (sub k L)
 top:∀ x∈L,x.2.1≤last
section
variable {last:Int} {ks:List (List (Int × Int))} {L:List (Int × Int × Int)}
theorem Doc.bound (h:Doc last ks L):∀ l∈ks,l.length≤L.length:=fun l hl=>by
 obtain⟨k,hk,rfl⟩:=List.mem_iff_getElem.1 hl
 have h1:=h.eq k (by have:=h.lk;omega)
 rw [List.getElem?_eq_getElem hk] at h1
 rw [Option.some.inj h1]
 exact sub_length _ _
theorem Doc.ten (h:Doc last ks L):ks=[sub 0 L,sub 1 L,sub 2 L,sub 3 L,sub 4 L,sub 5 L,sub 6 L,sub 7 L,sub 8 L,sub 9 L]:=by
 refine List.ext_getElem? (fun i=>?_)
 by_cases hi:i<10
 ·rw [h.eq i hi]
  rcases (by omega:i=0∨i=1∨i=2∨i=3∨i=4∨i=5∨i=6∨i=7∨i=8∨i=9) with rfl | rfl | rfl | rfl | rfl | rfl | rfl | rfl | rfl | rfl<;>rfl
 ·rw [List.getElem?_eq_none (by have:=h.lk;omega),List.getElem?_eq_none (by simp;omega)]
theorem ten_length:∀ L:List (Int × Int × Int),(∀ x∈L,inB x.1 0 9=true)→manyP [sub 0 L,sub 1 L,sub 2 L,sub 3 L,sub 4 L,sub 5 L,sub 6 L,sub 7 L,sub 8 L,sub 9 L]=L.length
 | [],_=>rfl
 | x::L,h=>by
  have ih:=ten_length L (fun y hy=>h y (List.mem_cons_of_mem _ hy))
  have hx:=h x (List.mem_cons_self ..)
  simp only [inB,decide_eq_true_eq] at hx
  simp only [manyP,List.map_cons,List.map_nil,List.sum_cons,List.sum_nil,List.length_cons,sub_cons] at ih ⊢
  rcases (by omega:x.1=0∨x.1=1∨x.1=2∨x.1=3∨x.1=4∨x.1=5∨x.1=6∨x.1=7∨x.1=8∨x.1=9) with e | e | e | e | e | e | e | e | e | e<;>simp [e]<;>omega
theorem Doc.many (h:Doc last ks L):manyP ks=L.length:=by
 rw [h.ten]
 exact ten_length L h.key
theorem Doc.sweep (h:Doc last ks L) (t:Int):Doc last (ks.map (sweepL t)) (refSweep t L) where
 lk:=by simp [h.lk]
 eq k hk:=by rw [List.getElem?_map,h.eq k hk,Option.map_some,sub_sweep _ _ _ (h.rise k)]
 key x hx:=h.key x (List.mem_filter.1 hx).1
 rise k:=by
  rw [sub_sweep _ _ _ (h.rise k)]
  exact (h.rise k).sublist (List.drop_sublist _ _)
 top x hx:=h.top x (List.mem_filter.1 hx).1
theorem Doc.sweepN (h:Doc last ks L) (t:Int):(L.length:Int)-((refSweep t L).length:Int)=(sweepN t ks:Nat):=by
 have h1:=h.many
 have h2:=(h.sweep t).many
 have h3:=many_swept t ks
 omega
theorem refSweep_length (t:Int) (L:List (Int × Int × Int)):(refSweep t L).length≤L.length:=List.length_filter_le _ _
end
theorem lastN_congr (k:Int) (ws us:List (Int × Int)):∀ m,(∀ j,j<m→ws[j]?=us[j]?)→lastN k ws m=lastN k us m
 | 0,_=>rfl
 | m+1,h=>by
  simp only [lastN]
  rw [h m (by omega),lastN_congr k ws us m (fun j hj=>h j (by omega))]
def lastFW (k t:Int) (ws:List (Int × Int)):List (Int × Int):=if 0≤lastN k ws ws.length then [(t,(ws[(lastN k ws ws.length).toNat]?.getD (0,0)).2)] else []
theorem lastFW_nil (k t:Int):lastFW k t []=[]:=by simp [lastFW,lastN]
theorem lastFW_snoc (k t:Int) (ws:List (Int × Int)) (p:Int × Int):lastFW k t (ws++[p])=if p.1=k then [(t,p.2)] else lastFW k t ws:=by
 have hc:lastN k (ws++[p]) ws.length=lastN k ws ws.length:=lastN_congr _ _ _ _ (fun j hj=>List.getElem?_append_left hj)
 have hb:=lastN_bounds k ws ws.length
 have he:lastN k (ws++[p]) (ws++[p]).length=if p.1=k then (ws.length:Int) else lastN k ws ws.length:=by
  rw [List.length_append,List.length_singleton,lastN,show (ws++[p])[ws.length]?=some p by simp,Option.getD_some,hc]
 unfold lastFW
 rw [he]
 by_cases h:p.1=k
 ·rw [if_pos h,if_pos h,if_pos (by omega)];simp
 ·rw [if_neg h,if_neg h]
  split
  ·rw [List.getElem?_append_left (by omega)]
  ·rfl
theorem lastFW_or (k t:Int) (ws:List (Int × Int)):lastFW k t ws=[]∨∃ y,lastFW k t ws=[(t,y)]:=by
 unfold lastFW
 split
 ·exact .inr ⟨_,rfl⟩
 ·exact .inl rfl
theorem addTo_succ (t:Int) (ws:List (Int × Int)) (j:Nat):addTo t ws (j+1)=addTo t ws j++(lastFW j t ws).map (fun p=>((j:Int),p)):=by
 rw [addTo,lastFW]
 split<;>simp
theorem sub_one (k:Int) (j:Int) (l:List (Int × Int)):sub k (l.map fun p=>(j,p))=if j=k then l else []:=by
 induction l with
 | nil=>simp [sub]
 | cons p l ih=>rw [List.map_cons,sub_cons,ih];split<;>rfl
theorem sub_addTo (k:Nat) (t:Int) (ws:List (Int × Int)):∀ j,sub k (addTo t ws j)=if k<j then lastFW k t ws else []
 | 0=>by simp [addTo,sub]
 | j+1=>by
  rw [addTo_succ,sub_append,sub_addTo k t ws j,sub_one]
  by_cases h:k=j
  ·subst h;simp
  ·by_cases h2:k<j
   ·rw [if_pos h2,if_neg (by omega),if_pos (by omega)];simp
   ·rw [if_neg h2,if_neg (by omega),if_neg (by omega)];simp
theorem mem_addTo (t:Int) (ws:List (Int × Int)):∀ (j:Nat) (x:Int × Int × Int),x∈addTo t ws j→0≤x.1∧x.1<j∧x.2.1=t
 | 0,x,h=>by simp [addTo] at h
 | j+1,x,h=>by
  rw [addTo_succ,List.mem_append] at h
  rcases h with h | h
  ·have:=mem_addTo t ws j x h
   omega
  ·obtain⟨p,hp,rfl⟩:=List.mem_map.1 h
   refine⟨by simp,by simp;omega,?_⟩
   rcases lastFW_or j t ws with e | ⟨y,e⟩
   ·rw [e] at hp;cases hp
   ·rw [e,List.mem_singleton] at hp;rw [hp]
theorem putP_old (t v:Int) (l:List (Int × Int)) (h:∀ x∈l,x.1<t):putP t v l=l++[(t,v)]:=by
 unfold putP
 rw [if_neg]
 intro e
 cases hl:l.getLast? with
 | none=>rw [hl] at e;cases e
 | some x =>
  rw [hl] at e
  have h1:=h x (List.mem_of_getLast? hl)
  simp only [Option.map_some,Option.some.injEq] at e
  omega
theorem putP_lastW (k t v:Int) (ws l:List (Int × Int)) (h:∀ x∈l,x.1<t):putP t v (l++lastFW k t ws)=l++[(t,v)]:=by
 rcases lastFW_or k t ws with e | ⟨y,e⟩
 ·rw [e,List.append_nil];exact putP_old t v l h
 ·rw [e];exact putP_same t v y l
theorem instP_length (t:Int) (ws:List (Int × Int)) (ks:List (List (Int × Int))):(instP t ws ks).length=ks.length:=by
 refine snoc_ind (P:=fun ws=>(instP t ws ks).length=ks.length) rfl (fun l x ih=>?_) ws
 obtain⟨a,v⟩:=x
 rw [instP_snoc,List.length_set,ih]
theorem instP_doc (t:Int) (ks:List (List (Int × Int))) (hk:ks.length=10) (ht:∀ l∈ks,∀ x∈l,x.1<t) (k:Nat) (l:List (Int × Int)) (hl:ks[k]?=some l) (ws:List (Int × Int)) :
  (∀ p∈ws,Fine p)→(instP t ws ks)[k]?=some (l++lastFW k t ws):=by
 refine snoc_ind (P:=fun ws=>(∀ p∈ws,Fine p)→(instP t ws ks)[k]?=some (l++lastFW k t ws)) (fun _=>by rw [lastFW_nil,List.append_nil];exact hl) (fun ws p ih h=>?_) ws
 have ih:=ih (fun q hq=>h q (List.mem_append_left _ hq))
 obtain⟨a,v⟩:=p
 obtain⟨n,e,hn⟩:=keyB_nat (h (a,v) (by simp)).1
 simp only at e
 subst e
 rw [instP_snoc,lastFW_snoc,Int.toNat_natCast]
 by_cases hkn:n=k
 ·subst hkn
  have hlen:=instP_length t ws ks
  rw [List.getElem?_set_self (by omega),ih,Option.getD_some,if_pos rfl,putP_lastW]
  exact ht l (List.mem_of_getElem? hl)
 ·rw [List.getElem?_set_ne hkn,ih,if_neg (by simp;omega)]
section
variable {last:Int} {ks:List (List (Int × Int))} {L:List (Int × Int × Int)}
theorem Doc.inst (h:Doc last ks L) {t:Int} (ht:last<t) {ws:List (Int × Int)} (hf:∀ p∈ws,Fine p):Doc t (instP t ws ks) (L++addTo t ws 10) where
 lk:=by rw [instP_length,h.lk]
 eq k hk:=by
  rw [sub_append,sub_addTo,if_pos hk]
  refine instP_doc t ks h.lk (fun l hl x hx=>?_) k _ (h.eq k hk) ws hf
  obtain⟨i,hi,rfl⟩:=List.mem_iff_getElem.1 hl
  have h1:=h.eq i (by have:=h.lk;omega)
  rw [List.getElem?_eq_getElem hi] at h1
  rw [Option.some.inj h1] at hx
  have:=h.top _ (mem_sub.1 hx)
  simp only at this
  omega
 key x hx:=by
  rcases List.mem_append.1 hx with hx | hx
  ·exact h.key x hx
  ·have:=mem_addTo t ws 10 x hx
   simp [inB];omega
 rise k:=by
  rw [sub_append]
  by_cases hk:0≤k
  ·obtain⟨n,rfl⟩:=Int.eq_ofNat_of_zero_le hk
   have hs:=sub_addTo n t ws 10
   have hr:=h.rise n
   split at hs
   ·rcases lastFW_or n t ws with e | ⟨y,e⟩
    ·rw [show sub (n:Int) (addTo t ws 10)=[] from hs.trans e,List.append_nil];exact hr
    ·rw [show sub (n:Int) (addTo t ws 10)=[(t,y)] from hs.trans e]
     refine hr.add (fun a ha=>?_)
     have:=h.top _ (mem_sub.1 ha)
     simp only at this ⊢
     omega
   ·rw [show sub (n:Int) (addTo t ws 10)=[] from hs,List.append_nil];exact hr
  ·have e:sub k (addTo t ws 10)=[]:=by
    refine List.eq_nil_iff_forall_not_mem.2 (fun p hp=>?_)
    have:=mem_addTo t ws 10 _ (mem_sub.1 hp)
    simp only at this
    omega
   rw [e,List.append_nil]
   exact h.rise k
 top x hx:=by
  rcases List.mem_append.1 hx with hx | hx
  ·have:=h.top x hx;omega
  ·have:=mem_addTo t ws 10 x hx;omega
end
end Go.Proofs.YtjefgmeejhakbaaGreatDoor
