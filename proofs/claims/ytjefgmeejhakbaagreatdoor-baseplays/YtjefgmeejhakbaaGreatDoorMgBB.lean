/- FrPuts BsBw BsCommit BsCommitW: put together for a claim. -/
import Derived.Test.YtjefgmeejhakbaaGreatDoorFeGone
import Derived.Test.YtjefgmeejhakbaaGreatDoorMgBA
/- The document's engine and the landed one: what WRITES is made of. -/
namespace Go.Proofs.YtjefgmeejhakbaaGreatDoor
open Go.RowKit
def restP (E:Eng) (p:Nat→Tx→Bool) (j:Nat):List Nat:=((List.range E.txs.length).drop j).filter (fun i=>match E.txs[i]? with | some t=>p i t | none=>false)
theorem restP_end (E:Eng) (p:Nat→Tx→Bool):restP E p E.txs.length=[]:=by
 unfold restP
 rw [List.drop_of_length_le (by simp)]
 rfl
theorem restP_step {E:Eng} {p:Nat→Tx→Bool} {j:Nat} {t:Tx} (ht:E.txs[j]?=some t):restP E p j=if p j t=true then j::restP E p (j+1) else restP E p (j+1):=by
 have hj:=(List.getElem?_eq_some_iff.1 ht).1
 unfold restP
 rw [List.drop_eq_getElem_cons (by simpa using hj),List.getElem_range,List.filter_cons,ht]
section
variable {w w':World} {L:REnL} {B:Nat} {E E':Eng} {R:REng} {i j:Nat} {t u:Tx} {r s:RTx}
theorem RefAt.place (h:RefAt w L B E) (ht:E.txs[i]?=some t):∃ b,L.bs[i]?=some b:=by
 obtain⟨R,hA,hRel⟩:=h
 obtain⟨r,hr,_⟩:=hRel.getR ht
 obtain⟨l,hl,_⟩:=hA.get hr
 exact⟨l.b,rbs_get hl⟩
theorem rahead_ref (h:RefAt w L B E) (hB:B≤10000000) (hij:i≠j) (hi:E.txs[i]?=some t) (hj:E.txs[j]?=some u) (l1:t.level=2) (l2:u.level=2) (s1:t.state≠3) (s2:u.state≠3) {bi bj:Nat} (hbi:L.bs[i]?=some bi) (hbj:L.bs[j]?=some bj) :
  Calls Tryz.prog 138 #[.pointer (some ⟨bi,0,none⟩),.pointer (some ⟨bj,0,none⟩)] w fun e w'=>e=.returned (.bool (!(putAheadP E i j).1))∧RefPost L (B+2) (putAheadP E i j).2 w w'∧w'.cell? ⟨bi,5,none⟩=w.cell? ⟨bi,5,none⟩∧w'.cell? ⟨bj,4,none⟩=w.cell? ⟨bj,4,none⟩:=by
 obtain⟨R,hA,hRel⟩:=h
 obtain⟨r,hr,hX⟩:=hRel.getR hi
 obtain⟨s,hs,hY⟩:=hRel.getR hj
 obtain⟨l,hl,rfl⟩:=bs_getb hbi
 obtain⟨m,hm,rfl⟩:=bs_getb hbj
 obtain⟨h1,h2⟩:=hRel.ahead hij hi hj hr hs l1 l2 s1 s2
 refine (rahead_any hA hij hl hm hr hs ((hRel.szR hr).mono (by omega)) ((hRel.szR hs).mono (by omega)) (hRel.bl hr) (hRel.bl hs) rfl).mono ?_
 rintro e w1 ⟨rfl,L',hA',hK,hR,hb⟩
 obtain⟨l',hl',hlb⟩:=bs_getb (show L'.bs[i]?=some l.b by rw [hb];exact hbi)
 obtain⟨m',hm',hmb⟩:=bs_getb (show L'.bs[j]?=some m.b by rw [hb];exact hbj)
 have hs1:(R.setTx i { r with behind:=r.behind++[j] }).txs[j]?=some s:=by rw [rsetTx_ne hij];exact hs
 have q1:=(hA'.txs i l' _ hl' (by rw [rsetTx_ne (Ne.symm hij)];exact rsetTx_get hr)).cell 5
 have q2:=(hA'.txs j m' _ hm' (rsetTx_get hs1)).cell 4
 have q3:=(hA.txs i l r hl hr).cell 5
 have q4:=(hA.txs j m s hm hs).cell 4
 rw [hlb] at q1
 rw [hmb] at q2
 refine⟨?_,⟨L',⟨_,hA',h1⟩,hK,hR,hb⟩,q1.trans q3.symm,q2.trans q4.symm⟩
 rw [h2,hX.state,hY.state,Bool.not_not]
theorem rneq_ptr {W:World} {b bi:Nat} {ca cb:Array Value} {ta tb:TypeId} (ha:W.heap[b]?=some (.cells ca ta (0,0))) (hb:W.heap[bi]?=some (.cells cb tb (0,0))) :
  (binOp .neq 171 (.pointer (some ⟨b,0,none⟩)) (.pointer (some ⟨bi,0,none⟩))).run Tryz.prog W=.ok (.bool (decide (b≠bi))) W:=by
 have h22:(Tryz.prog.info? 177).map (·.size)=some 12:=by kernel_rfl
 obtain⟨j,hj⟩:∃ j,Tryz.prog.info? 177=some j:=by
  cases hj:Tryz.prog.info? 177 with
  | none=>rw [hj] at h22;cases h22
  | some j=>exact⟨j,rfl⟩
 have hz:j.size≠0:=by
  rw [hj] at h22
  simp at h22
  omega
 have h:∀ d:Nat,(Op.equalIn (d+1) 171 (.pointer (some ⟨b,0,none⟩)) (.pointer (some ⟨bi,0,none⟩))).run Tryz.prog W=.ok (decide (b=bi)) W:=fun d=>by
  by_cases e:b=bi
  ·subst e
   simp [Op.equalIn,run_underlying Tryz.underlying171,sizeOf,typeInfo,hj,run_sameAddr_same]
  ·have hne:(⟨b,0,none⟩:Addr)≠⟨bi,0,none⟩:=fun e1=>e (by injection e1)
   simp [Op.equalIn,run_underlying Tryz.underlying171,sizeOf,typeInfo,hj,hz,run_sameAddr_other W hne ha hb,e]
 simp only [binOp]
 simp [Op.equal,Op.maxDepth,h 9999]
theorem RefAt.neq (h:RefAt w L B E) (hi:E.txs[i]?=some t) (hj:E.txs[j]?=some u) {bi bj:Nat} (hbi:L.bs[i]?=some bi) (hbj:L.bs[j]?=some bj) :
  (binOp .neq 171 (.pointer (some ⟨bi,0,none⟩)) (.pointer (some ⟨bj,0,none⟩))).run Tryz.prog w=.ok (.bool (decide (i≠j))) w:=by
 obtain⟨R,hA,hRel⟩:=h
 obtain⟨r,hr,hX⟩:=hRel.getR hi
 obtain⟨s,hs,hY⟩:=hRel.getR hj
 obtain⟨l,hl,rfl⟩:=bs_getb hbi
 obtain⟨m,hm,rfl⟩:=bs_getb hbj
 rw [rneq_ptr (hA.txs i l r hl hr).blk (hA.txs j m s hm hs).blk]
 have:decide (l.b≠m.b)=decide (i≠j):=by
  rw [decide_eq_decide]
  constructor
  ·rintro hne rfl
   rw [hl] at hm
   cases hm
   exact hne rfl
  ·exact fun hne=>hA.b_ne hne hl hm
 rw [this]
theorem Rel.hasRead (h:Rel B E R) (hj:E.txs[j]?=some u) (hr:R.txs[i]?=some r) (hs:R.txs[j]?=some s) {k:Nat} (hk:k<10) :
  hasReadB (k:Int) i j u=(s.reads.any (fun o=>o.2.1==(k:Int))&&(decide (j≠i)&&((s.level==2&&s.state != 3)&&(liveB s.state||decide (r.begun<s.over))))):=by
 have hY:=h.tx j u s hj hs
 unfold hasReadB wasOverB
 rw [hY.level,hY.state,Int.toNat_natCast]
 by_cases h3:u.state=3
 ·simp [h3]
 ·have hseen:=hY.seen h3 k hk
  rw [hseen,Option.getD_some]
  have e3:decide (u.state≠3)=true:=by simpa using h3
  have e4:(u.state != 3)=true:=by simpa using h3
  rw [e3,e4]
  cases hl:liveB u.state with
  | true=>simp
  | false =>
   have:=h.ord i j r s u hr hs hj hl
   have e5:decide (u.bae<(i:Int)+1)=!decide (r.begun<s.over):=by
    rw [Bool.eq_iff_iff]
    simp only [decide_eq_true_eq,Bool.not_eq_true',decide_eq_false_iff_not,this]
    omega
   rw [e5]
   simp
theorem Rel.put (h:Rel B E R) (ht:E.txs[i]?=some t) (hr:R.txs[i]?=some r) (hs:t.state=0):Rel (B+1) (E.setTx i { t with vals:=updT t.vals t.wk (some t.wv) }) (R.setTx i { r with own:=r.own++[(t.wk,t.wv)] }):=by
 have hx:=h.tx i t r ht hr
 refine h.setTx ht hr (by omega) (.inl rfl) ⟨hx.level,hx.state,hx.why,hx.start,hx.want,fun k=>?_,hx.reads,hx.seen,hx.be,hx.ah,hx.bl,hx.al,hx.non⟩ (fun e=>by omega) ⟨rfl,rfl⟩ rfl rfl ⟨by simp,by simp,by simp,by simp⟩ (by show B+1+1000*potT t≤_;omega)
 show lastOf (r.own++[(t.wk,t.wv)]) k=updT t.vals t.wk (some t.wv) k
 rw [lastOf_snoc]
 unfold updT
 split
 ·rfl
 ·exact hx.own k
theorem any_take_succ {l:List (Int × Int × Bool × Int)} {a:Nat} {o:Int × Int × Bool × Int} (h:l[a]?=some o) (k:Int):(l.take (a+1)).any (fun o=>o.2.1==k)=((l.take a).any (fun o=>o.2.1==k)||o.2.1==k):=by
 rw [List.take_add_one,h,Option.toList_some,List.any_append]
 simp
theorem opsV_get:∀ (l:List (Int × Int × Bool × Int)) (j:Nat) (o:Int × Int × Bool × Int),l[j]?=some o→(opsV l)[j*4]?=some (.int .i64 o.1)∧(opsV l)[j*4+1]?=some (.int .i64 o.2.1)∧(opsV l)[j*4+2]?=some (.bool o.2.2.1)∧(opsV l)[j*4+3]?=some (.int .i64 o.2.2.2)
 | [],j,o,h=>by simp at h
 | x::r,0,o,h=>by simp at h;subst h;simp [opsV]
 | x::r,j+1,o,h=>by
  have:=opsV_get r j o (by simpa using h)
  rw [show (j+1)*4=j*4+4 by omega]
  simpa [opsV] using this
end
end Go.Proofs.YtjefgmeejhakbaaGreatDoor
/- base's Base.write: the disk has a commit's bytes. -/
namespace Go.Proofs.YtjefgmeejhakbaaGreatDoor
open Go.RowKit
structure KeptB (b d:Nat) (w w':World):Prop where
 os:w'.os=w.os
 tape:w'.tape=w.tape
 output:w'.output=w.output
 size:w.heap.size≤w'.heap.size
 block:∀ k,k<w.heap.size→k≠b→k≠d→w'.heap[k]?=w.heap[k]?
theorem recP_in (ws:List (Int × Int)) (hn:ws.length≤10) (hk:∀ p∈ws,0≤p.1∧p.1<10):∀ x∈recP ws,0≤x∧x<256:=fun x hx=>by
 unfold recP at hx
 rcases List.mem_append.1 hx with hx | hx
 ·exact headP_in ws hn hk x hx
 ·exact bytesN_in _ _ x hx
theorem drewN_same (w:World):∀ q,(w.drewN q).os=w.os∧(w.drewN q).tape=w.tape∧(w.drewN q).output=w.output∧(w.drewN q).heap.size=w.heap.size∧∀ k:Nat,(w.drewN q).heap[k]?=w.heap[k]?
 | 0=>⟨rfl,rfl,rfl,rfl,fun _=>rfl⟩
 | q+1=>drewN_same w q
section
variable {w:World} {b d:Nat} {L:EnL} {E:Eng} {dv:List Value} {D:Dsk} {torn:Int} {recs:List (List (Int × Int))} {ws:List (Int × Int)} {g off cap:Nat}
set_option maxRecDepth 100000 in
set_option maxHeartbeats 1000000 in
theorem bwrite_ok (h:BasAt w b d L E dv D recs.length torn false) (hr:Recs D recs) (hw:ws.length≤10) (hA:BytesAt w (some ⟨g,off,none⟩) (recP ws)) (hleft:D.cut=true→I64 (D.left-1)) (hlt:recs.length<250) (hpw:powerB D=true) :
    Calls Tryz.prog 107 #[.pointer (some ⟨b,0,none⟩),.slice (some ⟨g,off,none⟩) (recP ws).length cap] w fun e w'=>e=.returned .nilIface∧∃ dv',BasAt w' b d L E dv' (writeD D recs.length (recP ws) torn) (recs.length+1) torn false∧KeptB b d w w'∧∀ g,dOwn d dv' g→dOwn d dv g∨w.heap.size≤g:=by
  have c0:=h.cell 0
  have c2:=h.cell 2
  have c3:=h.cell 3
  have c4:=h.cell 4
  simp only [basCells,List.getElem?_toArray,List.getElem?_cons_zero,List.getElem?_cons_succ] at c0 c2 c3 c4
  obtain⟨n,hn⟩:∃ n,recs.length=n:=⟨_,rfl⟩
  obtain⟨v0,l0,hv0,hl0,_⟩:=h.dsk.get (i:=n) (by omega)
  have hw0:=hr.end_ l0 (by rw [hn];exact hl0)
  have HI:=hid (fun q=>isWritten_any (h.dsk.below (below_drewN (Below.refl _ w) q)) (i:=n) (by omega) hl0)
  rw [hw0] at HI
  have hlen:=recP_len ws
  have HW:=hid (fun q=>dwrite_power (cap:=cap) (h.dsk.below (below_drewN (Below.refl _ w) (q+1))) (place:=n) (by omega) (l:=recP ws) (by omega) (hA.same (fun _ _=>by simp)) hleft torn hpw)
  rw [hn] at h c2 ⊢
  have HH:=hid h
  have g250:decide ((n:Int)≥250)=false:=decide_eq_false (by omega)
  have gw:IntKind.i64.wrap ((n:Int)+1)=(n:Int)+1:=IntWalk.i64_in _ (by omega)
  have hbd:b≠d:=fun e=>(h.sepd d (.inl rfl)).2 e.symm
  obtain⟨rl,hrl⟩:∃ rl,(recP ws).length=rl:=⟨_,rfl⟩
  rw [hrl] at HW ⊢
  clear h hr hA hw0 hlen hv0 hl0 hrl
  go_enter Tryz.func107,Tryz.ntmps107
  go_wp2
  go_quiet (first | (go_at_call 154;refine Calls.quiet_of (HI.out _)))
  go_wp2
  obtain⟨w1,hw1⟩:∃ w1,w.drewN nq=w1:=⟨_,rfl⟩
  have HW1:=hid (HW.out nq)
  rw [show w.drewN (nq+1)=w1.drew by rw [← hw1];rfl] at HW1
  have HH1:=hid (show BasAt w1 b d L E dv D n torn false by rw [← hw1];exact HH.out.drewN nq)
  have HK1:=hid (show w1.os=w.os∧w1.tape=w.tape∧w1.output=w.output∧w1.heap.size=w.heap.size∧∀ k,w1.heap[k]?=w.heap[k]? by rw [← hw1];exact drewN_same w nq)
  rw [hw1]
  have d0:=HH1.out.cell 0
  have d2:=HH1.out.cell 2
  have d3:=HH1.out.cell 3
  simp only [basCells,List.getElem?_toArray,List.getElem?_cons_zero,List.getElem?_cons_succ] at d0 d2 d3
  clear hw1 c0 c2 c3 c4 HW HI
  go_region_held3 (fun W=>W.cell? ⟨b,0,none⟩=some (.pointer (some ⟨d,0,none⟩))∧W.cell? ⟨b,2,none⟩=some (.int .i64 (n:Int))∧W.cell? ⟨b,3,none⟩=some (.int .i64 torn))
    (first | go_keep | exact sK)
    (first
      | (go_at_call 156
         refine HW1.out.mono ?_
         rintro e w2 ⟨rfl,⟨dv2,hD2,ho2⟩,⟨hz2,ha2,hb2,hc2⟩,hk2⟩
         have HB2:=hid (HH1.out.setDisk hD2 ho2 hk2)
         have e0:=HB2.out.cell 0
         have e2:=HB2.out.cell 2
         have e3:=HB2.out.cell 3
         simp only [basCells,List.getElem?_toArray,List.getElem?_cons_zero,List.getElem?_cons_succ] at e0 e2 e3
         have sK:w2.cell? ⟨b,0,none⟩=some (.pointer (some ⟨d,0,none⟩))∧w2.cell? ⟨b,2,none⟩=some (.int .i64 (n:Int))∧w2.cell? ⟨b,3,none⟩=some (.int .i64 torn):=⟨e0,e2,e3⟩
         have f2:=HB2.out.free 2
         have HK2:=hid (And.intro hz2 (And.intro ha2 (And.intro hb2 (And.intro hc2 hk2))))
         have HOW2:=hid ho2
         clear hD2 ho2 hz2 ha2 hb2 hc2 hk2 e0 e3)
      | fail)
  have HF:=hid (HB2.out.setOwn (o:=2) (v:=.int .i64 ((n:Int)+1)) (used':=(n:Int)+1) (torn':=torn) (down':=false) rfl)
  clear sK
  go_wp2
  go_ret
  refine⟨rfl,dv2,HF.out,⟨HK2.out.2.1.trans HK1.out.1,HK2.out.2.2.1.trans HK1.out.2.1,HK2.out.2.2.2.1.trans HK1.out.2.2.1,?_,fun k hk hkb hkd=>?_⟩,fun k hk=>(HOW2.out k hk).imp id (fun h5=>by have h6:=HK1.out.2.2.2.1;have h7:w1.drew.heap.size=w1.heap.size:=rfl;omega)⟩
  · have h1:=HK2.out.1
    have h2:=HK1.out.2.2.2.1
    have h3:w1.drew.heap.size=w1.heap.size:=rfl
    simp
    omega
  · rw [heap_setCell_other _ _ _ _ hkb]
    exact (HK2.out.2.2.2.2 k (by show k<w1.heap.size;rw [HK1.out.2.2.2.1];exact hk) hkd).trans (HK1.out.2.2.2.2 k)
set_option maxRecDepth 100000 in
set_option maxHeartbeats 1000000 in
theorem bwrite_off (h:BasAt w b d L E dv D recs.length torn false) (hr:Recs D recs) (hw:ws.length≤10) (hA:BytesAt w (some ⟨g,off,none⟩) (recP ws)) (hcap:(recP ws).length≤cap) (ht:0≤torn) (hlt:recs.length<250) (hpw:powerB D=false) :
    Calls Tryz.prog 107 #[.pointer (some ⟨b,0,none⟩),.slice (some ⟨g,off,none⟩) (recP ws).length cap] w fun e w'=>e=.returned (.iface 24 (.int .i64 14))∧∃ dv',BasAt w' b d L E dv' (writeD D recs.length (recP ws) torn) recs.length torn true∧KeptB b d w w'∧∀ g,dOwn d dv' g→dOwn d dv g∨w.heap.size≤g:=by
  have c0:=h.cell 0
  have c2:=h.cell 2
  have c3:=h.cell 3
  have c4:=h.cell 4
  simp only [basCells,List.getElem?_toArray,List.getElem?_cons_zero,List.getElem?_cons_succ] at c0 c2 c3 c4
  obtain⟨n,hn⟩:∃ n,recs.length=n:=⟨_,rfl⟩
  obtain⟨v0,l0,hv0,hl0,_⟩:=h.dsk.get (i:=n) (by omega)
  have hw0:=hr.end_ l0 (by rw [hn];exact hl0)
  have HI:=hid (fun q=>isWritten_any (h.dsk.below (below_drewN (Below.refl _ w) q)) (i:=n) (by omega) hl0)
  rw [hw0] at HI
  have hlen:=recP_len ws
  have HW:=hid (fun q=>dwrite_off (cap:=cap) (h.dsk.below (below_drewN (Below.refl _ w) (q+1))) (place:=n) (by omega) (l:=recP ws) (by omega) hcap (hA.same (fun _ _=>by simp)) ht hpw)
  rw [hn] at h c2 ⊢
  have HH:=hid h
  have g250:decide ((n:Int)≥250)=false:=decide_eq_false (by omega)
  have hbd:b≠d:=fun e=>(h.sepd d (.inl rfl)).2 e.symm
  obtain⟨rl,hrl⟩:∃ rl,(recP ws).length=rl:=⟨_,rfl⟩
  rw [hrl] at HW ⊢
  clear h hr hA hw0 hlen hv0 hl0 hrl hcap
  go_enter Tryz.func107,Tryz.ntmps107
  go_wp2
  go_quiet (first | (go_at_call 154;refine Calls.quiet_of (HI.out _)))
  go_wp2
  obtain⟨w1,hw1⟩:∃ w1,w.drewN nq=w1:=⟨_,rfl⟩
  have HW1:=hid (HW.out nq)
  rw [show w.drewN (nq+1)=w1.drew by rw [← hw1];rfl] at HW1
  have HH1:=hid (show BasAt w1 b d L E dv D n torn false by rw [← hw1];exact HH.out.drewN nq)
  have HK1:=hid (show w1.os=w.os∧w1.tape=w.tape∧w1.output=w.output∧w1.heap.size=w.heap.size∧∀ k,w1.heap[k]?=w.heap[k]? by rw [← hw1];exact drewN_same w nq)
  rw [hw1]
  have d0:=HH1.out.cell 0
  have d2:=HH1.out.cell 2
  have d3:=HH1.out.cell 3
  simp only [basCells,List.getElem?_toArray,List.getElem?_cons_zero,List.getElem?_cons_succ] at d0 d2 d3
  clear hw1 c0 c2 c3 c4 HW HI
  go_region_held3 (fun W=>W.cell? ⟨b,0,none⟩=some (.pointer (some ⟨d,0,none⟩))∧W.cell? ⟨b,2,none⟩=some (.int .i64 (n:Int))∧W.cell? ⟨b,3,none⟩=some (.int .i64 torn))
    (first | go_keep | exact sK)
    (first
      | (go_at_call 156
         refine HW1.out.mono ?_
         rintro e w2 ⟨rfl,⟨dv2,hD2,ho2⟩,⟨hz2,ha2,hb2,hc2⟩,hk2⟩
         have HB2:=hid (HH1.out.setDisk hD2 ho2 hk2)
         have e0:=HB2.out.cell 0
         have e2:=HB2.out.cell 2
         have e3:=HB2.out.cell 3
         simp only [basCells,List.getElem?_toArray,List.getElem?_cons_zero,List.getElem?_cons_succ] at e0 e2 e3
         have sK:w2.cell? ⟨b,0,none⟩=some (.pointer (some ⟨d,0,none⟩))∧w2.cell? ⟨b,2,none⟩=some (.int .i64 (n:Int))∧w2.cell? ⟨b,3,none⟩=some (.int .i64 torn):=⟨e0,e2,e3⟩
         have f2:=HB2.out.free 4
         have e4:=HB2.out.cell 4
         simp only [basCells,List.getElem?_toArray,List.getElem?_cons_zero,List.getElem?_cons_succ] at e4
         have HK2:=hid (And.intro hz2 (And.intro ha2 (And.intro hb2 (And.intro hc2 hk2))))
         have HOW2:=hid ho2
         clear hD2 ho2 hz2 ha2 hb2 hc2 hk2 e0 e3)
      | fail)
  have HF:=hid (HB2.out.setOwn (o:=4) (v:=.bool true) (used':=(n:Int)) (torn':=torn) (down':=true) rfl)
  clear sK
  go_wp2
  go_ret
  refine⟨rfl,dv2,HF.out,⟨HK2.out.2.1.trans HK1.out.1,HK2.out.2.2.1.trans HK1.out.2.1,HK2.out.2.2.2.1.trans HK1.out.2.2.1,?_,fun k hk hkb hkd=>?_⟩,fun k hk=>(HOW2.out k hk).imp id (fun h5=>by have h6:=HK1.out.2.2.2.1;have h7:w1.drew.heap.size=w1.heap.size:=rfl;omega)⟩
  · have h1:=HK2.out.1
    have h2:=HK1.out.2.2.2.1
    have h3:w1.drew.heap.size=w1.heap.size:=rfl
    simp
    omega
  · rw [heap_setCell_other _ _ _ _ hkb]
    exact (HK2.out.2.2.2.2 k (by show k<w1.heap.size;rw [HK1.out.2.2.2.1];exact hk) hkd).trans (HK1.out.2.2.2.2 k)
end
end Go.Proofs.YtjefgmeejhakbaaGreatDoor
/- base's Base.Commit. -/
namespace Go.Proofs.YtjefgmeejhakbaaGreatDoor
open Go.RowKit
structure CmOk (E:Eng) (i:Nat) (t:Tx):Prop where
 fits:Fits E
 fine:FineV t
 last:0≤E.last∧E.last≤1099511627776
 nw:E.nw≤1000000000
 com:E.com.length≤1000000000
 ks:∀ l∈(installE E i).ks,l.length≤100000
 vk:∀ k,t.vals k≠none→0≤k∧k<10
section
variable {w:World} {b d:Nat} {L:EnL} {E:Eng} {dv:List Value} {D:Dsk} {used torn:Int} {down:Bool}
set_option maxRecDepth 100000 in
set_option maxHeartbeats 1000000 in
theorem bcommit_shut (h:BasAt w b d L E dv D used torn down) {n c:Int} (hc:(c=7∧(n<1∨(E.txs.length:Int)<n))∨(c=6∧∃ (i:Nat) (t:Tx),n=(i:Int)+1∧E.txs[i]?=some t∧t.state≠0)) :
  Calls Tryz.prog 43 #[.pointer (some ⟨b,0,none⟩),.int .i64 n] w fun e w'=>e=.returned (.iface 24 (.int .i64 c))∧Below w.heap.size w w':=by
 have c1:=h.cell 1
 simp only [basCells,List.getElem?_toArray,List.getElem?_cons_zero,List.getElem?_cons_succ] at c1
 have HW:Hid (Calls Tryz.prog 28 #[.pointer (some ⟨L.s,0,none⟩),.int .i64 n] w fun e w'=>∃ ad m cap ev,e=.returned (.tuple #[.slice ad m cap,ev])∧Below w.heap.size w w'):=by
  rcases hc with ⟨rfl,hn⟩ | ⟨rfl,i,t,rfl,ht,hs⟩
  ·refine (writesE_err h.en hn).mono ?_
   rintro e w1 ⟨rfl,rfl⟩
   exact⟨_,_,_,_,rfl,Below.refl _ _⟩
  ·refine (writesE_ok h.en ht).mono ?_
   rintro e w1 ⟨v,rfl,hrow,hB⟩
   obtain⟨ad,cap,rfl⟩:=row_form hrow
   exact⟨_,_,_,_,rfl,hB⟩
 have HH:=hid h
 have HC:=hid hc
 have h0:c≠0:=by rcases hc with ⟨rfl,_⟩ | ⟨rfl,_⟩<;>decide
 have hne:∀ w,(binOp .neq 33 (.iface 24 (.int .i64 c)) .nilIface).run Tryz.prog w=.ok (.bool true) w:=fun _=>by kernel_rfl
 clear h hc
 go_enter Tryz.func43,Tryz.ntmps43
 go_wp2_with fail
 refine HW.out.mono ?_
 rintro e w1 ⟨ad,m,cap,ev,rfl,hB1⟩
 have HH1:=hid (HH.out.below hB1)
 have HB1:=hid hB1
 have d1:=HH1.out.cell 1
 simp only [basCells,List.getElem?_toArray,List.getElem?_cons_zero,List.getElem?_cons_succ] at d1
 have HR:=hid (ready_shut HH1.out.en HC.out)
 have HCM:=hid (commit_shut HH1.out.en HC.out)
 rw [show errV c=Value.iface 24 (.int .i64 c) from if_neg h0] at HCM
 clear hB1 HW c1
 go_wp2_with fail
 refine HR.out.mono ?_
 rintro e w2 ⟨rfl,hw2⟩
 rw [hw2]
 clear hw2 w2 HR
 go_wp2_with fail
 refine HCM.out.mono ?_
 rintro e w2 ⟨rfl,hw2⟩
 rw [hw2]
 clear hw2 w2 HCM
 go_wp2
 go_ret
 exact⟨rfl,HB1.out⟩
set_option maxRecDepth 100000 in
set_option maxHeartbeats 1000000 in
theorem bcommit_plain (h:BasAt w b d L E dv D used torn down) {i:Nat} {t:Tx} (hM:CmOk E i t) (ht:E.txs[i]?=some t) (hs:t.state=0) (hp:betB t.ahead t.behind=true∨writesP t.vals=[]) {R:Int × Eng} (hR:commitE 7 E i=some R) :
  Calls Tryz.prog 43 #[.pointer (some ⟨b,0,none⟩),.int .i64 ((i:Int)+1)] w fun e w'=>e=.returned (errV R.1)∧∃ w1,Below w.heap.size w w1∧EnPost L R.2 w1 w':=by
 have c1:=h.cell 1
 simp only [basCells,List.getElem?_toArray,List.getElem?_cons_zero,List.getElem?_cons_succ] at c1
 have HW:=hid (writesE_ok h.en ht)
 have HH:=hid h
 have HT:=hid (And.intro ht hs)
 have HM:=hid hM
 have HR7:=hid hR
 obtain⟨ws,hws⟩:∃ ws,writesP t.vals=ws:=⟨_,rfl⟩
 rw [hws] at HW hp
 obtain⟨bt,hbt⟩:∃ bt,betB t.ahead t.behind=bt:=⟨_,rfl⟩
 rw [hbt] at hp
 have HBT:=hid hbt
 clear h hM ht hs hR hws hbt
 go_enter Tryz.func43,Tryz.ntmps43
 go_wp2_with fail
 refine HW.out.mono ?_
 rintro e w1 ⟨v,rfl,hrow,hB1⟩
 obtain⟨ad,cap,rfl⟩:=row_form hrow
 have HH1:=hid (HH.out.below hB1)
 have HB1:=hid hB1
 have d1:=HH1.out.cell 1
 simp only [basCells,List.getElem?_toArray,List.getElem?_cons_zero,List.getElem?_cons_succ] at d1
 have hRD:=ready_main HH1.out.en HT.out.1 HT.out.2
 rw [HBT.out] at hRD
 have HRD:=hid hRD
 have HCM:=hid (commit_main HH1.out.en HM.out.fits HT.out.1 HT.out.2 HM.out.fine HM.out.last HM.out.nw HM.out.com HM.out.ks HR7.out)
 clear hrow hB1 HW c1 hRD
 cases bt with
 | true =>
  rw [if_pos rfl] at HRD
  have hne:∀ w,(binOp .neq 33 (.iface 24 (.int .i64 13)) .nilIface).run Tryz.prog w=.ok (.bool true) w:=fun _=>by kernel_rfl
  go_wp2_with fail
  refine HRD.out.mono ?_
  rintro e w2 ⟨rfl,hw2⟩
  rw [hw2]
  clear hw2 w2 HRD
  go_wp2_with fail
  refine HCM.out.mono ?_
  rintro e w2 ⟨rfl,hP⟩
  have HP:=hid hP
  clear hP HCM
  go_wp2
  go_ret
  exact⟨rfl,w1,HB1.out,HP.out⟩
 | false =>
  rw [if_neg (by simp)] at HRD
  have hnil:ws=[]:=hp.resolve_left (by simp)
  subst hnil
  go_wp2_with fail
  refine HRD.out.mono ?_
  rintro e w2 ⟨rfl,hw2⟩
  rw [hw2]
  clear hw2 w2 HRD
  go_wp2_with fail
  refine HCM.out.mono ?_
  rintro e w2 ⟨rfl,hP⟩
  have HP:=hid hP
  clear hP HCM
  go_wp2
  go_ret
  exact⟨rfl,w1,HB1.out,HP.out⟩
end
end Go.Proofs.YtjefgmeejhakbaaGreatDoor
/- base's Base.Commit of one that wrote something. -/
namespace Go.Proofs.YtjefgmeejhakbaaGreatDoor
open Go.RowKit
structure BPost (b d:Nat) (L L':EnL) (dv dv':List Value) (w w':World):Prop where
 os:w'.os=w.os
 tape:w'.tape=w.tape
 output:w'.output=w.output
 size:w.heap.size≤w'.heap.size
 block:∀ k,k<w.heap.size→k≠b→k≠d→¬ L.own k→w'.heap[k]?=w.heap[k]?
 enw:∀ g,L'.own g→L.own g∨w.heap.size≤g
 dsw:∀ g,dOwn d dv' g→dOwn d dv g∨w.heap.size≤g
section
variable {w w' w1:World} {b d:Nat} {L L' L'':EnL} {E:Eng} {dv dv' dv'':List Value} {D:Dsk} {used torn:Int} {down:Bool}
theorem BPost.of_below (h:Below w.heap.size w w'):BPost b d L L dv dv w w':=⟨h.os,h.tape,h.output,h.size,fun k hk _ _ _=>h.block k hk,fun _ hg=>.inl hg,fun _ hg=>.inl hg⟩
theorem BPost.trans (h:BPost b d L L' dv dv' w w1) (k:BPost b d L' L'' dv' dv'' w1 w'):BPost b d L L'' dv dv'' w w' :=
 ⟨k.os.trans h.os,k.tape.trans h.tape,k.output.trans h.output,Nat.le_trans h.size k.size,fun i hi h1 h2 h3=>(k.block i (Nat.lt_of_lt_of_le hi h.size) h1 h2 (fun ho=>(h.enw i ho).elim h3 (fun e=>by omega))).trans (h.block i hi h1 h2 h3),
  fun g hg=>(k.enw g hg).elim (fun h1=>h.enw g h1) (fun h1=>.inr (Nat.le_trans h.size h1)),fun g hg=>(k.dsw g hg).elim (fun h1=>h.dsw g h1) (fun h1=>.inr (Nat.le_trans h.size h1))⟩
theorem BPost.of_engine (h:KeptO L.own L'.own w w'):BPost b d L L' dv dv w w':=⟨h.os,h.tape,h.output,h.size,fun k hk _ _ h3=>h.block k hk h3,h.sub,fun _ hg=>.inl hg⟩
variable {recs:List (List (Int × Int))}
set_option maxRecDepth 100000 in
set_option maxHeartbeats 2000000 in
theorem bcommit_ok (h:BasAt w b d L E dv D recs.length torn false) (hr:Recs D recs) {i:Nat} {t:Tx} (hM:CmOk E i t) (ht:E.txs[i]?=some t) (hs:t.state=0) (hb:betB t.ahead t.behind=false) (hne:writesP t.vals≠[]) (hleft:D.cut=true→I64 (D.left-1)) (hlt:recs.length<250) (hpw:powerB D=true) {R:Int × Eng} (hR:commitE 7 E i=some R) :
  Calls Tryz.prog 43 #[.pointer (some ⟨b,0,none⟩),.int .i64 ((i:Int)+1)] w fun e w'=>e=.returned (errV R.1)∧∃ L' dv',BasAt w' b d L' R.2 dv' (writeD D recs.length (recP (writesP t.vals)) torn) (recs.length+1) torn false∧BPost b d L L' dv dv' w w'∧L'.s=L.s:=by
 have c1:=h.cell 1
 simp only [basCells,List.getElem?_toArray,List.getElem?_cons_zero,List.getElem?_cons_succ] at c1
 have HW:=hid (writesE_ok h.en ht)
 have HH:=hid h
 have HT:=hid (And.intro ht hs)
 have HM:=hid hM
 have HR7:=hid hR
 have HRC:=hid hr
 have HBT:=hid hb
 have hwl:=writesP_len t.vals
 have hfv:=hM.fine
 have hvk:=hM.vk
 have HWF:=hid (show ∀ p∈writesP t.vals,Fine p from writesP_fine hvk hfv)
 obtain⟨ws,hws⟩:∃ ws,writesP t.vals=ws:=⟨_,rfl⟩
 rw [hws] at HW hne hwl HWF ⊢
 have gw0:((ws.length:Int)==0)=false:=beq_false_of_ne (fun e=>hne (List.eq_nil_of_length_eq_zero (by omega)))
 clear h hM ht hs hR hws hb hr hfv hvk
 go_enter Tryz.func43,Tryz.ntmps43
 go_wp2_with fail
 refine HW.out.mono ?_
 rintro e w1 ⟨v,rfl,hrow,hB1⟩
 rcases row_slice hrow with ⟨_,e0⟩ | ⟨g,cap,rfl,hg,hc⟩
 ·exact (hne (List.eq_nil_of_length_eq_zero e0)).elim
 have HH1:=hid (HH.out.below hB1)
 have HB1:=hid hB1
 have d1:=HH1.out.cell 1
 simp only [basCells,List.getElem?_toArray,List.getElem?_cons_zero,List.getElem?_cons_succ] at d1
 have hRD:=ready_main HH1.out.en HT.out.1 HT.out.2
 rw [HBT.out,if_neg (by simp)] at hRD
 have HRD:=hid hRD
 have HREC:=hid (record_any (some ⟨g,0,none⟩) cap ws w1 hwl (fun p hp=>fine_key (HWF.out p hp)) (fun j a x hax=>⟨g,0,rfl,hg,by rw [Nat.zero_add];exact hc _ _ (vrow_get ws j a x hax).1,by rw [Nat.zero_add];exact hc _ _ (vrow_get ws j a x hax).2⟩))
 clear hrow hB1 HW c1 hRD hc
 go_wp2_with fail
 refine HRD.out.mono ?_
 rintro e w2 ⟨rfl,hw2⟩
 rw [hw2]
 clear hw2 w2 HRD
 go_wp2_with fail
 refine HREC.out.mono ?_
 rintro e w2 ⟨rv,rfl,hrow2,hB2⟩
 have hrec10:(recP ws).length=9+9*ws.length:=recP_len ws
 rcases row_slice hrow2 with ⟨_,e0⟩ | ⟨g2,cap2,rfl,hg2,hc2⟩
 ·omega
 have HH2:=hid (HH1.out.below hB2)
 have HB2:=hid hB2
 have hin:=recP_in ws hwl (fun p hp=>fine_key (HWF.out p hp))
 have HBW:=hid (bwrite_ok (g:=g2) (off:=0) (cap:=cap2) HH2.out HRC.out hwl (fun j x hx=>⟨hin x (List.mem_of_getElem? hx),g2,0,rfl,by rw [Nat.zero_add];exact hc2 _ _ (u8V_get hx)⟩) hleft hlt hpw)
 clear hrow2 hB2 HREC hc2 hin hrec10
 go_wp2_with fail
 refine HBW.out.mono ?_
 rintro e w3 ⟨rfl,dv3,hB3,hK3,hO3⟩
 have HB3:=hid hB3
 have HP3:=hid (show BPost b d L L dv dv3 w w3 from ((BPost.of_below HB1.out).trans (BPost.of_below HB2.out)).trans ⟨hK3.os,hK3.tape,hK3.output,hK3.size,fun k hk h1 h2 _=>hK3.block k hk h1 h2,fun _ hg=>.inl hg,hO3⟩)
 have e1:=hB3.cell 1
 simp only [basCells,List.getElem?_toArray,List.getElem?_cons_zero,List.getElem?_cons_succ] at e1
 have HCM:=hid (commit_main hB3.en HM.out.fits HT.out.1 HT.out.2 HM.out.fine HM.out.last HM.out.nw HM.out.com HM.out.ks HR7.out)
 clear hB3 hK3 hO3 HBW
 go_wp2_with fail
 refine HCM.out.mono ?_
 rintro e w4 ⟨rfl,hP⟩
 obtain⟨L4,hB4,hK4,hs4⟩:=HB3.out.post hP
 have HF:=hid (And.intro hB4 (And.intro (HP3.out.trans (BPost.of_engine hK4)) hs4))
 clear hP hB4 hK4 hs4 HCM
 go_wp2
 go_ret
 exact⟨rfl,L4,dv3,HF.out⟩
set_option maxRecDepth 100000 in
set_option maxHeartbeats 2000000 in
theorem bcommit_down (h:BasAt w b d L E dv D recs.length torn false) (hr:Recs D recs) {i:Nat} {t:Tx} (hM:CmOk E i t) (ht:E.txs[i]?=some t) (hs:t.state=0) (hb:betB t.ahead t.behind=false) (hne:writesP t.vals≠[]) (htn:0≤torn) (hlt:recs.length<250) (hpw:powerB D=false) :
  Calls Tryz.prog 43 #[.pointer (some ⟨b,0,none⟩),.int .i64 ((i:Int)+1)] w fun e w'=>e=.returned (.iface 24 (.int .i64 14))∧∃ dv',BasAt w' b d L E dv' (writeD D recs.length (recP (writesP t.vals)) torn) recs.length torn true∧BPost b d L L dv dv' w w':=by
 have c1:=h.cell 1
 simp only [basCells,List.getElem?_toArray,List.getElem?_cons_zero,List.getElem?_cons_succ] at c1
 have HW:=hid (writesE_ok h.en ht)
 have HH:=hid h
 have HT:=hid (And.intro ht hs)
 have HRC:=hid hr
 have HBT:=hid hb
 have hwl:=writesP_len t.vals
 have hfv:=hM.fine
 have hvk:=hM.vk
 have HWF:=hid (show ∀ p∈writesP t.vals,Fine p from writesP_fine hvk hfv)
 obtain⟨ws,hws⟩:∃ ws,writesP t.vals=ws:=⟨_,rfl⟩
 rw [hws] at HW hne hwl HWF ⊢
 have gw0:((ws.length:Int)==0)=false:=beq_false_of_ne (fun e=>hne (List.eq_nil_of_length_eq_zero (by omega)))
 have hne14:∀ w,(binOp .neq 33 (.iface 24 (.int .i64 14)) .nilIface).run Tryz.prog w=.ok (.bool true) w:=fun _=>by kernel_rfl
 clear h hM ht hs hws hb hr hfv hvk
 go_enter Tryz.func43,Tryz.ntmps43
 go_wp2_with fail
 refine HW.out.mono ?_
 rintro e w1 ⟨v,rfl,hrow,hB1⟩
 rcases row_slice hrow with ⟨_,e0⟩ | ⟨g,cap,rfl,hg,hc⟩
 ·exact (hne (List.eq_nil_of_length_eq_zero e0)).elim
 have HH1:=hid (HH.out.below hB1)
 have HB1:=hid hB1
 have d1:=HH1.out.cell 1
 simp only [basCells,List.getElem?_toArray,List.getElem?_cons_zero,List.getElem?_cons_succ] at d1
 have hRD:=ready_main HH1.out.en HT.out.1 HT.out.2
 rw [HBT.out,if_neg (by simp)] at hRD
 have HRD:=hid hRD
 have HREC:=hid (record_any (some ⟨g,0,none⟩) cap ws w1 hwl (fun p hp=>fine_key (HWF.out p hp)) (fun j a x hax=>⟨g,0,rfl,hg,by rw [Nat.zero_add];exact hc _ _ (vrow_get ws j a x hax).1,by rw [Nat.zero_add];exact hc _ _ (vrow_get ws j a x hax).2⟩))
 clear hrow hB1 HW c1 hRD hc
 go_wp2_with fail
 refine HRD.out.mono ?_
 rintro e w2 ⟨rfl,hw2⟩
 rw [hw2]
 clear hw2 w2 HRD
 go_wp2_with fail
 refine HREC.out.mono ?_
 rintro e w2 ⟨rv,rfl,hrow2,hB2⟩
 have hrec10:(recP ws).length=9+9*ws.length:=recP_len ws
 obtain⟨_,rad,rcap,erv,hcap2,hx2⟩:=bytesV_own hrow2
 rcases row_slice hrow2 with ⟨_,e0⟩ | ⟨g2,cap2,rfl,hg2,hc2⟩
 ·omega
 have hcap3:(recP ws).length≤cap2:=by injection erv with _ _ e3;omega
 have HH2:=hid (HH1.out.below hB2)
 have HB2:=hid hB2
 have hin:=recP_in ws hwl (fun p hp=>fine_key (HWF.out p hp))
 have HBW:=hid (bwrite_off (g:=g2) (off:=0) (cap:=cap2) HH2.out HRC.out hwl (fun j x hx=>⟨hin x (List.mem_of_getElem? hx),g2,0,rfl,by rw [Nat.zero_add];exact hc2 _ _ (u8V_get hx)⟩) hcap3 htn hlt hpw)
 clear hrow2 hB2 HREC hc2 hin hrec10 erv hcap2 hx2
 go_wp2_with fail
 refine HBW.out.mono ?_
 rintro e w3 ⟨rfl,dv3,hB3,hK3,hO3⟩
 have HF:=hid (And.intro hB3 (show BPost b d L L dv dv3 w w3 from ((BPost.of_below HB1.out).trans (BPost.of_below HB2.out)).trans ⟨hK3.os,hK3.tape,hK3.output,hK3.size,fun k hk h1 h2 _=>hK3.block k hk h1 h2,fun _ hg=>.inl hg,hO3⟩))
 clear hB3 hK3 hO3 HBW
 go_wp2
 go_ret
 exact⟨rfl,dv3,HF.out⟩
end
end Go.Proofs.YtjefgmeejhakbaaGreatDoor
