/- The document's engine: drops, gone. -/
import Derived.Test.YtjefgmeejhakbaaGreatDoorMgBA
namespace Go.Proofs.YtjefgmeejhakbaaGreatDoor
open Go.RowKit
def RefAt (w:World) (L:REnL) (B:Nat) (E:Eng):Prop:=∃ R,REnAt w L R∧Rel B E R
def RefPost (L:REnL) (B:Nat) (E':Eng) (w w':World):Prop:=∃ L',RefAt w' L' B E'∧KeptO L.own L'.own w w'∧HdE L' L∧L'.bs=L.bs
def GoneOk (f:Nat):Prop:=∀ (w:World) (L:REnL) (B:Nat) (E E':Eng) (i:Nat) (t:Tx) (why:Int) (Q:Nat→Prop),RefAt w L B E→B≤10000000→Mid2 E.ce Q→E.ce.live≤f→E.txs[i]?=some t→liveB t.state=true→¬ Q i→endF f (loseE E i why) i 3=some E' →
 Calls Tryz.prog 139 #[.pointer (some ⟨L.R,0,none⟩),.int .i64 ((i:Int)+1),.int .i64 why] w fun e w'=>e=.returned (.tuple #[])∧RefPost L B E' w w'
def PutsOk (f:Nat):Prop:=∀ (w:World) (L:REnL) (B:Nat) (E:Eng) (i:Nat) (t:Tx) (Q:Nat→Prop) (R:Int × Eng),RefAt w L B E→B+402≤10000000→E.txs[i]?=some t→t.state=0→(0≤t.wk∧t.wk<10)→¬ Q i→Mid2 (putE E i).2.ce Q→(putE E i).2.ce.live≤f→writeR (endF f) E i=some R →
 Calls Tryz.prog 141 #[.pointer (some ⟨L.R,0,none⟩),.int .i64 ((i:Int)+1),.agg #[.int .i64 t.wk,.int .i64 t.wv]] w fun e w'=>e=.returned (.tuple #[])∧RefPost L (B+402) R.2 w w'
def DropsOk (f:Nat):Prop:=∀ (w:World) (L:REnL) (B:Nat) (E1 E':Eng) (i:Nat) (Q:Nat→Prop),RefAt w L B E1→B≤10000000→Mid2 ({ E1 with T:=dropP E1.T ((i:Int)+1) }:Eng).ce Q→E1.ce.live≤f→(∀ p∈outP E1.T ((i:Int)+1),∃ m:Nat,p.2=(m:Int)+1∧Q m)→((outP E1.T ((i:Int)+1)).map (·.2)).Nodup →
 goR (endF f) (outP E1.T ((i:Int)+1)) { E1 with T:=dropP E1.T ((i:Int)+1) }=some E' →
 Calls Tryz.prog 142 #[.pointer (some ⟨L.R,0,none⟩),.int .i64 ((i:Int)+1)] w fun e w'=>e=.returned (.tuple #[])∧RefPost L B E' w w'
section
variable {w w':World} {L:REnL} {B:Nat} {E E':Eng} {R:REng} {i j:Nat} {t:Tx} {Q:Nat→Prop} {f:Nat}
theorem RefAt.below (h:RefAt w L B E) (hB:Below w.heap.size w w'):RefAt w' L B E:=by
 obtain⟨R,h1,h2⟩:=h
 exact⟨R,h1.below hB,h2⟩
theorem RefAt.mono {B':Nat} (h:RefAt w L B E) (hB:B≤B'):RefAt w L B' E:=by
 obtain⟨R,h1,h2⟩:=h
 exact⟨R,h1,h2.mono hB⟩
theorem RefAt.own_lt (h:RefAt w L B E) {g:Nat} (hg:L.own g):g<w.heap.size:=by
 obtain⟨R,h1,h2⟩:=h
 exact h1.own_lt hg
theorem RefPost.refl (h:RefAt w L B E):RefPost L B E w w:=⟨L,h,KeptO.refl _ _,⟨rfl,rfl⟩,rfl⟩
theorem goes2_t:Goes2 (fun _ _=>True):=goes2_true
theorem go2_mid (hM:Mid2 E.ce Q) (hf:E.ce.live≤f) {l:List (Int × Int)} (hl:∀ p∈l,∃ m:Nat,p.2=(m:Int)+1∧Q m) (hn:(l.map (·.2)).Nodup) (h:goR (endF f) l E=some E') :
  Mid2 E'.ce (fun m=>Q m∧((m:Int)+1)∉l.map (·.2))∧E'.ce.live≤E.ce.live:=by
 obtain⟨E2,e1,e2,_,e4⟩:=go2_ok goes2_t.ok goes2_t.bad f l E Q hM trivial hf hl hn
 rw [h] at e1
 cases e1
 exact⟨e2,e4⟩
theorem write2_mid (hM:Mid2 E.ce Q) (hf:E.ce.live≤f) {y:Nat} (hq:Q y) {why:Int} (h:writeR (endF f) (wakeE E y) y=some (why,E')):Mid2 E'.ce (fun m=>Q m∧m≠y)∧E'.ce.live≤E.ce.live:=by
 obtain⟨u,hu,_,_⟩:=hM.loc.pend y hq
 have hlen:y<E.txs.length:=by have:=(List.getElem?_eq_some_iff.1 hu).1;simpa [Eng.ce] using this
 have hg:goR (endF f) [((0:Int),(y:Int)+1)] E=some E':=by
  rw [goR,if_pos (by omega),show ((y:Int)+1-1).toNat=y from by omega]
  show (match writeR (endF f) (wakeE E y) y with | some (_,E')=>goR (endF f) [] E' | none=>none)=some E'
  rw [h]
  rfl
 have:=go2_mid hM hf (l:=[((0:Int),(y:Int)+1)]) (fun p hp=>by rw [List.mem_singleton] at hp;subst hp;exact⟨y,rfl,hq⟩) (by simp) hg
 have e:(fun m:Nat=>Q m∧((m:Int)+1)∉[((0:Int),(y:Int)+1)].map (·.2))=(fun m=>Q m∧m≠y):=by
  funext m
  simp only [List.map_cons,List.map_nil,List.mem_singleton,eq_iff_iff]
  exact⟨fun h=>⟨h.1,fun e=>h.2 (by rw [e])⟩,fun h=>⟨h.1,fun e=>h.2 (by omega)⟩⟩
 rw [e] at this
 exact this
theorem Rel.tlen (h:Rel B E R) (k:Int):(E.T k).length≤201:=by
 have hle:=h.le
 have h1:=nodup_lt 201 ((E.T k).map Int.toNat) (List.pairwise_map.2 ((h.good.tidy.nod k).imp_of_mem (fun {a b} ha hb hab e=>hab (by
  have:=h.mem k a ha
  have:=h.mem k b hb
  omega)))) (fun x hx=>by
   obtain⟨a,ha,rfl⟩:=List.mem_map.1 hx
   have:=h.mem k a ha
   omega)
 simpa using h1
theorem Rel.wake (h:Rel B E R) {r:RTx} (ht:E.txs[i]?=some t) (hr:R.txs[i]?=some r) (hs:t.state=1):Rel (B-999) (wakeE E i) (R.setTx i { r with state:=0 })∧2000≤B:=by
 have hx:=h.tx i t r ht hr
 have hp:potT t=2:=by unfold potT;rw [hs];rfl
 have hp':potT ({ t with state:=0 }:Tx)=1:=rfl
 obtain⟨N,_,_,_,z4⟩:=h.sz
 have hpe:2≤pot E:=by
  have:=pot_set ({ t with state:=3 }:Tx) ht
  have h0:potT ({ t with state:=3 }:Tx)=0:=rfl
  omega
 refine⟨?_,by omega⟩
 unfold wakeE
 rw [Eng.upd_some ht]
 exact h.setTx ht hr (by omega) (.inr ⟨by rw [hs];rfl,rfl⟩) ⟨hx.level,rfl,hx.why,hx.start,hx.want,hx.own,fun _=>hx.reads (by omega),fun _=>hx.seen (by omega),hx.be,hx.ah,hx.bl,hx.al,hx.non⟩ (fun e=>by omega) ⟨rfl,rfl⟩ rfl rfl ⟨Nat.le_succ _,Nat.le_succ _,Nat.le_succ _,Nat.le_succ _⟩ (by rw [hp,hp'];omega)
end
section
variable {f:Nat}
set_option maxRecDepth 100000 in
set_option maxHeartbeats 4000000 in
theorem drops_step (hputs:PutsOk f):DropsOk f:=by
  intro w L B E1 E' i Q hA hBB hM hlv hQ hN hgo
  obtain⟨R,hRA,hRel⟩:=hA
  have hdr:=rdrop_any (F:=L.emb R.last R.step) (L.R+1) L.R L.vs R.T ((i:Int)+1) w hRA.tab (by rw [hRel.T];exact hRel.good.tidy) hRA.lt (fun k=>by rw [hRel.T];have:=hRel.tlen k;omega)
  rw [hRel.T] at hdr
  obtain⟨out,hout⟩:∃ out,outP E1.T ((i:Int)+1)=out:=⟨_,rfl⟩
  rw [hout] at hdr hQ hN hgo
  have hol:out.length≤10:=by rw [← hout,← outTo_end];exact outTo_length _ _ 10 (by omega)
  have HD:=hid hdr
  have hap:=hid (fun (w4:World) (vs':List Value) (hT:RTab (L.emb R.last R.step) w4 (L.R+1) L.R vs' (dropP E1.T ((i:Int)+1))) (hK:KeptR L.R L.vs vs' w w4)=>show RefAt w4 { L with vs:=vs' } B { E1 with T:=dropP E1.T ((i:Int)+1) }∧KeptO L.own ({ L with vs:=vs' }:REnL).own w w4 from by
    obtain⟨h1,h2⟩:=hRA.setTab hT hK
    have h3:=hRel.drop ((i:Int)+1)
    rw [hRel.T] at h3
    exact⟨⟨_,h1,h3⟩,h2⟩)
  have hown:=hid (fun g (hg:L.own g)=>hRA.own_lt hg)
  have hlv2:({ E1 with T:=dropP E1.T ((i:Int)+1) }:Eng).ce.live≤f:=hlv
  obtain⟨E3,hE3⟩:∃ E3,({ E1 with T:=dropP E1.T ((i:Int)+1) }:Eng)=E3:=⟨_,rfl⟩
  rw [hE3] at hgo hM hap hlv2
  have HG:=hid hgo
  have HM:=hid hM
  have HQ:=hid hQ
  have HN:=hid hN
  have HLV:=hid hlv2
  have HBB:=hid hBB
  clear hRA hRel hdr hout hgo hM hQ hN hlv hlv2 hE3 hBB
  go_enter Tryz.func142,Tryz.ntmps142
  go_wp2_with fail
  refine HD.out.mono ?_
  rintro e w4 ⟨v,rfl,ho,vs',hT4,hK4⟩
  obtain⟨ad2,cap2,hv2⟩:=row_form ho
  subst hv2
  obtain⟨hE4,hKK⟩:=hap.out w4 vs' hT4 hK4
  have HE4:=hid hE4
  have HKK:=hid hKK
  have HO:=hid ho
  have hadg:Hid (∀ j p,out[j]?=some p→∃ g,¬ ({ L with vs:=vs' }:REnL).own g∧g<w4.heap.size∧∃ cap,Value.slice ad2 out.length cap2=.slice (some ⟨g,0,none⟩) out.length cap∧w4.cell? ⟨g,j*2,none⟩=some (.int .i64 p.1)∧w4.cell? ⟨g,j*2+1,none⟩=some (.int .i64 p.2)):=fun j p hp=>by
    rcases row_slice HO.out with ⟨e1,e2⟩ | ⟨g,cap',e1,hg,hc⟩
    · have:=(List.getElem?_eq_some_iff.1 hp).1;omega
    · have hob:(Value.slice ad2 out.length cap2).ownBlock=some g:=by rw [e1];rfl
      have hb:=(HO.out.lt g hob).1
      have hv:=vrow_get out j p.1 p.2 hp
      refine⟨g,fun hog=>?_,hg,cap',e1,hc _ _ hv.1,hc _ _ hv.2⟩
      have hlow:∀ g',L.own g'→g'=g→False:=fun g' h1 h2=>by have:=hown.out g' h1;omega
      rcases hog with h1 | h1 | h1 | h1 | h1 | h1 | h1
      · exact hlow _ (.inl h1) rfl
      · exact hlow _ (.inr (.inl h1)) rfl
      · obtain⟨v,hv',hg'⟩:=h1
        obtain⟨k,hk,rfl⟩:=List.mem_iff_getElem.1 hv'
        exact rows_apart HO.out (hT4.own k _ (List.getElem?_eq_getElem hk)) (by decide) hob hg'
      · exact hlow _ (.inr (.inr (.inr (.inl h1)))) rfl
      · exact hlow _ (.inr (.inr (.inr (.inr (.inl h1))))) rfl
      · exact hlow _ (.inr (.inr (.inr (.inr (.inr (.inl h1)))))) rfl
      · exact hlow _ (.inr (.inr (.inr (.inr (.inr (.inr h1)))))) rfl
  clear hE4 hKK ho hT4 hK4 HD
  go_wp2
  go_loopw [13] (fun iv wr=>∃ (j:Nat) (Lj:REnL) (Ej:Eng) (Qj:Nat→Prop),j≤out.length∧iv=.int .i64 j∧RefAt wr Lj B Ej∧goR (endF f) (out.drop j) Ej=some E'∧Mid2 Ej.ce Qj∧Ej.ce.live≤f∧(∀ p∈out.drop j,∃ m:Nat,p.2=(m:Int)+1∧Qj m)∧((out.drop j).map (·.2)).Nodup∧KeptO ({ L with vs:=vs' }:REnL).own Lj.own w4 wr∧HdE Lj L∧Lj.bs=L.bs) (fun iv _=>out.length-(intOf iv).toNat)
  case atStart=>exact⟨0,{ L with vs:=vs' },E3,Q,by omega,rfl,HE4.out,by simpa using HG.out,HM.out,HLV.out,by simpa using HQ.out,by simpa using HN.out,KeptO.refl _ _,⟨rfl,rfl⟩,rfl⟩
  case round =>
    obtain⟨j,Lj,Ej,Qj,hj,rfl,hEj,hgo,hMj,hlvj,hQj,hNj,hKj,hRj0,hbj⟩:=hrel
    by_cases hlt:j<out.length
    · obtain⟨⟨kx,x⟩,hp⟩:∃ p,out[j]?=some p:=⟨out[j],List.getElem?_eq_getElem hlt⟩
      obtain⟨g,hng,hg,cap',e1,r1,r2⟩:=hadg.out j (kx,x) hp
      simp only at r1 r2
      have q1:=(World.cell?_of_block (a:=⟨g,j*2,none⟩) (hKj.block g hg hng)).trans r1
      have q2:=(World.cell?_of_block (a:=⟨g,j*2+1,none⟩) (hKj.block g hg hng)).trans r2
      have e2:ad2=some ⟨g,0,none⟩:=by injection e1
      clear e1
      subst e2
      have hdrop:out.drop j=(kx,x)::out.drop (j+1):=by
        rw [List.drop_eq_getElem_cons hlt]
        congr 1
        rw [List.getElem?_eq_getElem hlt] at hp
        injection hp
      rw [hdrop] at hgo hQj hNj
      obtain⟨y,hy,hqy⟩:=hQj (kx,x) (List.mem_cons_self ..)
      simp only at hy
      subst hy
      obtain⟨Rj,hRj,hRel⟩:=hEj
      obtain⟨u,hu,hu1,_⟩:=hMj.loc.pend y hqy
      obtain⟨ty,hty,rfl⟩:=cs_of hu
      have hts:ty.state=1:=hu1
      obtain⟨ry,hry,hX⟩:=hRel.getR hty
      have hyl:=(List.getElem?_eq_some_iff.1 hty).1
      have hle:=hRel.le
      simp only [goR] at hgo
      rw [if_pos (by omega),show ((y:Int)+1-1).toNat=y from by omega] at hgo
      rcases hw:writeR (endF f) (wakeE Ej y) y with _ | ⟨why,E5⟩
      · rw [show Ej.upd y (fun t=>{ t with state:=0 })=wakeE Ej y from rfl,hw] at hgo;cases hgo
      rw [show Ej.upd y (fun t=>{ t with state:=0 })=wakeE Ej y from rfl,hw] at hgo
      simp only at hgo
      obtain⟨hM5,hl5⟩:=write2_mid hMj hlvj hqy hw
      rcases hp2:putE (wakeE Ej y) y with ⟨why2,E2⟩
      obtain⟨hM2,hl2,_⟩:=hMj.putE hqy hp2
      obtain⟨hwake,h2000⟩:=hRel.wake hty hry hts
      have hB1:Below wr.heap.size wr (wr.alloc (.cells #[.int .i64 kx,.int .i64 ((y:Int)+1)] 78)):=(Below.refl _ wr).alloc (Nat.le_refl _) _
      have hRA0:=hRj.below hB1
      obtain⟨ly,g',cap2',hly,hTy,hav,hcp⟩:=hRA0.place hry
      have c12:=hRA0.c12
      rw [hav,hRj0.1] at c12
      obtain⟨m,hm⟩:∃ m,Rj.txs.length=m:=⟨_,rfl⟩
      have hym:y<m:=by rw [← hm,hRel.len];exact hyl
      have hm200:m≤200:=by rw [← hm,hRel.len];exact hle
      rw [hm] at c12
      simp only [ptrV] at hcp
      have z1:(wr.alloc (.cells #[.int .i64 kx,.int .i64 ((y:Int)+1)] 78)).cell? ⟨ly.b,1,none⟩=some (.int .i64 ry.state):=(hTy.cell 1).trans rfl
      have z8:(wr.alloc (.cells #[.int .i64 kx,.int .i64 ((y:Int)+1)] 78)).cell? ⟨ly.b,8,none⟩=some (.int .i64 ty.wk):=(hTy.cell 8).trans (by show some (Value.int .i64 ry.want.1)=_;rw [hX.want])
      have z9:(wr.alloc (.cells #[.int .i64 kx,.int .i64 ((y:Int)+1)] 78)).cell? ⟨ly.b,9,none⟩=some (.int .i64 ty.wv):=(hTy.cell 9).trans (by show some (Value.int .i64 ry.want.2)=_;rw [hX.want])
      have zf:=REnAt.free (L:=Lj) hTy 1
      have gs:IntKind.i64.wrap ((y:Int)+1-1)=(y:Int):=by rw [show (y:Int)+1-1=(y:Int) by omega];exact IntWalk.i64_in _ (by omega)
      have gy0:(0:Int)≤(y:Int):=by omega
      have gy1:(y:Int)<(m:Int):=by omega
      have hj0:(0:Int)≤(j:Int):=by omega
      have hj1:(j:Int)<(out.length:Int):=by omega
      have bx:(wr.alloc (.cells #[.int .i64 kx,.int .i64 ((y:Int)+1)] 78)).cell? ⟨wr.heap.size,1,none⟩=some (.int .i64 ((y:Int)+1)):=(cell_of_row _ wr.heap.size 1 _ _ (0,0) (heap_alloc_new wr _)).trans rfl
      have hlyb:ly.b<wr.heap.size:=by
        obtain⟨l2,hl2',hT2⟩:=hRj.get hry
        rw [hly] at hl2'
        cases hl2'
        exact hT2.lt
      have hne1:ly.b≠wr.heap.size:=by omega
      have hne2:wr.heap.size≠ly.b:=by omega
      have hset:=hid (fun (nq:Nat)=>show RefAt (((wr.alloc (.cells #[.int .i64 kx,.int .i64 ((y:Int)+1)] 78)).drewN nq).setCell ⟨ly.b,1,none⟩ (.int .i64 0)) Lj (B-999) (wakeE Ej y)∧KeptO Lj.own Lj.own wr (((wr.alloc (.cells #[.int .i64 kx,.int .i64 ((y:Int)+1)] 78)).drewN nq).setCell ⟨ly.b,1,none⟩ (.int .i64 0)) from by
        have h1:=hRA0.below (w':=(wr.alloc (.cells #[.int .i64 kx,.int .i64 ((y:Int)+1)] 78)).drewN nq) (below_drewN (Below.refl _ _) nq)
        have h2:=h1.setCell (o:=1) (v:=.int .i64 0) (t':={ ry with state:=0 }) hly hry rfl rfl rfl rfl rfl
        exact⟨⟨_,h2.1,hwake⟩,(KeptO.of_below (below_drewN hB1 nq)).trans h2.2⟩)
      have hwt:(wakeE Ej y).txs[y]?=some { ty with state:=0 }:=by unfold wakeE;rw [Eng.upd_some hty];exact setTx_get hty
      have hfair:=hMj.reg.fair y _ hu
      have HP:=hid (fun (W:World) (hA:RefAt W Lj (B-999) (wakeE Ej y))=>hputs W Lj (B-999) (wakeE Ej y) y { ty with state:=0 } (fun m=>Qj m∧m≠y) (why,E5) hA (by have:=HBB.out;omega) hwt rfl hfair.wan.1 (fun h=>h.2 rfl) (by rw [hp2];exact hM2) (by rw [hp2,hl2];exact hlvj) hw)
      rw [hRj0.1] at HP
      have HGO:=hid hgo
      have HM5:=hid (And.intro hM5 (Nat.le_trans hl5 hlvj))
      have HKJ:=hid hKj
      have HBJ:=hid (And.intro hRj0 hbj)
      have H2000:=hid h2000
      have HQJ:=hid (show (∀ p∈out.drop (j+1),∃ m:Nat,p.2=(m:Int)+1∧(Qj m∧m≠y))∧((out.drop (j+1)).map (·.2)).Nodup from by
        simp only [List.map_cons,List.nodup_cons] at hNj
        refine⟨fun p hp'=>?_,hNj.2⟩
        obtain⟨m',e,hm'⟩:=hQj p (List.mem_cons_of_mem _ hp')
        exact⟨m',e,hm',fun e'=>hNj.1 (by rw [← e',← e];exact List.mem_map_of_mem hp')⟩)
      clear hp hdrop hgo hB1 hRA0 hty hTy hw hly hRj hKj hMj hQj hNj hM5 hl5 hM2 hl2 hp2 hwake hRel hu hu1 hts hX hqy r1 r2 hwt hfair hav hRj0 hbj h2000 hm hyl hle hng hg HG HE4 HQ HN HM HLV hap
      go_wp2
      go_quiet (fail)
      obtain⟨hs1,hs2⟩:=hset.out nq
      have HS:=hid hs1
      have HS2:=hid hs2
      clear hs1 hs2 hset
      go_wp2
      go_region_with
        (first | (go_at_call 141
                  refine (HP.out _ (HS.out.below (below_drewN (Below.refl _ _) 1))).mono ?_
                  rintro e w6 ⟨rfl,L6,hA6,hK6,hR6,hb6⟩
                  have HF:=hid (show RefAt w6 L6 B E5∧KeptO ({ L with vs:=vs' }:REnL).own L6.own w4 w6∧HdE L6 L∧L6.bs=L.bs from ⟨hA6.mono (by have:=H2000.out;omega),(HKJ.out.trans (HS2.out.trans (KeptO.of_below (below_drewN (Below.refl _ _) 1)))).trans hK6,hR6.trans HBJ.out.1,hb6.trans HBJ.out.2⟩)
                  clear hA6 hK6 hR6 hb6 HP))
      all_goals
        go_wp2
        go_roundw
        case rel=>exact⟨j+1,L6,E5,(fun m=>Qj m∧m≠y),by omega,by go_num,HF.out.1,HGO.out,HM5.out.1,HM5.out.2,HQJ.out.1,HQJ.out.2,HF.out.2.1,HF.out.2.2.1,HF.out.2.2.2⟩
        case measure=>simp [intOf];omega
    · have hj2:out.drop j=[]:=List.drop_of_length_le (by omega)
      rw [hj2] at hgo
      simp only [goR] at hgo
      injection hgo with hgo
      subst hgo
      have HF:=hid (show RefPost L B Ej w wr from ⟨Lj,hEj,HKK.out.trans hKj,hRj0,hbj⟩)
      have hj1:¬ (j:Int)<(out.length:Int):=by omega
      clear hEj hKj hRj0 hbj hMj hlvj hQj hNj hj2
      go_wp2
      refine bodyPost_end (results_none rfl _ _ _) rfl ?_
      exact⟨rfl,HF.out⟩
theorem rsetTx_twice (R:REng) (i:Nat) (t u:RTx):(R.setTx i t).setTx i u=R.setTx i u:=by simp [REng.setTx]
set_option maxRecDepth 100000 in
set_option maxHeartbeats 2000000 in
theorem gone_step (hd:DropsOk f):GoneOk (f+1):=by
 intro w L B E E' i t why Q hA hBB hM hlv ht hl hq hE
 obtain⟨R,hRA,hRel⟩:=hA
 obtain⟨r,hr,hX⟩:=hRel.getR ht
 obtain⟨l,g,cap,hli,hTi,hav,hcp⟩:=hRA.place hr
 have c12:=hRA.c12
 rw [hav] at c12
 have c13:=hRA.c13
 have f13:=hRA.freeR 13
 have z1:w.cell? ⟨l.b,1,none⟩=some (.int .i64 r.state):=(hTi.cell 1).trans rfl
 have z2:w.cell? ⟨l.b,2,none⟩=some (.int .i64 r.why):=(hTi.cell 2).trans rfl
 have z5:w.cell? ⟨l.b,5,none⟩=some (.int .i64 r.over):=(hTi.cell 5).trans rfl
 have y1:=REnAt.free (L:=L) hTi 1
 have y2:=REnAt.free (L:=L) hTi 2
 have y5:=REnAt.free (L:=L) hTi 5
 simp only [ptrV] at hcp
 have hs0:=hRel.s0
 have hsB:=hRel.stepB
 obtain⟨h1,k1⟩:=hRA.setStep (R.step+1)
 obtain⟨h2,k2⟩:=h1.setCell (o:=1) (v:=.int .i64 3) (t':={ r with state:=3 }) hli hr rfl rfl rfl rfl rfl
 obtain⟨h3,k3⟩:=h2.setCell (o:=2) (v:=.int .i64 why) (t':={ r with state:=3,why:=why }) hli (rsetTx_get (E:={ R with step:=R.step+1 }) hr) rfl rfl rfl rfl rfl
 rw [rsetTx_twice] at h3
 obtain⟨h4,k4⟩:=h3.setCell (o:=5) (v:=.int .i64 (R.step+1)) (t':={ r with state:=3,why:=why,over:=R.step+1 }) hli (rsetTx_get (E:={ R with step:=R.step+1 }) hr) rfl rfl rfl rfl rfl
 rw [rsetTx_twice] at h4
 obtain⟨hM1,hl1⟩:=hM.goneE (why:=why) ht hl hq
 have hgT:=(gone_rest E i why).2.1
 simp only [endF] at hE
 rw [lose_T,gone_over] at hE
 rw [gone_over] at hM1 hl1
 have hdr:=hd _ L B (goneE E i why) E' i (fun j=>Q j∨outQ E.T i j) ⟨_,h4,hRel.gone ht hr hl why⟩ hBB (by rw [hgT];exact hM1) (by have:(goneE E i why).ce.live=({ goneE E i why with T:=dropP E.T ((i:Int)+1) }:Eng).ce.live:=rfl;omega) (by
  rw [hgT]
  intro p hp'
  obtain⟨k',x'⟩:=p
  have h5:=out_tail hp' (by omega)
  obtain⟨m,u',e,_⟩:=hM.loc.mem k' x' (List.mem_of_mem_tail h5.1)
  subst e
  exact⟨m,rfl,.inr ⟨k',hp'⟩⟩) (by rw [hgT];exact out_nodup hM.loc.good.tidy (by omega)) (by rw [hgT];exact hE)
 have HD:=hid hdr
 have HK:=hid (((k1.trans k2).trans k3).trans k4)
 have hi:=(List.getElem?_eq_some_iff.1 hr).1
 have hle:=hRel.le
 obtain⟨m,hm⟩:∃ m,R.txs.length=m:=⟨_,rfl⟩
 have hm200:m≤200:=by rw [← hm,hRel.len];exact hle
 rw [hm] at c12 hi
 obtain⟨sp,hsp⟩:∃ sp,R.step=sp:=⟨_,rfl⟩
 rw [hsp] at c13 HD HK hs0 hsB
 have gs:IntKind.i64.wrap ((i:Int)+1-1)=(i:Int):=by rw [show (i:Int)+1-1=(i:Int) by omega];exact IntWalk.i64_in _ (by omega)
 have g0:(0:Int)≤(i:Int):=by omega
 have g1:(i:Int)<(m:Int):=by omega
 have gp:IntKind.i64.wrap (sp+1)=sp+1:=IntWalk.i64_in _ (by omega)
 clear hRA hRel hr hX hTi hav h1 k1 h2 k2 h3 k3 h4 k4 hM hM1 hl1 hgT hdr hE hlv ht hl hq hm hsp hli hi hle
 go_enter Tryz.func139,Tryz.ntmps139
 go_wp2_with fail
 refine HD.out.mono ?_
 rintro e w5 ⟨rfl,L5,hA5,hK5,hR5,hb5⟩
 have HF:=hid (show RefPost L B E' w w5 from ⟨L5,hA5,HK.out.trans hK5,hR5,hb5⟩)
 clear hA5 hK5 hR5 hb5 HD
 go_wp2
 refine bodyPost_end (results_none rfl _ _ _) rfl ?_
 exact⟨rfl,HF.out⟩
end
end Go.Proofs.YtjefgmeejhakbaaGreatDoor
