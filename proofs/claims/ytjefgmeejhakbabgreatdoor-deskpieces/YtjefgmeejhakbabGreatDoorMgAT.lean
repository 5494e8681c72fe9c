/- EnAow EnNote: put together for a claim. -/
import Derived.Test.YtjefgmeejhakbabGreatDoorMgAS
import Derived.Deep.RegionHeld3
namespace Go.Proofs.YtjefgmeejhakbabGreatDoor
open Go.RowKit
variable {w w':World} {L:EnL} {E:Eng}
structure Fits (E:Eng):Prop where
 len:∀ l∈E.ks,l.length≤100000
 tim:∀ l∈E.ks,∀ p∈l,I64 p.1
theorem strictOf_lt {n:Int} {j:Nat} (h:strictOf E n=some j):1≤n∧n≤E.txs.length∧n=(j:Int)+1∧∃ t,E.txs[j]?=some t∧t.level=2:=by
 unfold strictOf at h
 split at h
 ·rename_i hc
  split at h
  ·rename_i t ht
   split at h
   ·rename_i h2
    injection h with h
    subst h
    exact⟨hc.1,hc.2,by omega,t,ht,h2⟩
   ·cases h
  ·cases h
 ·cases h
theorem strictOf_none {n:Int} (h:strictOf E n=none):(n<1∨(E.txs.length:Int)<n)∨∃ (j:Nat) (t:Tx),n=(j:Int)+1∧E.txs[j]?=some t∧t.level≠2:=by
 unfold strictOf at h
 split at h
 ·rename_i hc
  obtain⟨t,ht⟩:∃ t,E.txs[(n-1).toNat]?=some t:=⟨E.txs[(n-1).toNat]'(by omega),List.getElem?_eq_getElem _⟩
  rw [ht] at h
  simp only at h
  split at h
  ·cases h
  ·rename_i h2
   exact .inr ⟨(n-1).toNat,t,by omega,ht,h2⟩
 ·rename_i hc
  exact .inl (by omega)
def bareTx (t:Tx):Tx:={ t with ahead:=fun _=>false,behind:=fun _=>false }
theorem putAhead_bare (E:Eng) (i j:Nat):(putAheadP E i j).2.txs.map bareTx=E.txs.map bareTx:=by
 unfold putAheadP
 split
 ·rename_i t u ht hu
  simp only [Eng.setTx,List.map_set]
  refine List.ext_getElem? (fun x=>?_)
  rw [List.getElem?_set,List.getElem?_set]
  have hi:=(List.getElem?_eq_some_iff.1 ht).1
  have hj:=(List.getElem?_eq_some_iff.1 hu).1
  by_cases h1:j=x
  ·subst h1
   rw [if_pos rfl,if_pos (by simpa using hj),List.getElem?_map,hu]
   rfl
  ·rw [if_neg h1]
   by_cases h2:i=x
   ·subst h2
    rw [if_pos rfl,if_pos (by simpa using hi),List.getElem?_map,ht]
    rfl
   ·rw [if_neg h2]
 ·rfl
theorem bare_len {A B:List Tx} (h:A.map bareTx=B.map bareTx):A.length=B.length:=by
 have:=congrArg List.length h
 simpa using this
theorem bare_get {A B:List Tx} (h:A.map bareTx=B.map bareTx) {x:Nat} {t:Tx} (ht:B[x]?=some t):∃ t',A[x]?=some t'∧bareTx t'=bareTx t:=by
 have h1:=congrArg (fun l=>l[x]?) h
 simp only [List.getElem?_map,ht,Option.map_some] at h1
 cases ha:A[x]? with
 | none=>rw [ha] at h1;cases h1
 | some t'=>rw [ha] at h1;simp at h1;exact⟨t',rfl,h1⟩
noncomputable def aowFrom (i:Nat) (key:Int) (ts:List Int) (E:Eng):Bool × Eng:=match aheadTimes i ts E with
 | (true,E')=>(true,aheadEach i (thoseP E' (fun _ u=>writesB key u)) E')
 | (false,E')=>(false,E')
theorem getD_map (o:Option Int):(o.map (Value.int .i64)).getD (.int .i64 0)=.int .i64 (o.getD 0):=by cases o<;>rfl
set_option maxRecDepth 100000 in
set_option maxHeartbeats 4000000 in
theorem aow_any (h:EnAt w L E) {i:Nat} {l:TxL} {t:Tx} (hl:L.txs[i]?=some l) (ht:E.txs[i]?=some t) {key:Int} (hk:0≤key∧key<10) (hf:Fits E) (hv0:t.vals key=none) (hne:∀ a,E.wr a≠some ((i:Int)+1)) :
    Calls Tryz.prog 198 #[.pointer (some ⟨L.s,0,none⟩),.pointer (some ⟨l.b,0,none⟩),.int .i64 key] w fun e w'=>e=.returned (.bool (aowP E i key).1)∧EnAt w' L (aowP E i key).2∧KeptO L.own L.own w w':=by
  obtain⟨k,rfl⟩:∃ k:Nat,key=k:=⟨key.toNat,by omega⟩
  have hk2:k<E.ks.length:=by have:=h.sto.lk;omega
  obtain⟨ll,hll⟩:∃ ll,E.ks[k]?=some ll:=⟨E.ks[k],List.getElem?_eq_getElem hk2⟩
  have hln:=hf.len ll (List.mem_of_getElem? hll)
  have hA:=h.txs i l t hl ht
  have c2:=hA.c2
  have hlt0:=hA.lt
  obtain⟨w0,hw0⟩:∃ w0,w.alloc (.cells #[.int .i64 (k:Int)] 3)=w0:=⟨_,rfl⟩
  have hB0:Below w.heap.size w w0:=by rw [← hw0];exact (Below.refl _ w).alloc (Nat.le_refl _) _
  have hck:w0.cell? ⟨w.heap.size,0,none⟩=some (.int .i64 (k:Int)):=by
    rw [← hw0]
    exact (cell_of_row _ w.heap.size 0 _ _ (0,0) (heap_alloc_new w _)).trans rfl
  have hsz:w0.heap.size=w.heap.size+1:=by rw [← hw0];simp
  have hB1:Below w.heap.size w w0.drew:=hB0.drew
  have HN:=hid (newer_any _ _ k _ t.start _ _ ll w0.drew (h.below hB1).sto hll (by omega))
  have hR:aowP E i (k:Int)=aowFrom i (k:Int) ((ll.drop (lat ll t.start+1).toNat).map (·.1)) E:=by
    unfold aowP
    rw [ht]
    simp only
    rw [newer_len E k _ ll hll]
    rfl
  have hti:∀ a∈(ll.drop (lat ll t.start+1).toNat).map (·.1),I64 a:=fun a ha=>by
    obtain⟨p,hp,rfl⟩:=List.mem_map.1 ha
    exact hf.tim ll (List.mem_of_getElem? hll) p (List.mem_of_mem_drop hp)
  have hdl:(ll.drop (lat ll t.start+1).toNat).length≤ll.length:=by simp
  have hdl2:((ll.drop (lat ll t.start+1).toNat).map (·.1)).length=(ll.drop (lat ll t.start+1).toNat).length:=by simp
  have htv:timesV (ll.drop (lat ll t.start+1).toNat)=((ll.drop (lat ll t.start+1).toNat).map (·.1)).map (Value.int .i64):=by rw [List.map_map];rfl
  rw [htv,← hdl2] at HN
  rw [← hdl2] at hdl
  obtain⟨ts,hts⟩:∃ ts,(ll.drop (lat ll t.start+1).toNat).map (·.1)=ts:=⟨_,rfl⟩
  obtain⟨st,hst⟩:∃ st,t.start=st:=⟨_,rfl⟩
  rw [hts] at HN hR hti hdl
  rw [hst] at HN c2
  rw [hR]
  obtain⟨R,hRR⟩:∃ R,aowFrom i (k:Int) ts E=R:=⟨_,rfl⟩
  rw [hRR]
  have HRR:=hid hRR
  have hlen:=h.len
  have hle:=h.le
  have hs0:=h.sto.lt
  have HH:=hid h
  have HL:=hid hl
  have HT:=hid ht
  have HNE:=hid hne
  have c2':=(hB0.cell (p:=⟨l.b,2,none⟩) hlt0).trans c2
  have HTI:=hid hti
  have HV0:=hid hv0
  have hk0:(0:Int)≤(k:Int):=by omega
  have hk10:k<10:=by omega
  clear h hl ht hA hf hne hk hk2 hll hR hti hdl2 htv hts hst hv0 hRR
  go_enter Tryz.func198,Tryz.ntmps198
  go_wp2
  go_region_held3 (fun W=>W.cell? ⟨w.heap.size,0,none⟩=some (.int .i64 (k:Int))∧W.cell? ⟨l.b,2,none⟩=some (.int .i64 st))
    (first | go_keep | exact⟨y1,y2⟩)
    (first | (go_at_call 260
              refine HN.out.mono ?_
              rintro e w1 ⟨tv,rfl,ho,hB2⟩
              have y1:w1.cell? ⟨w.heap.size,0,none⟩=some (.int .i64 (k:Int)):=(hB2.cell (p:=⟨w.heap.size,0,none⟩) (by show w.heap.size<w0.heap.size;omega)).trans hck
              have y2:w1.cell? ⟨l.b,2,none⟩=some (.int .i64 st):=(hB2.cell (p:=⟨l.b,2,none⟩) (by show l.b<w0.heap.size;omega)).trans ((hB0.cell (p:=⟨l.b,2,none⟩) hlt0).trans c2)
              obtain⟨ad,cap,rfl⟩:=row_form ho
              have HO:=hid ho
              have HB:=hid (show Below w.heap.size w w1 from hB1.trans (hB2.mono hB1.size))
              have hsw:=hB2.size
              clear ho hB2))
  have hadg:Hid (∀ j a,ts[j]?=some a→∃ g,ad=some ⟨g,0,none⟩∧w0.heap.size≤g∧g<w1.heap.size∧w1.cell? ⟨g,j,none⟩=some (.int .i64 a)):=fun j a ha=>by
    rcases row_slice HO.out with ⟨e1,e2⟩ | ⟨g,cap',e1,hg,hc⟩
    · have:=(List.getElem?_eq_some_iff.1 ha).1;omega
    · have hb:=(HO.out.lt g (by rw [e1];rfl)).1
      injection e1 with e1
      exact⟨g,e1,hb,hg,hc j _ (by rw [List.getElem?_map,ha];rfl)⟩
  have hsw0:w0.heap.size≤w1.heap.size:=hsw
  go_wp2
  go_loopw [30] (fun iv wr=>∃ (j:Nat) (Ej:Eng),j≤ts.length∧iv=.int .i64 j∧EnAt wr L Ej∧aowFrom i (k:Int) (ts.drop j) Ej=R∧Ej.wr=E.wr∧Ej.txs.map bareTx=E.txs.map bareTx∧KeptO L.own L.own w1 wr) (fun iv _=>ts.length-(intOf iv).toNat)
  case atStart=>exact⟨0,E,by omega,rfl,HH.out.below HB.out,by simpa using HRR.out,rfl,rfl,KeptO.refl _ _⟩
  case round =>
    obtain⟨j,Ej,hj,rfl,hE,hrest,hwr,hbare,hK⟩:=hrel
    have hEl:=bare_len hbare
    by_cases hlt:j<ts.length
    · obtain⟨a,ha⟩:∃ a,ts[j]?=some a:=⟨ts[j],List.getElem?_eq_getElem hlt⟩
      obtain⟨g,rfl,hg0,hg1,hgc⟩:=hadg.out j a ha
      have hia:=HTI.out a (List.mem_of_getElem? ha)
      have hng:¬ L.own g:=fun ho=>by have:=HH.out.own_lt ho;omega
      have hgc2:=(World.cell?_of_block (a:=⟨g,j,none⟩) (hK.block g hg1 hng)).trans hgc
      have c15:=hE.c15
      have hlk:=hE.wr.look1 Tryz.underlying131 (zeroI wr) hia
      rw [getD_map,hwr] at hlk
      have hdrop:ts.drop j=a::ts.drop (j+1):=by
        rw [List.drop_eq_getElem_cons hlt]
        congr 1
        rw [List.getElem?_eq_getElem hlt] at ha
        injection ha
      rw [hdrop] at hrest
      have hj0:(0:Int)≤(j:Int):=by omega
      have hj1:(j:Int)<(ts.length:Int):=by omega
      cases hso:strictOf Ej ((E.wr a).getD 0) with
      | none =>
        have hrest2:aowFrom i (k:Int) (ts.drop (j+1)) Ej=R:=by
          unfold aowFrom at hrest ⊢
          simp only [aheadTimes] at hrest
          rw [hwr,hso] at hrest
          exact hrest
        have HR2:=hid hrest2
        rcases strictOf_none hso with hbad | ⟨x,tx,hn,htx,hlv⟩
        · have HF:=hid (find_err hE hbad)
          have HE:=hid (And.intro hE (And.intro hwr (And.intro hbare hK)))
          clear ha hgc hdrop hrest hrest2 hE hwr hbare hK hso hbad
          go_wp2_with fail
          refine HF.out.mono ?_
          rintro e w2 ⟨rfl,hw2⟩
          rw [hw2,show errV 7=Value.iface 33 (.int .i64 7) from rfl]
          clear hw2 w2
          go_wp2
          go_roundw
          case rel=>exact⟨j+1,Ej,by omega,by go_num,HE.out.1,HR2.out,HE.out.2.1,HE.out.2.2.1,HE.out.2.2.2⟩
          case measure=>simp [intOf];omega
        · obtain⟨lx,hlx,hTx⟩:=hE.get htx
          have d1:=hTx.c1
          have g1:(tx.level==2)=false:=by simpa using hlv
          obtain⟨lv,hlv2⟩:∃ lv,tx.level=lv:=⟨_,rfl⟩
          rw [hlv2] at d1 g1
          rw [hn] at hlk
          have HF:=hid (find_ok hE hlx)
          have HE:=hid (And.intro hE (And.intro hwr (And.intro hbare hK)))
          clear ha hgc hdrop hrest hrest2 hE hwr hbare hK hso hn htx hlv hlx hTx hlv2
          go_wp2_with fail
          refine HF.out.mono ?_
          rintro e w2 ⟨rfl,hw2⟩
          rw [hw2]
          clear hw2 w2
          go_wp2
          go_roundw
          case rel=>exact⟨j+1,Ej,by omega,by go_num,HE.out.1,HR2.out,HE.out.2.1,HE.out.2.2.1,HE.out.2.2.2⟩
          case measure=>simp [intOf];omega
      | some x =>
        obtain⟨_,_,hn,tx,htx,hlv⟩:=strictOf_lt hso
        obtain⟨lx,hlx,hTx⟩:=hE.get htx
        have d1:=hTx.c1
        rw [hlv] at d1
        have hix:i≠x:=fun e=>by
          subst e
          cases hwa:E.wr a with
          | none=>rw [hwa] at hn;simp at hn;omega
          | some n=>rw [hwa] at hn;simp at hn;exact HNE.out a (by rw [hwa,hn])
        rw [hn] at hlk
        have HF:=hid (find_ok hE hlx)
        have HP:=hid (putAheadE hE hix HL.out hlx)
        have hpr:=putAhead_rest Ej i x
        have hpb:=putAhead_bare Ej i x
        unfold aowFrom at hrest
        simp only [aheadTimes] at hrest
        rw [hwr,hso] at hrest
        simp only at hrest
        obtain⟨rb,rE,hrp⟩:∃ rb rE,putAheadP Ej i x=(rb,rE):=⟨_,_,rfl⟩
        rw [hrp] at HP hpr hpb hrest
        simp only at HP hpr hpb
        have HPR:=hid (And.intro (hpr.2.2.2.1.trans hwr) (hpb.trans hbare))
        have HREST:=hid hrest
        have HK:=hid hK
        clear ha hgc hdrop hrest hE hwr hbare hK hso hn htx hlv hlx hTx hrp hpr hpb
        go_wp2_with fail
        refine HF.out.mono ?_
        rintro e w2 ⟨rfl,hw2⟩
        rw [hw2]
        clear hw2 w2
        go_wp2_with fail
        refine HP.out.mono ?_
        rintro e w3 ⟨rfl,hE3,hK3⟩
        have HF3:=hid (And.intro hE3 (HK.out.trans hK3))
        clear hE3 hK3 HP HF
        cases rb with
        | true =>
          go_wp2
          go_roundw
          case rel=>exact⟨j+1,rE,by omega,by go_num,HF3.out.1,HREST.out,HPR.out.1,HPR.out.2,HF3.out.2⟩
          case measure=>simp [intOf];omega
        | false =>
          go_wp2
          go_ret
          have:=HREST.out
          subst this
          exact⟨rfl,HF3.out.1,(KeptO.of_below HB.out).trans HF3.out.2⟩
    · have hj2:ts.drop j=[]:=List.drop_of_length_le (by omega)
      rw [hj2] at hrest
      unfold aowFrom at hrest
      simp only [aheadTimes] at hrest
      have hnt:¬ L.own w.heap.size:=fun ho=>by have:=HH.out.own_lt ho;omega
      have hck2:wr.cell? ⟨w.heap.size,0,none⟩=some (.int .i64 (k:Int)):=(World.cell?_of_block (a:=⟨w.heap.size,0,none⟩) (hK.block w.heap.size (by omega) hnt)).trans y1
      have hwl:w.heap.size<wr.heap.size:=by have:=hK.size;omega
      have HC:=hid (those_writes hE w.heap.size (fun _ u=>writesB (k:Int) u) (fun W hW x m u hm hu=>writesC_any ((hE.below hW).txs x m u hm hu) ((hW.cell (p:=⟨w.heap.size,0,none⟩) hwl).trans hck2) (by unfold I64;omega)))
      have hjl:(thoseP Ej (fun _ u=>writesB (k:Int) u)).length≤200:=by
        have:=thoseN_len Ej (fun _ u=>writesB (k:Int) u) Ej.txs.length
        rw [thoseN_all] at this
        omega
      have HJ:=hid (show ∀ x∈thoseP Ej (fun _ u=>writesB (k:Int) u),x<E.txs.length∧i≠x from fun x hx=>by
        obtain⟨u,hu,hp⟩:=mem_thoseP hx
        refine⟨by have:=(List.getElem?_eq_some_iff.1 hu).1;omega,?_⟩
        rintro rfl
        obtain⟨t',ht',hb⟩:=bare_get hbare HT.out
        rw [hu] at ht'
        injection ht' with ht'
        subst ht'
        have hv:u.vals=t.vals:=by have:=congrArg Tx.vals hb;exact this
        unfold writesB at hp
        rw [hv,HV0.out] at hp
        simp at hp)
      obtain⟨js,hjs⟩:∃ js,thoseP Ej (fun _ u=>writesB (k:Int) u)=js:=⟨_,rfl⟩
      rw [hjs] at HC HJ hjl hrest
      have HREST:=hid hrest
      have HE0:=hid hE
      have HK0:=hid hK
      have hEjl:=hEl
      clear hrest hE hK hwr hbare hjs hj2 hck2
      go_wp2_with fail
      refine HC.out.mono ?_
      rintro e w2 ⟨v,rfl,ho,hB2⟩
      obtain⟨ad2,cap2,rfl⟩:=row_form ho
      have HE2:=hid (HE0.out.below hB2)
      have HK2:=hid (HK0.out.trans (KeptO.of_below (o:=L.own) hB2))
      have hadg2:Hid (∀ j x,js[j]?=some x→∃ g,ad2=some ⟨g,0,none⟩∧¬ L.own g∧g<w2.heap.size∧w2.cell? ⟨g,j,none⟩=some (.pointer (some ⟨L.bs[x]?.getD 0,0,none⟩))):=fun j x hx=>by
        rcases row_slice ho with ⟨e1,e2⟩ | ⟨g,cap',e1,hg,hc⟩
        · have:=(List.getElem?_eq_some_iff.1 hx).1;omega
        · have hb:=(ho.lt g (by rw [e1];rfl)).1
          injection e1 with e1
          exact⟨g,e1,fun hown=>by have:=HE0.out.own_lt hown;omega,hg,hc j _ (show (L.ptrs js)[j]?=some (ptrV (L.bs[x]?.getD 0)) from by simp [EnL.ptrs,hx])⟩
      clear ho hB2 HC
      go_wp2
      go_loopw [66] (fun iv wx=>∃ (q:Nat) (Eq:Eng),q≤js.length∧iv=.int .i64 q∧EnAt wx L Eq∧aheadEach i (js.drop q) Eq=R.2∧KeptO L.own L.own w2 wx) (fun iv _=>js.length-(intOf iv).toNat)
      case atStart=>exact⟨0,Ej,by omega,rfl,HE2.out,by rw [← HREST.out];simp,KeptO.refl _ _⟩
      case round =>
        obtain⟨q,Eq,hq,rfl,hEq,hrest,hKq⟩:=hrel
        by_cases hlt2:q<js.length
        · obtain⟨x,hx⟩:∃ x,js[q]?=some x:=⟨js[q],List.getElem?_eq_getElem hlt2⟩
          obtain⟨g,rfl,hng,hg1,hgc⟩:=hadg2.out q x hx
          obtain⟨hx1,hx2⟩:=HJ.out x (List.mem_of_getElem? hx)
          obtain⟨m,hm⟩:∃ m,L.txs[x]?=some m:=⟨L.txs[x]'(by omega),List.getElem?_eq_getElem _⟩
          rw [bs_get hm] at hgc
          have hgc2:=(World.cell?_of_block (a:=⟨g,q,none⟩) (hKq.block g hg1 hng)).trans hgc
          simp only [Option.getD_some] at hgc2
          have hq0:(0:Int)≤(q:Int):=by omega
          have hq1:(q:Int)<(js.length:Int):=by omega
          have HP:=hid (putAheadE hEq hx2 HL.out hm)
          have hdrop:js.drop q=x::js.drop (q+1):=by
            rw [List.drop_eq_getElem_cons hlt2]
            congr 1
            rw [List.getElem?_eq_getElem hlt2] at hx
            injection hx
          rw [hdrop] at hrest
          simp only [aheadEach] at hrest
          have HRE:=hid hrest
          have HKQ:=hid hKq
          clear hx hm hgc hdrop hrest hKq hEq
          go_wp2_with fail
          refine HP.out.mono ?_
          rintro e w3 ⟨rfl,hE3,hK3⟩
          have HF:=hid (And.intro hE3 (HKQ.out.trans hK3))
          clear hE3 hK3 HP
          go_wp2
          go_roundw
          case rel=>exact⟨q+1,_,by omega,by go_num,HF.out.1,HRE.out,HF.out.2⟩
          case measure=>simp [intOf];omega
        · have hq2:js.drop q=[]:=List.drop_of_length_le (by omega)
          rw [hq2] at hrest
          simp only [aheadEach] at hrest
          have hfin:R.1=true:=by rw [← HREST.out]
          have HF:=hid (show EnAt wr L R.2∧KeptO L.own L.own w wr from ⟨hrest▸hEq,(KeptO.of_below HB.out).trans (HK2.out.trans hKq)⟩)
          clear hEq hKq hrest
          go_wp2
          go_ret
          exact⟨by rw [hfin];rfl,HF.out⟩
end Go.Proofs.YtjefgmeejhakbabGreatDoor
namespace Go.Proofs.YtjefgmeejhakbabGreatDoor
open Go.RowKit
variable {w w':World} {L:EnL} {E:Eng}
theorem info138:(Tryz.prog.info? 138).map (fun i=>(i.zero,i.size,i.bytes))=some (some (.agg #[.int .i64 0,.int .i64 0,.bool false,.int .i64 0]),4,32):=by kernel_rfl
theorem txCells_setSeen (n:Int) (l:TxL) (t:Tx) {k:Nat} (hk:k<t.seen.length) (b:Bool):(txCells n l t).setIfInBounds (10+k) (.bool b)=txCells n l { t with seen:=t.seen.set k b }:=by
 unfold txCells
 rw [List.setIfInBounds_toArray,show 10+k=k+1+1+1+1+1+1+1+1+1+1 from by omega]
 simp only [List.set_cons_succ]
 rw [List.set_append_left _ _ (by simpa using hk),List.map_set]
theorem TxAt.noted {n:Int} {l:TxL} {t:Tx} (hA:TxAt w n l t) {w1:World} {gg cap m k:Nat} {frm:Int} (hk:k<10) (hm:t.reads.length=m)
  (hown:w1.ownsRow 0 138 4 (.slice (some ⟨gg,0,none⟩) (m+1) cap) (m+1) (opsV (readOps n t.reads)++[.int .i64 n,.int .i64 (k:Int),.bool false,.int .i64 frm]))
  (hos:w1.os=w.os∧w1.tape=w.tape∧w1.output=w.output) (hsz:w.heap.size≤w1.heap.size) (hb:∀ g,g<w.heap.size→l.rv.ownBlock≠some g→w1.heap[g]?=w.heap[g]?) (hat:l.rv.ownBlock=some gg∨w.heap.size≤gg) :
  TxAt ((w1.setCell ⟨l.b,9,none⟩ (.slice (some ⟨gg,0,none⟩) (m+1) cap)).setCell ⟨l.b,10+k,none⟩ (.bool true)) n { l with rv:=.slice (some ⟨gg,0,none⟩) (m+1) cap } (noteReadP t (k:Int) frm) ∧
   KeptO l.own ({ l with rv:=.slice (some ⟨gg,0,none⟩) (m+1) cap }:TxL).own w ((w1.setCell ⟨l.b,9,none⟩ (.slice (some ⟨gg,0,none⟩) (m+1) cap)).setCell ⟨l.b,10+k,none⟩ (.bool true)):=by
 have hbl:=hA.lt
 have hfb:∀ {g},l.rv.ownBlock=some g→g≠l.b:=fun hg=>(hA.rd_ne hg).1
 have hne:l.rv.ownBlock≠some l.b:=fun e=>hfb e rfl
 have hgb:gg≠l.b:=by
  rcases hat with h | h
  ·exact hfb h
  ·omega
 have h1:w1.heap[l.b]?=some (.cells (txCells n l t) 259 (0,0)):=(hb l.b hbl hne).trans hA.blk
 have h2:=setCell_at (o:=9) (v:=.slice (some ⟨gg,0,none⟩) (m+1) cap) h1
 rw [txCells_reads _ _ _ _ (t.reads++[((k:Int),frm)])] at h2
 have h3:=setCell_at (o:=10+k) (v:=.bool true) h2
 rw [txCells_setSeen _ _ _ (by show k<t.seen.length;rw [hA.sl];exact hk)] at h3
 have ho:∀ g,g≠l.b→((w1.setCell ⟨l.b,9,none⟩ (.slice (some ⟨gg,0,none⟩) (m+1) cap)).setCell ⟨l.b,10+k,none⟩ (.bool true)).heap[g]?=w1.heap[g]?:=fun g hg =>
  (heap_setCell_other _ ⟨l.b,10+k,none⟩ g _ hg).trans (heap_setCell_other _ ⟨l.b,9,none⟩ g _ hg)
 have hmap:∀ {g N:Nat} {f:Int→Option Value},IMap w g N f→IMap ((w1.setCell ⟨l.b,9,none⟩ (.slice (some ⟨gg,0,none⟩) (m+1) cap)).setCell ⟨l.b,10+k,none⟩ (.bool true)) g N f:=fun hI =>
  hI.same ((ho _ (hI.ne hA.blk)).trans (hb _ hI.lt (fun e=>by
   obtain⟨cur,hc⟩:=owns_typ hA.rd e
   exact hI.ne hc rfl)))
 refine⟨⟨?_,hmap hA.va,?_,hmap hA.ah,hmap hA.be,hA.d1,hA.d2,hA.d3,?_,hA.vk,hA.aN,hA.bN,hA.wkr⟩,?_,?_,?_,?_,fun g hg hn=>?_,fun g hg=>?_⟩
 ·rw [h3]
  unfold noteReadP
  rw [Int.toNat_natCast]
 ·have:(noteReadP t (k:Int) frm).reads=t.reads++[((k:Int),frm)]:=rfl
  rw [this,List.length_append]
  simp only [List.length_singleton]
  rw [hm,show readOps n (t.reads++[((k:Int),frm)])=readOps n t.reads++[(n,(k:Int),false,frm)] from by simp [readOps],opsV_append]
  exact owns_same hown (fun g hg=>ho g (by
   have:gg=g:=by simpa [Value.ownBlock] using hg
   rw [← this];exact hgb))
 ·show (t.seen.set _ _).length=10
  rw [List.length_set];exact hA.sl
 ·exact hos.1
 ·exact hos.2.1
 ·exact hos.2.2
 ·simpa using hsz
 ·exact (ho g (fun e=>hn (.inl e))).trans (hb g hg (fun e=>hn (.inr (.inr (.inr (.inr e))))))
 ·rcases hg with h | h | h | h | h
  ·exact .inl (.inl h)
  ·exact .inl (.inr (.inl h))
  ·exact .inl (.inr (.inr (.inl h)))
  ·exact .inl (.inr (.inr (.inr (.inl h))))
  ·have:gg=g:=by simpa [Value.ownBlock] using h
   subst this
   rcases hat with h | h
   ·exact .inl (.inr (.inr (.inr (.inr h))))
   ·exact .inr h
set_option maxRecDepth 100000 in
set_option maxHeartbeats 2000000 in
theorem noteRead_any {n:Int} {l:TxL} {t:Tx} (hA:TxAt w n l t) {k:Nat} (hk:k<10) (frm:Int) (hr:t.reads.length≤1000000000) :
    Calls Tryz.prog 197 #[.pointer (some ⟨l.b,0,none⟩),.int .i64 (k:Int),.int .i64 frm] w fun e w'=>e=.returned (.tuple #[])∧∃ rv,TxAt w' n { l with rv:=rv } (noteReadP t (k:Int) frm)∧KeptO l.own ({ l with rv:=rv }:TxL).own w w':=by
  obtain⟨i0,hi0,hz0,hz1,hz2⟩:=info_parts info138
  have c0:=hA.c0
  have c9:=hA.c9
  have hblk:=hA.blk
  have hbl:=hA.lt
  have hsl:=hA.sl
  have hrd:=hA.rd
  have hbo:∀ g,l.rv.ownBlock=some g→g≠l.b:=fun g hg=>(hA.rd_ne hg).1
  have hk0:(0:Int)≤(k:Int):=by omega
  have hk1:(k:Int)<10:=by omega
  obtain⟨ad,cap,hrv⟩:=row_form hrd
  have f9:=hA.free 9
  have HA:=hid hA
  have HRD:=hid hrd
  have HBO:=hid hbo
  have HRV:=hid hrv
  rw [hrv] at c9 hrd
  obtain⟨m,hm⟩:∃ m,t.reads.length=m:=⟨_,rfl⟩
  rw [hm] at c9 hrd hr
  have hrd2:=hrd.drew
  have HRD2:=hid hrd2
  have hfar:some l.b≠(Value.slice ad m cap).ownBlock:=fun e=>by
    have:=hbo l.b (by rw [hrv,hm];exact e.symm)
    exact this rfl
  have HFAR:=hid hfar
  clear hA hrd hbo hrv hrd2 hfar
  go_enter Tryz.func197,Tryz.ntmps197
  go_wp2
  go_region_law
    (refine step_append_lies _ (by rfl) _ _ _ (by rfl) 0 138 i0 _ 4 32 Tryz.underlying119 hi0 hz0 hz1 hz2 rfl (by omega) (.slice ad m cap) m (opsV (readOps n t.reads)) (by rfl) (HRD2.out.alloc _)
        ⟨w.heap.size,0,none⟩ 1 1 [.int .i64 n,.int .i64 (k:Int),.bool false,.int .i64 frm] (by rfl) (by rfl) (World.news_of_block (cs:=#[.int .i64 n,.int .i64 (k:Int),.bool false,.int .i64 frm]) (t:=138) (fr:=(0,0)) (heap_alloc_new w.drew _)) (by simp [Value.oneCell'])
        (by omega) (by unfold maxLen;omega) (by omega) (by simp) (w.heap.size+1) (by simp) ?_;intro gg cap' w1 hown1 hgrow hat hlt
     have hbk:w1.heap[l.b]?=w.heap[l.b]?:=(hgrow.block l.b (by simp;omega) HFAR.out).trans (Below.heap_alloc w _ l.b hbl)
     have y0:w1.cell? ⟨l.b,0,none⟩=some (.int .i64 n):=(World.cell?_of_block (a:=⟨l.b,0,none⟩) hbk).trans c0
     have c2:w1.cell? ⟨l.b,9,none⟩=some (.slice ad m cap):=(World.cell?_of_block (a:=⟨l.b,9,none⟩) hbk).trans c9
     have f2:w1.frozen? ⟨l.b,9,none⟩=false:=(World.frozen?_of_block (a:=⟨l.b,9,none⟩) hbk).trans f9)
  all_goals
    obtain⟨sb,hsb⟩:∃ sb,t.seen[k]?=some sb:=⟨t.seen[k]'(by omega),List.getElem?_eq_getElem _⟩
    have hb1:=setCell_at (o:=9) (v:=.slice (some ⟨gg,0,none⟩) (m+1) cap') (hbk.trans hblk)
    rw [txCells_reads _ _ _ _ (t.reads++[((k:Int),frm)])] at hb1
    have s1:(w1.setCell ⟨l.b,9,none⟩ (.slice (some ⟨gg,0,none⟩) (m+1) cap')).cell? ⟨l.b,10+k,none⟩=some (.bool sb):=(cell_of_row _ l.b (10+k) _ _ (0,0) hb1).trans (txCells_seen _ _ _ hsb)
    have s2:(w1.setCell ⟨l.b,9,none⟩ (.slice (some ⟨gg,0,none⟩) (m+1) cap')).frozen? ⟨l.b,10+k,none⟩=false:=by simp [World.frozen?,hb1]
    have hown2:l.rv.ownBlock=(Value.slice ad m cap).ownBlock:=by rw [HRV.out,hm]
    have hN:=HA.out.noted hk hm hown1 ⟨hgrow.os,hgrow.tape,hgrow.output⟩ (by have:=hgrow.size;simp at this;omega)
      (fun g hg hne=>(hgrow.block g (by simp;omega) (fun e=>hne (by rw [hown2];exact e.symm))).trans (Below.heap_alloc w _ g hg)) (by
        rcases hat with h | h
        · exact .inl (by rw [hown2];exact h)
        · exact .inr (by omega))
    have HN:=hid hN
    clear hN hsb hb1 hown2 hown1 hgrow hat hlt hbk y0 c2 f2
    go_wp2
    refine bodyPost_end (results_none rfl _ _ _) rfl ?_
    exact⟨rfl,_,HN.out⟩
end Go.Proofs.YtjefgmeejhakbabGreatDoor
