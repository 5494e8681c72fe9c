/- engine.Read. -/
import Derived.Test.YtjefgmeejhakbabGreatDoorMgAT
import Derived.Test.YtjefgmeejhakbabGreatDoorMgAB
namespace Go.Proofs.YtjefgmeejhakbabGreatDoor
open Go.RowKit
variable {w w':World} {L:EnL} {E:Eng}
def verP (E:Eng) (key t:Int):(Int × Int) × Int:=match rdP t (E.ks[key.toNat]?.getD []) with
 | some p=>(p,0)
 | none=>((0,0),8)
noncomputable def readE (f:Nat) (E:Eng) (i:Nat) (key:Int):Option ((Int × Int) × Eng):=match E.txs[i]? with
 | some t=>(match t.vals key with
  | some v=>some ((v,0),E)
  | none=>if keyB key=false then some ((0,2),E) else
   if t.level=2 then (match aowP (E.setTx i (noteReadP t key ((E.wr (verP E key (seesP E t)).1.1).getD 0))) i key with
    | (true,E2)=>some (((verP E key (seesP E t)).1.2,(verP E key (seesP E t)).2),E2)
    | (false,E2)=>(endF f (loseE E2 i 13) i 3).map (fun E3=>((0,13),E3)))
   else some (((verP E key (seesP E t)).1.2,(verP E key (seesP E t)).2),E.setTx i (noteReadP t key ((E.wr (verP E key (seesP E t)).1.1).getD 0))))
 | none=>none
theorem sread_any {P:Tail} {base s k:Nat} {last t:Int} {vs:List Value} (h:Sto P w base s last vs E.ks) (hk:k<10) (hlen:∀ l∈E.ks,l.length≤100000) :
  Calls Tryz.prog 195 #[.pointer (some ⟨s,0,none⟩),.int .i64 (k:Int),.int .i64 t] w fun e w'=>e=.returned (.tuple #[.agg #[.int .i64 (verP E (k:Int) t).1.1,.int .i64 (verP E (k:Int) t).1.2],errV (verP E (k:Int) t).2])∧Below w.heap.size w w':=by
 have hkl:k<E.ks.length:=by have:=h.lk;omega
 obtain⟨l,hl⟩:∃ l,E.ks[k]?=some l:=⟨E.ks[k],List.getElem?_eq_getElem hkl⟩
 have hll:=hlen l (List.mem_of_getElem? hl)
 have hlat:=lat_bounds l t
 unfold verP
 rw [Int.toNat_natCast,hl]
 simp only [Option.getD_some]
 by_cases hp:0≤lat l t
 ·obtain⟨m,hm⟩:∃ m:Nat,lat l t=m:=⟨(lat l t).toNat,by omega⟩
  obtain⟨⟨a,x⟩,hax⟩:∃ p,l[m]?=some p:=⟨l[m]'(by omega),List.getElem?_eq_getElem _⟩
  rw [rdP_some t l m a x hm hax]
  exact read_some base s k last t vs E.ks l w h hl (by omega) m hm a x hax
 ·rw [rdP_none t l (by omega)]
  exact read_none base s k last t vs E.ks l w h hl (by omega) (by omega)
theorem bAl {B:Nat} {a b:World} (h:Below B a b) (o:Obj) (hb:B≤a.heap.size:=by exact Nat.le_refl _):Below B a (b.alloc o):=h.alloc (Nat.le_trans hb h.size) o
theorem bDr {B:Nat} {a b:World} (h:Below B a b):Below B a b.drew:=h.drew
theorem boxA {T:TypeId} {w2:World} {z0 z1 a x:Value} (hB:Below (w.alloc (.cells #[z0,z1] T)).drew.heap.size (w.alloc (.cells #[z0,z1] T)).drew w2) :
  Below w.heap.size w ((w2.setCell ⟨w.heap.size,0,none⟩ a).setCell ⟨w.heap.size,1,none⟩ x)∧((w2.setCell ⟨w.heap.size,0,none⟩ a).setCell ⟨w.heap.size,1,none⟩ x).heap[w.heap.size]?=some (.cells #[a,x] T (0,0)):=by
 have hsz:(w.alloc (.cells #[z0,z1] T)).drew.heap.size=w.heap.size+1:=by simp
 rw [hsz] at hB
 have hbx:w2.heap[w.heap.size]?=some (.cells #[z0,z1] T (0,0)):=(hB.block w.heap.size (by omega)).trans (heap_alloc_new w _)
 have h1:=setCell_at (o:=0) (v:=a) hbx
 have h2:=setCell_at (o:=1) (v:=x) h1
 refine⟨⟨hB.os,hB.tape,hB.output,?_,fun b hb=>?_⟩,by rw [h2];simp⟩
 ·have:=hB.size
  simp at this ⊢
  omega
 ·rw [heap_setCell_other _ ⟨w.heap.size,1,none⟩ b _ (Nat.ne_of_lt hb),heap_setCell_other _ ⟨w.heap.size,0,none⟩ b _ (Nat.ne_of_lt hb),hB.block b (by omega)]
  exact Below.heap_alloc w _ b hb
theorem boxA_facts {T:TypeId} {w2:World} {z0 z1:Value} (hB:Below (w.alloc (.cells #[z0,z1] T)).drew.heap.size (w.alloc (.cells #[z0,z1] T)).drew w2) :
  w2.cell? ⟨w.heap.size,0,none⟩=some z0∧w2.cell? ⟨w.heap.size,1,none⟩=some z1∧∀ o,w2.frozen? ⟨w.heap.size,o,none⟩=false:=by
 have hsz:(w.alloc (.cells #[z0,z1] T)).drew.heap.size=w.heap.size+1:=by simp
 rw [hsz] at hB
 have hbx:w2.heap[w.heap.size]?=some (.cells #[z0,z1] T (0,0)):=(hB.block w.heap.size (by omega)).trans (heap_alloc_new w _)
 exact⟨(cell_of_row _ w.heap.size 0 _ _ (0,0) hbx).trans rfl,(cell_of_row _ w.heap.size 1 _ _ (0,0) hbx).trans rfl,fun o=>by simp [World.frozen?,hbx]⟩
theorem boxB {T:TypeId} {w2:World} {a x:Value} (hB:Below w.drew.heap.size w.drew w2) :
  Below w.heap.size w (w2.alloc (.cells #[a,x] T))∧(w2.alloc (.cells #[a,x] T)).heap[w2.heap.size]?=some (.cells #[a,x] T (0,0)):=by
 have h1:Below w.heap.size w w2:=(below_drewN (Below.refl _ w) 1).trans hB
 exact⟨h1.alloc h1.size _,heap_alloc_new w2 _⟩
theorem tellV (c:Int) (W:World) (hg:Handle W):Calls Tryz.prog 32 #[errV c] W fun e w'=>e=.returned (.int .i64 c)∧Below W.heap.size W w':=by
 by_cases h0:c=0
 ·subst h0
  exact (tell_nil W).mono (fun e w' h=>⟨h.1,by rw [h.2];exact Below.refl _ _⟩)
 ·rw [show errV c=Value.iface 33 (.int .i64 c) from if_neg h0]
  exact tell_errno c W hg
set_option maxRecDepth 100000 in
set_option maxHeartbeats 1000000 in
theorem read_own (h:EnAt w L E) {i:Nat} {l:TxL} {t:Tx} (hl:L.txs[i]?=some l) (ht:E.txs[i]?=some t) (hs:t.state=0) {key v:Int} (hk:I64 key) (hv:t.vals key=some v) :
  Calls Tryz.prog 119 #[.pointer (some ⟨L.s,0,none⟩),.int .i64 ((i:Int)+1),.int .i64 key] w fun e w'=>e=.returned (.tuple #[.int .i64 v,errV 0])∧w'=w:=by
 have hA:=h.txs i l t hl ht
 have c8:=hA.c8
 have hlk:=hA.va.look Tryz.underlying131 (zeroI w) hk
 rw [hv] at hlk
 simp only [Option.map_some,Option.getD_some,Option.isSome_some] at hlk
 have HO:=hid (open_ok h hl ht hs)
 clear h hl ht hs hA hv
 go_enter Tryz.func119,Tryz.ntmps119
 go_wp2_with fail
 refine HO.out.mono ?_
 rintro e w1 ⟨rfl,rfl⟩
 go_wp2
 go_ret2
 exact⟨rfl,rfl⟩
set_option maxRecDepth 100000 in
set_option maxHeartbeats 1000000 in
theorem read_shut (h:EnAt w L E) {n key c:Int} (hc:(c=7∧(n<1∨(E.txs.length:Int)<n))∨(c=6∧∃ (i:Nat) (t:Tx),n=(i:Int)+1∧E.txs[i]?=some t∧t.state≠0)) :
  Calls Tryz.prog 119 #[.pointer (some ⟨L.s,0,none⟩),.int .i64 n,.int .i64 key] w fun e w'=>e=.returned (.tuple #[.int .i64 0,errV c])∧w'=w:=by
 have HO:Hid (Calls Tryz.prog 194 #[.pointer (some ⟨L.s,0,none⟩),.int .i64 n] w fun e w'=>e=.returned (.tuple #[.pointer none,errV c])∧w'=w):=by
  rcases hc with ⟨rfl,hn⟩ | ⟨rfl,i,t,rfl,ht,hs⟩
  ·exact open_err h hn
  ·obtain⟨l,hl,_⟩:=h.get ht
   exact open_state h hl ht hs
 have h0:c≠0:=by rcases hc with ⟨rfl,_⟩ | ⟨rfl,_⟩<;>decide
 rw [show errV c=Value.iface 33 (.int .i64 c) from if_neg h0] at HO ⊢
 clear h hc h0
 go_enter Tryz.func119,Tryz.ntmps119
 go_wp2_with fail
 refine HO.out.mono ?_
 rintro e w1 ⟨rfl,rfl⟩
 go_wp2
 go_ret2
 exact⟨rfl,rfl⟩
set_option maxRecDepth 100000 in
set_option maxHeartbeats 2000000 in
theorem read_bad (h:EnAt w L E) (hg:Handle w) {i:Nat} {l:TxL} {t:Tx} (hl:L.txs[i]?=some l) (ht:E.txs[i]?=some t) (hs:t.state=0) {key:Int} (hk:I64 key) (hv:t.vals key=none) (hb:keyB key=false) :
    Calls Tryz.prog 119 #[.pointer (some ⟨L.s,0,none⟩),.int .i64 ((i:Int)+1),.int .i64 key] w fun e w'=>e=.returned (.tuple #[.int .i64 0,errV 2])∧Below w.heap.size w w':=by
  have hA:=h.txs i l t hl ht
  have c8:=hA.c8
  have hlk:=hA.va.look Tryz.underlying131 (zeroI w) hk
  rw [hv] at hlk
  simp only [Option.map_none,Option.getD_none,Option.isSome_none] at hlk
  have HO:=hid (open_ok h hl ht hs)
  have hbl:=hA.lt
  have hd:Below w.heap.size w w.drew:=below_drewN (Below.refl _ w) 1
  have HS:=hid (fun W (hB:Below w.heap.size w W)=>sees_any (h.below hB) hl ht)
  have HR:=hid (fun W (_:Below w.heap.size w W)=>read_range L.s key (seesP E t) W hb)
  obtain⟨se,hse⟩:∃ se,seesP E t=se:=⟨_,rfl⟩
  rw [hse] at HS HR
  have HG:=hid hg
  have hp:=hg.pos
  clear h hl ht hs hA hv hg hse
  go_enter Tryz.func119,Tryz.ntmps119
  go_wp2_with fail
  refine HO.out.mono ?_
  rintro e w1 ⟨rfl,hw1⟩
  rw [hw1]
  clear hw1 w1
  go_wp2
  go_region_with
    (first | (go_at_call 196
              refine (HS.out _ (by repeat (first | with_reducible exact Below.refl _ _ | with_reducible refine bAl ?_ _ | with_reducible refine bDr ?_))).mono ?_
              rintro e w2 ⟨rfl,hw2⟩
              rw [hw2]
              clear hw2 w2)
           | (go_at_call 195
              refine (HR.out (w.alloc (.cells #[.int .i64 0,.int .i64 0] 198)).drew (bDr (bAl (Below.refl _ _) _))).mono ?_
              rintro e w2 ⟨rfl,hB2⟩
              obtain⟨b0,b1,b2⟩:=boxA_facts hB2
              have HB2:=hid hB2
              clear hB2)
           | (go_at_call 195
              refine (HR.out _ (by repeat (first | with_reducible exact Below.refl _ _ | with_reducible refine bAl ?_ _ | with_reducible refine bDr ?_))).mono ?_
              rintro e w2 ⟨rfl,hB2⟩
              have HB2:=hid hB2
              clear hB2))
  all_goals
    first
      | (obtain⟨W3,hW3⟩:∃ W,(w2.setCell ⟨w.heap.size,0,none⟩ (.int .i64 0)).setCell ⟨w.heap.size,1,none⟩ (.int .i64 0)=W:=⟨_,rfl⟩
         have hbx:=boxA (a:=.int .i64 0) (x:=.int .i64 0) HB2.out
         rw [hW3] at hbx ⊢
         clear hW3 b0 b1 b2)
      | (obtain⟨W3,hW3⟩:∃ W,w2.alloc (.cells #[.int .i64 0,.int .i64 0] 198)=W:=⟨_,rfl⟩
         have hbx:=boxB (T:=198) (a:=.int .i64 0) (x:=.int .i64 0) HB2.out
         rw [hW3] at hbx ⊢
         clear hW3)
    have HBX:=hid hbx.1
    have HT:=hid (tellV 2 W3 (HG.out.below hbx.1 hp))
    rw [show errV 2=Value.iface 33 (.int .i64 2) from rfl] at HT
    clear hbx HB2
    go_wp2_with fail
    refine HT.out.mono ?_
    rintro e w4 ⟨rfl,hB4⟩
    have HF:=hid (HBX.out.trans (hB4.mono HBX.out.size))
    clear hB4 HT
    go_wp2
    go_ret2
    exact⟨rfl,HF.out⟩
theorem rest_ahead (E:Eng) (i j:Nat):SameRest E (putAheadP E i j).2:=by
 have:=putAhead_rest E i j
 exact⟨this.1,this.2.2.1,this.2.2.2.1,this.2.2.2.2,putAhead_len E i j⟩
theorem rest_times (i:Nat):∀ (ts:List Int) (E:Eng),SameRest E (aheadTimes i ts E).2
 | [],E=>SameRest.refl E
 | a::r,E=>by
  unfold aheadTimes
  split
  ·rename_i j _
   have h1:=rest_ahead E i j
   split
   ·rename_i E' he
    rw [he] at h1
    exact h1.trans (rest_times i r E')
   ·rename_i E' he
    rw [he] at h1
    exact h1
  ·exact rest_times i r E
theorem rest_each (i:Nat):∀ (js:List Nat) (E:Eng),SameRest E (aheadEach i js E)
 | [],E=>SameRest.refl E
 | j::r,E=>by
  unfold aheadEach
  exact (rest_ahead E i j).trans (rest_each i r _)
theorem rest_aow (E:Eng) (i:Nat) (key:Int):SameRest E (aowP E i key).2:=by
 unfold aowP
 split
 ·rename_i t _
  have h1:=rest_times i (newerP E key t.start) E
  split
  ·rename_i E' he
   rw [he] at h1
   exact h1.trans (rest_each i _ E')
  ·rename_i E' he
   rw [he] at h1
   exact h1
 ·exact SameRest.refl E
set_option maxRecDepth 100000 in
set_option maxHeartbeats 4000000 in
theorem read_main (h:EnAt w L E) (hg:Handle w) (hf:Fits E) {f:Nat} {i:Nat} {l:TxL} {t:Tx} (hl:L.txs[i]?=some l) (ht:E.txs[i]?=some t) (hs:t.state=0) (hr:t.reads.length≤1000000000) (hne:∀ a,E.wr a≠some ((i:Int)+1)) {k:Nat} (hk:k<10) (hv:t.vals (k:Int)=none)
    {R:(Int × Int) × Eng} (hR:readE f E i (k:Int)=some R) :
    Calls Tryz.prog 119 #[.pointer (some ⟨L.s,0,none⟩),.int .i64 ((i:Int)+1),.int .i64 (k:Int)] w fun e w'=>e=.returned (.tuple #[.int .i64 R.1.1,errV R.1.2])∧EnPost L R.2 w w':=by
  have hA:=h.txs i l t hl ht
  have c8:=hA.c8
  have hlk:=hA.va.look Tryz.underlying131 (zeroI w) (a:=(k:Int)) (by unfold I64;omega)
  rw [hv] at hlk
  simp only [Option.map_none,Option.getD_none,Option.isSome_none] at hlk
  have HO:=hid (open_ok h hl ht hs)
  have HS:=hid (fun W (hB:Below w.heap.size w W)=>sees_any (h.below hB) hl ht)
  have HR:=hid (fun W (hB:Below w.heap.size w W)=>sread_any (t:=seesP E t) (h.below hB).sto hk hf.len)
  have hkb:keyB (k:Int)=true:=by simp [keyB];omega
  unfold readE at hR
  rw [ht] at hR
  simp only at hR
  rw [hv] at hR
  simp only [hkb] at hR
  rw [if_neg (by simp)] at hR
  obtain⟨se,hse⟩:∃ se,seesP E t=se:=⟨_,rfl⟩
  rw [hse] at HS HR hR
  obtain⟨a,x,c,hver⟩:∃ a x c,verP E (k:Int) se=((a,x),c):=⟨_,_,_,rfl⟩
  rw [hver] at HR hR
  simp only at HR hR
  have hia:I64 a:=by
    unfold verP at hver
    cases hrd:rdP se (E.ks[(k:Int).toNat]?.getD []) with
    | none=>rw [hrd] at hver;injection hver with hv1 _;injection hv1 with hv1 _;rw [← hv1];unfold I64;omega
    | some p =>
      rw [hrd] at hver
      injection hver with hv1 _
      rw [hv1] at hrd
      unfold rdP at hrd
      split at hrd
      · have hmem:=List.mem_of_getElem? hrd
        rw [Int.toNat_natCast] at hmem
        have hkl:k<E.ks.length:=by have:=h.sto.lk;omega
        rw [List.getElem?_eq_getElem hkl] at hmem
        exact hf.tim _ (List.getElem_mem hkl) _ hmem
      · cases hrd
  have hc2:(c==2)=false:=by
    unfold verP at hver
    cases hrd:rdP se (E.ks[(k:Int).toNat]?.getD []) with
    | none=>rw [hrd] at hver;injection hver with _ hv1;rw [← hv1];rfl
    | some p=>rw [hrd] at hver;injection hver with _ hv1;rw [← hv1];rfl
  obtain⟨fr,hfr⟩:∃ fr,(E.wr a).getD 0=fr:=⟨_,rfl⟩
  rw [hfr] at hR
  have HG:=hid hg
  have hp:=hg.pos
  have HH:=hid h
  have HL:=hid hl
  have HT0:=hid ht
  have HF:=hid hf
  have HNE:=hid hne
  have HV:=hid hv
  have HRR:=hid hR
  have HFR:=hid hfr
  have HIA:=hid hia
  have hbl:=hA.lt
  have hsl:=h.sto.lt
  clear h hl ht hs hA hv hg hse hR hver hf hne hfr hia hkb
  go_enter Tryz.func119,Tryz.ntmps119
  go_wp2_with fail
  refine HO.out.mono ?_
  rintro e w1 ⟨rfl,hw1⟩
  rw [hw1]
  clear hw1 w1
  go_wp2
  go_region_with
    (first | (go_at_call 196
              refine (HS.out _ (by repeat (first | with_reducible exact Below.refl _ _ | with_reducible refine bAl ?_ _ | with_reducible refine bDr ?_))).mono ?_
              rintro e w2 ⟨rfl,hw2⟩
              rw [hw2]
              clear hw2 w2)
           | (go_at_call 195
              refine (HR.out (w.alloc (.cells #[.int .i64 0,.int .i64 0] 198)).drew (bDr (bAl (Below.refl _ _) _))).mono ?_
              rintro e w2 ⟨rfl,hB2⟩
              obtain⟨b0,b1,b2⟩:=boxA_facts hB2
              have HB2:=hid hB2
              clear hB2)
           | (go_at_call 195
              refine (HR.out _ (by repeat (first | with_reducible exact Below.refl _ _ | with_reducible refine bAl ?_ _ | with_reducible refine bDr ?_))).mono ?_
              rintro e w2 ⟨rfl,hB2⟩
              have HB2:=hid hB2
              clear hB2))
  all_goals
    first
      | (obtain⟨W3,hW3⟩:∃ W,(w2.setCell ⟨w.heap.size,0,none⟩ (.int .i64 a)).setCell ⟨w.heap.size,1,none⟩ (.int .i64 x)=W:=⟨_,rfl⟩
         have hbx:=boxA (a:=.int .i64 a) (x:=.int .i64 x) HB2.out
         rw [hW3] at hbx ⊢
         obtain⟨bx,hbx0⟩:∃ bx,w.heap.size=bx:=⟨_,rfl⟩
         have hbo:¬ L.own bx:=fun ho=>by have:=HH.out.own_lt ho;omega
         have hbx2:Below w.heap.size w W3∧W3.heap[bx]?=some (.cells #[.int .i64 a,.int .i64 x] 198 (0,0)):=by rw [← hbx0];exact hbx
         rw [hbx0]
         clear hW3 b0 b1 b2)
      | (obtain⟨W3,hW3⟩:∃ W,w2.alloc (.cells #[.int .i64 a,.int .i64 x] 198)=W:=⟨_,rfl⟩
         have hbx:=boxB (T:=198) (a:=.int .i64 a) (x:=.int .i64 x) HB2.out
         rw [hW3] at hbx ⊢
         obtain⟨bx,hbx0⟩:∃ bx,w2.heap.size=bx:=⟨_,rfl⟩
         have hbo:¬ L.own bx:=fun ho=>by
           have h1:=HH.out.own_lt ho
           have h2:=HB2.out.size
           simp at h2
           omega
         have hbx2:Below w.heap.size w W3∧W3.heap[bx]?=some (.cells #[.int .i64 a,.int .i64 x] 198 (0,0)):=by rw [← hbx0];exact hbx
         rw [hbx0]
         clear hW3)
    have HBX:=hid hbx2
    have HT:=hid (tellV c W3 (HG.out.below hbx2.1 hp))
    clear hbx hbx2 HB2 hbx0
    go_wp2_with fail
    refine HT.out.mono ?_
    rintro e w4 ⟨rfl,hB4⟩
    have hBw4:Below w.heap.size w w4:=HBX.out.1.trans (hB4.mono HBX.out.1.size)
    have hbxl:bx<W3.heap.size:=(Array.getElem?_eq_some_iff.1 HBX.out.2).1
    have hbx4:w4.heap[bx]?=some (.cells #[.int .i64 a,.int .i64 x] 198 (0,0)):=(hB4.block bx hbxl).trans HBX.out.2
    have hbxl4:bx<w4.heap.size:=(Array.getElem?_eq_some_iff.1 hbx4).1
    have v0:w4.cell? ⟨bx,0,none⟩=some (.int .i64 a):=(cell_of_row _ bx 0 _ _ (0,0) hbx4).trans rfl
    have hE4:=HH.out.below hBw4
    have c15:=hE4.c15
    have hlk2:∀ q,(Instr.lookup 131 (.map (some L.wb)) (.int .i64 a) false).run Tryz.prog (w4.drewN q)=.ok (.int .i64 fr) (w4.drewN q):=fun q=>by
      have:=(hE4.wr.same (w':=w4.drewN q) rfl).look1 Tryz.underlying131 (zeroI _) HIA.out
      rw [getD_map,HFR.out] at this
      exact this
    have hlk3:(Instr.lookup 131 (.map (some L.wb)) (.int .i64 a) false).run Tryz.prog w4.drew=.ok (.int .i64 fr) w4.drew:=hlk2 1
    clear hlk2
    have HA4:=hid (fun q=>(hE4.below (w':=w4.drewN q) (below_drewN (Below.refl _ _) q)).txs i l t HL.out HT0.out)
    have HE4:=hid (fun q=>hE4.below (w':=w4.drewN q) (below_drewN (Below.refl _ _) q))
    have hN:Calls Tryz.prog 197 #[.pointer (some ⟨l.b,0,none⟩),.int .i64 (k:Int),.int .i64 fr] w4.drew fun e w5=>e=.returned (.tuple #[])∧∃ rv,EnAt w5 (L.setTx i { l with rv:=rv }) (E.setTx i (noteReadP t (k:Int) fr))∧KeptO L.own (L.setTx i { l with rv:=rv }).own w w5 ∧
        w5.heap[bx]?=some (.cells #[.int .i64 a,.int .i64 x] 198 (0,0))∧¬ (L.setTx i { l with rv:=rv }).own bx∧w5.cell? ⟨L.s,15,none⟩=some (.map (some L.wb))∧w5.cell? ⟨bx,0,none⟩=some (.int .i64 a)∧w5.cell? ⟨bx,1,none⟩=some (.int .i64 x)∧w5.cell? ⟨l.b,1,none⟩=some (.int .i64 t.level):=by
      refine (noteRead_any (HA4.out 1) hk fr hr).mono ?_
      rintro e w5 ⟨rfl,rv,hA5,hK5⟩
      obtain⟨hE5,hKE5⟩:=(HE4.out 1).setTx (l':={ l with rv:=rv }) HL.out HT0.out rfl hK5 hA5
      have hbx5:w5.heap[bx]?=some (.cells #[.int .i64 a,.int .i64 x] 198 (0,0)):=(hKE5.block bx hbxl4 hbo).trans hbx4
      refine⟨rfl,rv,hE5,KeptO.below_l hBw4 (KeptO.below_l (below_drewN (Below.refl _ w4) 1) hKE5),hbx5,fun ho=>?_,hE5.c15,(cell_of_row _ bx 0 _ _ (0,0) hbx5).trans rfl,(cell_of_row _ bx 1 _ _ (0,0) hbx5).trans rfl,hA5.c1⟩
      rcases hKE5.sub bx ho with h | h
      · exact hbo h
      · exact Nat.lt_irrefl _ (Nat.lt_of_lt_of_le hbxl4 h)
    have HN:=hid hN
    have HBW4:=hid hBw4
    have HBX4:=hid hbx4
    clear hB4 HT hE4 hBw4 HBX hbx4 hbxl hN
    go_wp2
    go_region_held3 (fun W=>W.cell? ⟨L.s,15,none⟩=some (.map (some L.wb))∧W.cell? ⟨bx,0,none⟩=some (.int .i64 a))
      (first | go_keep | exact⟨y1,y2⟩)
      (first | (go_at_call 197
                refine HN.out.mono ?_
                rintro e w5 ⟨rfl,rv,hE5,hKE5,hbx5,hbo5,y1,y2,y3,y4⟩
                have HE5:=hid hE5
                have HKE5:=hid hKE5
                have HBX5:=hid (And.intro hbx5 hbo5)
                clear hE5 hKE5 hbx5 hbo5))
    have hbs:Hid ((L.setTx i { l with rv:=rv }).bs=L.bs):=bs_setTx HL.out rfl
    have hl5:(L.setTx i { l with rv:=rv }).txs[i]?=some { l with rv:=rv }:=by
      have:=(List.getElem?_eq_some_iff.1 HL.out).1
      simp [EnL.setTx,this]
    by_cases h2:t.level=2
    · rw [h2] at y4
      have hRR:=HRR.out
      rw [if_pos h2] at hRR
      have HC:=hid (aow_any HE5.out hl5 (setTx_get HT0.out) (key:=(k:Int)) (by omega) ⟨HF.out.len,HF.out.tim⟩ HV.out HNE.out)
      obtain⟨ab,aE,hab⟩:∃ ab aE,aowP (E.setTx i (noteReadP t (k:Int) fr)) i (k:Int)=(ab,aE):=⟨_,_,rfl⟩
      rw [hab] at HC hRR
      simp only at HC
      have hak:aE.ks=E.ks:=by
        have:=rest_aow (E.setTx i (noteReadP t (k:Int) fr)) i (k:Int)
        rw [hab] at this
        exact this.1
      have HAK:=hid hak
      have HRA:=hid hRR
      have HL5:=hid hl5
      clear hab hRR hak hl5 h2
      go_wp2_with fail
      refine HC.out.mono ?_
      rintro e w6 ⟨rfl,hE6,hK6⟩
      have hbx6:w6.heap[bx]?=some (.cells #[.int .i64 a,.int .i64 x] 198 (0,0)):=(hK6.block bx (Array.getElem?_eq_some_iff.1 HBX5.out.1).1 HBX5.out.2).trans HBX5.out.1
      have z3:w6.cell? ⟨bx,1,none⟩=some (.int .i64 x):=(cell_of_row _ bx 1 _ _ (0,0) hbx6).trans rfl
      have HE6:=hid hE6
      have HK6:=hid (HKE5.out.trans hK6)
      clear hE6 hK6 HC
      cases ab with
      | true =>
        have hR2:R=((x,c),aE):=by
          have:=HRA.out
          simp only at this
          injection this with this
          exact this.symm
        have HR2:=hid hR2
        clear hR2
        go_wp2
        go_ret2
        rw [HR2.out]
        exact⟨rfl,_,HE6.out,HK6.out,rfl,hbs.out⟩
      | false =>
        obtain⟨E9,hE9,hR2⟩:∃ E9,endF f (loseE aE i 13) i 3=some E9∧R=((0,13),E9):=by
          have:=HRA.out
          simp only at this
          cases he:endF f (loseE aE i 13) i 3 with
          | none=>rw [he] at this;cases this
          | some E9=>rw [he] at this;simp at this;exact⟨E9,rfl,this.symm⟩
        obtain⟨t6,ht6,_⟩:=HE6.out.getL HL5.out
        have HC2:=hid (lose_any (end_ok f) HE6.out HL5.out ht6 13 (by rw [HAK.out];exact HF.out.len) hE9)
        have HR2:=hid hR2
        clear hR2 hE9 ht6
        go_wp2_with fail
        refine HC2.out.mono ?_
        rintro e w7 ⟨rfl,L7,hE7,hK7,hs7,hb7⟩
        have HP:=hid (show EnPost L E9 w w7 from ⟨L7,hE7,HK6.out.trans hK7,hs7,hb7.trans hbs.out⟩)
        clear hE7 hK7 hs7 hb7 HC2
        go_wp2
        go_ret2
        rw [HR2.out]
        exact⟨rfl,HP.out⟩
    · have e2:(t.level==2)=false:=by simpa using h2
      have hR2:R=((x,c),E.setTx i (noteReadP t (k:Int) fr)):=by
        have:=HRR.out
        rw [if_neg h2] at this
        injection this with this
        exact this.symm
      have HR2:=hid hR2
      clear h2 hR2
      go_wp2
      go_ret2
      rw [HR2.out]
      exact⟨rfl,_,HE5.out,HKE5.out,rfl,hbs.out⟩
end Go.Proofs.YtjefgmeejhakbabGreatDoor
