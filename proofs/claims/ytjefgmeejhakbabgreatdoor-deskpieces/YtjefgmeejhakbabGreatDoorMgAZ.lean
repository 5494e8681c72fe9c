/- OrGround OrLeast: put together for a claim. -/
import Derived.Test.YtjefgmeejhakbabGreatDoorMgAV
import Derived.Test.YtjefgmeejhakbabGreatDoorOrDown
namespace Go.Proofs.YtjefgmeejhakbabGreatDoor
open Go.RowKit
def behindG (s:List Int) (x:Int):Int × Bool:=if x=0 then (0,true) else match firstAt x s with
 | some i=>((i:Int)+1,true)
 | none=>(0,false)
theorem behindP_any (K k:Nat) (av:Value) (mv:Option Nat) (s:List Int) (x:Int) (w:World) (h:WrAt w K k av mv s) (hx:I64 x) (hn:s.length≤100000000) :
  Calls Tryz.prog 304 #[.pointer (some ⟨K,k,none⟩),.int .i64 x] w fun e w'=>e=.returned (.tuple #[.int .i64 (behindG s x).1,.bool (behindG s x).2])∧w'=w:=by
 refine (behindW_any K k av mv s x w h hx hn).mono ?_
 rintro e w' ⟨rfl,h1,h2,h3⟩
 refine⟨?_,rfl⟩
 unfold behindG
 by_cases e0:x=0
 ·rw [if_pos e0];exact h1 e0
 ·rw [if_neg e0]
  cases hf:firstAt x s with
  | none=>exact h3 e0 hf
  | some i=>exact h2 e0 i hf
theorem badRead_read {l:List Opp} {o:Opp} (hr:o.2.2.1=false) {s:List Int} (hs:writersP l o.2.1=s):badRead l o=!(behindG s o.2.2.2).2:=by
 unfold badRead readP behindG
 rw [hr,hs]
 by_cases e:o.2.2.2=0
 ·simp [e]
 ·rw [if_neg e,if_neg e]
  cases firstAt o.2.2.2 s<;>rfl
theorem badRead_write {l:List Opp} {o:Opp} (hr:o.2.2.1=true):badRead l o=false:=by unfold badRead;rw [hr];rfl
set_option maxRecDepth 100000 in
set_option maxHeartbeats 600000 in
theorem groundless_any (ad:Option Addr) (cap K:Nat) (av:Nat→Value) (mv:Nat→Option Nat) (l:List Opp) (m:Nat) (w:World) (hn:l.length≤10000000) (hO:OpsAt w ad l) (hf:∀ o∈l,opBad o=false) (hK:KeysAt w K av mv (fun k=>writersP l (k:Nat))) (hm:FineTo (badRead l) l m) :
  Calls Tryz.prog 243 #[.slice ad l.length cap,.pointer (some ⟨K,0,none⟩)] w fun e w'=>∃ ev,e=.returned ev∧Told w' ev l m 1∧Below w.heap.size w w':=by
 have HO:=hid hO
 have HM:=hid hm
 have HF:=hid hf
 have HK:=hid hK
 clear hO hm hf hK
 go_enter Tryz.func243,Tryz.ntmps243
 go_wp2
 go_loopw [11] (fun i wr=>∃ j:Nat,j≤m∧i=.int .i64 j∧Below w.heap.size w wr) (fun i _=>l.length-(intOf i).toNat)
 case atStart=>exact⟨0,Nat.zero_le _,rfl,Below.refl _ _⟩
 case round =>
  obtain⟨j,hj,rfl,hB⟩:=hrel
  have hBs:=hB.size
  have hml:=HM.out.le
  by_cases hlt:j<l.length
  ·obtain⟨o,ho⟩:∃ o,l[j]?=some o:=⟨l[j],List.getElem?_eq_getElem hlt⟩
   obtain⟨g,off,rfl,hg,⟨c0,c1,c2,c3⟩,i0,i1,i2⟩:=HO.out.below hB j o ho
   obtain⟨b1,b2,b3,b4⟩:=opBad_false (HF.out o (List.mem_of_getElem? ho))
   have hj0:(0:Int)≤(j:Int):=by omega
   have hj1:(j:Int)<(l.length:Int):=by omega
   have hA:=hB.alloc hBs (.cells #[.int .i64 o.1,.int .i64 o.2.1,.bool o.2.2.1,.int .i64 o.2.2.2] 138)
   have hA1:Below wr.heap.size wr (wr.alloc (.cells #[.int .i64 o.1,.int .i64 o.2.1,.bool o.2.2.1,.int .i64 o.2.2.2] 138)):=(Below.refl _ _).alloc (Nat.le_refl _) _
   have HA:=hid hA
   cases hw:o.2.2.1 with
   | true =>
    have hjm:j<m:=by
     rcases Nat.lt_or_ge j m with h | h
     ·exact h
     ·obtain rfl:j=m:=by omega
      obtain⟨o',ho',hb⟩:=HM.out.bad hlt
      rw [ho] at ho'
      cases ho'
      rw [badRead_write hw] at hb
      cases hb
    rw [hw] at c2 HA
    clear hB ho hA hA1
    go_wp2
    go_roundw
    case rel=>exact⟨j+1,by omega,by go_num,HA.out⟩
    case measure=>simp [intOf];omega
   | false =>
    obtain⟨kk,hkk⟩:∃ kk:Nat,o.2.1=(kk:Nat):=⟨o.2.1.toNat,by omega⟩
    have hk10:kk<10:=by omega
    have hkk0:(0:Int)≤(kk:Int):=by omega
    have hkk1:(kk:Int)<10:=by omega
    have hbr:=badRead_read (l:=l) hw (s:=writersP l (kk:Nat)) (by rw [hkk])
    have hlen:=writers_len l (kk:Nat)
    have hC:∀ nq,Calls Tryz.prog 304 #[.pointer (some ⟨K,kk*2,none⟩),.int .i64 o.2.2.2] ((wr.alloc (.cells #[.int .i64 o.1,.int .i64 o.2.1,.bool o.2.2.1,.int .i64 o.2.2.2] 138)).drewN nq) fun e w'=>e=.returned (.tuple #[.int .i64 (behindG (writersP l (kk:Nat)) o.2.2.2).1,.bool (behindG (writersP l (kk:Nat)) o.2.2.2).2])∧w'=((wr.alloc (.cells #[.int .i64 o.1,.int .i64 o.2.1,.bool o.2.2.1,.int .i64 o.2.2.2] 138)).drewN nq) :=
     fun nq=>behindP_any K (kk*2) (av kk) (mv kk) (writersP l (kk:Nat)) o.2.2.2 _ ((HK.out.below (below_drewN (hB.trans (hA1.mono hBs) |>.mono (Nat.le_refl _)) nq)).at hk10) i2 (by omega)
    rw [hw,hkk] at hC
    rw [hw,hkk] at HA
    rw [hw] at c2
    rw [hkk] at c1
    obtain⟨fr,hfr⟩:∃ fr,o.2.2.2=fr:=⟨_,rfl⟩
    rw [hfr] at hC c3 HA hbr
    obtain⟨bp,hbp⟩:∃ bp,(behindG (writersP l (kk:Nat)) fr).1=bp:=⟨_,rfl⟩
    rw [hbp] at hC
    cases hbb:(behindG (writersP l (kk:Nat)) fr).2 with
    | true =>
     rw [hbb] at hC hbr
     have hjm:j<m:=by
      rcases Nat.lt_or_ge j m with h | h
      ·exact h
      ·obtain rfl:j=m:=by omega
       obtain⟨o',ho',hb⟩:=HM.out.bad hlt
       rw [ho] at ho'
       cases ho'
       rw [hbr] at hb
       cases hb
     clear hB ho hA hA1 hw hkk hfr hbp hbb hbr
     go_wp2
     go_quiet ((first | (go_at_call 304;exact Calls.quiet_of_same (hC _))))
     go_wp2
     go_roundw
     case rel=>exact⟨j+1,by omega,by go_num,below_drewN HA.out _⟩
     case measure=>simp [intOf];omega
    | false =>
     rw [hbb] at hC hbr
     have hjm:j=m:=by
      rcases Nat.lt_or_ge j m with h | h
      ·have:=HM.out.fine j o h ho
       rw [hbr] at this
       cases this
      ·omega
     subst hjm
     have hend:∀ W:World,Below w.heap.size w W→Told (W.alloc (.cells #[.int .i64 1,.int .i64 (j:Int)] 224)) (.iface 222 (.pointer (some ⟨W.heap.size,0,none⟩))) l j 1∧Below w.heap.size w (W.alloc (.cells #[.int .i64 1,.int .i64 (j:Int)] 224)) :=
      fun W hW=>⟨.inr ⟨hlt,W.heap.size,rfl,heap_alloc_new W _⟩,hW.alloc hW.size _⟩
     have HE:=hid hend
     clear hB ho hA hA1 hw hkk hfr hbp hbb hbr hend
     go_wp2
     go_quiet ((first | (go_at_call 304;exact Calls.quiet_of_same (hC _))))
     go_wp2
     go_ret
     exact⟨_,rfl,by simpa using HE.out _ (below_drewN HA.out _)⟩
  ·obtain rfl:m=l.length:=by omega
   have HB:=hid hB
   clear hB
   go_wp2
   go_ret
   exact⟨_,rfl,.inl ⟨rfl,rfl⟩,HB.out⟩
end Go.Proofs.YtjefgmeejhakbabGreatDoor
namespace Go.Proofs.YtjefgmeejhakbabGreatDoor
open Go.RowKit
open Go.Sort (swp swp_left swp_right swp_other size_swp)
theorem pop_get {d:Array Int} {n:Nat} (hn:d.size=n+1) (k:Nat) (hk:k<n):d.pop[k]! = d[k]!:=by
 simp [hk,hn,show k<n+1 by omega]
theorem pop_list {d:Array Int} {n:Nat} (hn:d.size=n+1):d.toList=d.pop.toList++[d[n]!]:=by
 apply List.ext_getElem?
 intro k
 rw [List.getElem?_append]
 by_cases hk:k<n
 ·rw [if_pos (by simp [hn];exact hk)]
  simp [hn,hk]
 ·by_cases e:k=n
  ·subst e;simp [hn]
  ·rw [if_neg (by simp [hn];omega)]
   simp [hn,show ¬ k<n+1 by omega,show k-n≠0 by omega]
set_option maxRecDepth 100000 in
set_option maxHeartbeats 600000 in
theorem heapPop_any (Q:Nat) (v:Value) (d:Array Int) (w:World) (h:QAt w Q v d) (hd:d.size≤10000000) (h0:0<d.size) (hh:HeapP d d.size) :
  Calls Tryz.prog 251 #[.iface 273 (.pointer (some ⟨Q,0,none⟩))] w fun e w'=>∃ u,e=.returned u∧∃ v' d',QAt w' Q v' d'∧HeapP d' d'.size∧(d[0]!::d'.toList).Perm d.toList∧KeptO (qOwn Q v) (qOwn Q v') w w':=by
 obtain⟨n,hn⟩:∃ n,d.size=n+1:=⟨d.size-1,by omega⟩
 obtain⟨g,cap,rfl,hg,hfz,hc⟩:=h.rowAt h0
 have hmL:=mLen h.cell
 have hmS:=mSwap h.cell
 have hmP:=mPop Q
 have c1:=hc 0 h0
 have c2:=hc n (by omega)
 have f1:=hfz 0
 have f2:=hfz n
 have H0:=hid h
 have HH:=hid hh
 have HN:=hid hn
 have hn1:n≤10000000:=by omega
 rw [hn] at hmL hmS
 obtain⟨x,hx⟩:∃ x,d[0]! = x:=⟨_,rfl⟩
 obtain⟨y,hy⟩:∃ y,d[n]! = y:=⟨_,rfl⟩
 have HX:=hid hx
 have HY:=hid hy
 rw [hx] at c1
 rw [hy] at c2
 rw [hx]
 clear h hh hc hfz hn hx hy
 go_enter Tryz.func251,Tryz.ntmps251
 go_wp2_with fail
 refine (qLen (some ⟨g,0,none⟩) (n+1) cap w).mono ?_
 rintro e w1 ⟨rfl,rfl⟩
 go_wp2_with fail
 refine (qSwapI g (n+1) cap 0 n _ _ x y w1 (by omega) (by omega) (by omega) (by omega) c1 c2 f1 f2).mono ?_
 rintro e w2 ⟨rfl,q,rfl⟩
 have hsw:=H0.out.swapped (g:=g) (i:=0) (j:=n) rfl q
 rw [HX.out,HY.out] at hsw
 generalize ((w1.setCell ⟨g,0,none⟩ (.int .i64 y)).setCell ⟨g,n,none⟩ (.int .i64 x)).drewN q=w2 at hsw ⊢
 have HS:=hid hsw
 clear hsw
 go_wp2_with fail
 refine (down_any Q _ (swp d 0 n) n w2 HS.out.1 (by rw [size_swp];omega) (by rw [size_swp];exact HN.out) (down_start (by rw [← HN.out];exact HH.out))).mono ?_
 rintro e w3 ⟨b,rfl,d2,hQ2,hz2,hh2,hl2,hp2,hK2⟩
 have HD:=hid (And.intro hQ2 (And.intro hz2 (And.intro hh2 (And.intro hl2 (And.intro hp2 hK2)))))
 clear hQ2 hz2 hh2 hl2 hp2 hK2
 go_wp2_with fail
 refine (qPop Q _ d2 w3 HD.out.1 (by rw [HD.out.2.1];have:=HN.out;omega) (by rw [HD.out.2.1];omega)).mono ?_
 rintro e w4 ⟨u,rfl,v4,hQ4,hK4⟩
 have H4:=hid (And.intro hQ4 hK4)
 clear hQ4 hK4
 go_wp2
 go_ret
 obtain⟨_,hz2,hh2,hl2,hp2,hK2⟩:=HD.out
 refine⟨u,rfl,v4,d2.pop,H4.out.1,?_,?_,(HS.out.2.trans hK2).trans H4.out.2⟩
 ·have hz:d2.pop.size=n:=by rw [Array.size_pop,hz2];rfl
  rw [hz]
  intro k hk0 hkn
  rw [pop_get hz2 _ (by omega),pop_get hz2 _ hkn]
  exact hh2 k hk0 hkn
 ·have e1:d2[n]! = x:=by
   rw [hl2,Go.Sort.swp_right d 0 n (by rw [HN.out];omega)];exact HX.out
  have e2:=pop_list hz2
  rw [e1] at e2
  have p1:=hp2.trans (swp_perm d 0 n (by rw [HN.out];omega) (by rw [HN.out];omega))
  rw [e2] at p1
  exact (List.perm_append_singleton x d2.pop.toList).symm.trans p1
set_option maxRecDepth 100000 in
set_option maxHeartbeats 1000000 in
theorem least_any (Q:Nat) (v:Value) (d:Array Int) (w:World) (h:QAt w Q v d) (hd:d.size≤10000000) (h0:0<d.size) (hh:HeapP d d.size) :
  Calls Tryz.prog 188 #[.pointer (some ⟨Q,0,none⟩)] w fun e w'=>e=.returned (.int .i64 d[0]!)∧∃ v' d',QAt w' Q v' d'∧HeapP d' d'.size∧(d[0]!::d'.toList).Perm d.toList∧KeptO (qOwn Q v) (qOwn Q v') w w':=by
 obtain⟨g,cap,rfl,hg,hfz,hc⟩:=h.rowAt h0
 have c0:=h.cell
 have c1:=hc 0 h0
 obtain⟨x,hx⟩:∃ x,d[0]! = x:=⟨_,rfl⟩
 have HX:=hid hx
 have hd0:(0:Int)<(d.size:Int):=by omega
 rw [hx] at c1 ⊢
 have hcon:=heapPop_any Q _ d w h hd h0 hh
 rw [hx] at hcon
 have HC:=hid hcon
 clear h hh hc hfz hcon hx
 go_enter Tryz.func188,Tryz.ntmps188
 go_wp2_with fail
 refine HC.out.mono ?_
 rintro e w1 ⟨u,rfl,v',d',hF⟩
 have HF:=hid hF
 clear hF
 go_wp2
 go_ret
 exact⟨rfl,v',d',HF.out⟩
end Go.Proofs.YtjefgmeejhakbabGreatDoor
