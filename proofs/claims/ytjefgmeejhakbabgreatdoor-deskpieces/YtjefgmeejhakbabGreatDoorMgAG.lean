/- EsPut EsInstall EsRead EkAsk BsWhole: put together for a claim. -/
import Derived.Test.YtjefgmeejhakbabGreatDoorEsPutWalks
import Derived.Test.YtjefgmeejhakbabGreatDoorMgAF
import Derived.Test.YtjefgmeejhakbabGreatDoorMgAB
import Derived.Deep.RegionHeld3
import Derived.Deep.QuietTactic
import Derived.BigQuiet
namespace Go.Proofs.YtjefgmeejhakbabGreatDoor
open Go.RowKit
variable {P:Tail}
def putP (t x:Int) (l:List (Int × Int)):List (Int × Int):=if l.getLast?.map Prod.fst=some t then l.dropLast++[(t,x)] else l++[(t,x)]
theorem putP_nil (t x:Int):putP t x []=[(t,x)]:=by simp [putP]
theorem putP_same (t x y:Int) (l:List (Int × Int)):putP t x (l++[(t,y)])=l++[(t,x)]:=by simp [putP]
theorem putP_later (t x u y:Int) (l:List (Int × Int)) (h:u≠t):putP t x (l++[(u,y)])=l++[(u,y)]++[(t,x)]:=by simp [putP,h]
section
variable {w w':World} {base s:Nat} {last:Int} {vs:List Value} {ks:List (List (Int × Int))}
theorem Sto.turn (h:Sto P w base s last vs ks) {k:Nat} {v v':Value} (hv:vs[k]?=some v) (l':List (Int × Int))
  (hs:w'.heap[s]?=some (.cells (P.cells last (vs.set k v')) P.tt (0,0))) (ho:w'.ownsRow base 198 2 v' l'.length (vrow l'))
  (hr:∀ g,InRows vs g→v.ownBlock≠some g→w'.heap[g]?=w.heap[g]?) (hat:v'.ownBlock=v.ownBlock∨∀ g,v'.ownBlock=some g→w.heap.size≤g) :
  Sto P w' base s last (vs.set k v') (ks.set k l'):=by
 have hk:k<vs.length:=(List.getElem?_eq_some_iff.1 hv).1
 refine⟨hs,by simp [h.lv],by simp [h.lk],?_,?_,h.sb⟩
 ·intro j u l hu hl
  by_cases e:j=k
  ·subst e
   rw [List.getElem?_set_self hk] at hu
   rw [List.getElem?_set_self (by have:=h.lv;have:=h.lk;omega)] at hl
   cases hu;cases hl
   exact ho
  ·rw [List.getElem?_set_ne (by omega)] at hu hl
   have ho':=h.own j u l hu hl
   refine⟨ho'.1,?_⟩
   rcases ho'.2 with hn | ⟨g,cap,cur,hg,hb,hgg,r⟩
   ·exact .inl hn
   ·refine .inr ⟨g,cap,cur,hg,hb,(hr g ⟨u,List.mem_of_getElem? hu,by rw [hg];rfl⟩ (fun hx=>e ?_)).trans hgg,r⟩
    exact (h.apart k j v u g hv hu hx (by rw [hg];rfl)).symm
 ·have old:∀ j u g,j≠k→vs[j]?=some u→u.ownBlock=some g→v'.ownBlock=some g→False:=by
   intro j u g hj hu hg hg'
   rcases hat with e | e
   ·rw [e] at hg'
    exact hj (h.apart j k u v g hu hv hg hg')
   ·have h1:=e g hg'
    have h2:=(h.row ⟨u,List.mem_of_getElem? hu,hg⟩).2
    omega
  intro i j a b g ha hb hga hgb
  by_cases ei:i=k
  ·by_cases ej:j=k
   ·omega
   ·subst ei
    rw [List.getElem?_set_self hk] at ha
    rw [List.getElem?_set_ne (by omega)] at hb
    cases ha
    exact (old j b g ej hb hgb hga).elim
  ·by_cases ej:j=k
   ·subst ej
    rw [List.getElem?_set_self hk] at hb
    rw [List.getElem?_set_ne (by omega)] at ha
    cases hb
    exact (old i a g ei ha hga hgb).elim
   ·rw [List.getElem?_set_ne (by omega)] at ha hb
    exact h.apart i j a b g ha hb hga hgb
theorem Kept.turn (_h:Sto P w base s last vs ks) {k:Nat} {v v':Value} (hv:vs[k]?=some v) (hos:w'.os=w.os) (htp:w'.tape=w.tape) (hout:w'.output=w.output) (hsz:w.heap.size≤w'.heap.size)
  (hb:∀ b,b<w.heap.size→b≠s→v.ownBlock≠some b→w'.heap[b]?=w.heap[b]?) (hat:v'.ownBlock=v.ownBlock∨∀ g,v'.ownBlock=some g→w.heap.size≤g) :
  Kept s vs (vs.set k v') w w':=by
 refine⟨hos,htp,hout,hsz,fun b h1 h2 h3=>hb b h1 h2 (fun e=>h3 ⟨v,List.mem_of_getElem? hv,e⟩),?_⟩
 rintro g ⟨u,hu,hg⟩
 obtain⟨j,hj,e⟩:=List.mem_iff_getElem.1 hu
 by_cases ej:j=k
 ·subst ej
  rw [List.getElem_set_self] at e
  subst e
  rcases hat with e | e
  ·exact .inl ⟨v,List.mem_of_getElem? hv,by rw [← e];exact hg⟩
  ·exact .inr (e g hg)
 ·rw [List.getElem_set_ne (by omega)] at e
  exact .inl ⟨u,by rw [← e];exact List.getElem_mem _,hg⟩
theorem ownBlock_eq (g n cap:Nat):(Value.slice (some ⟨g,0,none⟩) n cap).ownBlock=some g:=rfl
theorem put_grown (h:Sto P w base s last vs ks) {k:Nat} {v:Value} (hv:vs[k]?=some v) (l':List (Int × Int)) (gg cap n:Nat) (w1:World) (hn:n=l'.length)
  (ho:w1.ownsRow base 198 2 (.slice (some ⟨gg,0,none⟩) n cap) n (vrow l')) (hg:w.grownBy w1 v.ownBlock) (hat:v.ownBlock=some gg∨w.heap.size≤gg) :
  Sto P (w1.setCell ⟨s,1+k,none⟩ (.slice (some ⟨gg,0,none⟩) n cap)) base s last (vs.set k (.slice (some ⟨gg,0,none⟩) n cap)) (ks.set k l') ∧
   Kept s vs (vs.set k (.slice (some ⟨gg,0,none⟩) n cap)) w (w1.setCell ⟨s,1+k,none⟩ (.slice (some ⟨gg,0,none⟩) n cap)):=by
 subst hn
 have hsr:some s≠v.ownBlock:=fun e=>by
  have:=(h.row ⟨v,List.mem_of_getElem? hv,e.symm⟩).1
  have:=h.sb
  omega
 have hs1:w1.heap[s]?=some (.cells (P.cells last vs) P.tt (0,0)):=(hg.block s h.lt hsr).trans h.blk
 have hat':(Value.slice (some ⟨gg,0,none⟩) l'.length cap).ownBlock=v.ownBlock∨∀ g,(Value.slice (some ⟨gg,0,none⟩) l'.length cap).ownBlock=some g→w.heap.size≤g:=by
  rcases hat with e | e
  ·exact .inl e.symm
  ·exact .inr (fun g hg=>by rw [ownBlock_eq] at hg;cases hg;exact e)
 have hbb:=(ho.lt gg rfl).1
 have hsb:=h.sb
 refine⟨h.turn hv l' ?_ ?_ ?_ hat',Kept.turn h hv hg.os hg.tape hg.output (by have:=hg.size;simpa using this) ?_ hat'⟩
 ·rw [heap_setCell_same w1 s (1+k) _ P.tt _ hs1,P.setk last (List.getElem?_eq_some_iff.1 hv).1]
 ·refine⟨ho.1,?_⟩
  rcases ho.2 with hn | ⟨g,cp,cur,e,hb,hgg,r⟩
  ·exact .inl hn
  ·refine .inr ⟨g,cp,cur,e,hb,?_,r⟩
   rw [heap_setCell_other _ _ _ _ (show g≠s by omega)]
   exact hgg
 ·intro g hr hne
  have:=h.row hr
  rw [heap_setCell_other _ _ _ _ (show g≠s by omega)]
  exact hg.block g this.2 (fun e=>hne e.symm)
 ·intro b hb hbs hne
  rw [heap_setCell_other _ _ _ _ hbs]
  exact hg.block b hb (fun e=>hne e.symm)
end
set_option maxHeartbeats 1000000 in
theorem put_any (base s:Nat) (last:Int) (vs:List Value) (ks:List (List (Int × Int))) (k:Nat) (l:List (Int × Int)) (t x:Int) (w:World) (h:Sto P w base s last vs ks) (hbase:base≤w.heap.size)
  (hl:ks[k]?=some l) (hlen:l.length<1000000) :
  Calls Tryz.prog 311 #[.pointer (some ⟨s,0,none⟩),.int .i64 t,.agg #[.int .i64 (k:Int),.int .i64 x]] w fun e w'=>e=.returned (.tuple #[]) ∧
   ∃ vs',Sto P w' base s last vs' (ks.set k (putP t x l))∧Kept s vs vs' w w':=by
 have hk:k<10:=by have:=(List.getElem?_eq_some_iff.1 hl).1;have:=h.lk;omega
 obtain⟨v,hv⟩:∃ v,vs[k]?=some v:=⟨vs[k]'(by have:=h.lv;omega),List.getElem?_eq_getElem _⟩
 have ho:=h.own k v l hv hl
 have hsr:some s≠v.ownBlock:=fun e=>by
  have:=(h.row ⟨v,List.mem_of_getElem? hv,e.symm⟩).1
  have:=h.sb
  omega
 rcases List.eq_nil_or_concat l with rfl | ⟨l0,⟨u,y⟩,rfl⟩
 ·obtain⟨ad,cap,rfl⟩:∃ ad cap,v=.slice ad 0 cap:=by
   rcases ho.2 with ⟨e,_⟩ | ⟨g,cap,cur,e,_⟩
   ·exact⟨none,0,e⟩
   ·exact⟨_,_,e⟩
  refine (put_first s k cap base ad t x (vrow []) w hk (h.cell hv) (h.free _) hsr (fun e=>?_) ho hbase).mono ?_
  ·have:=(h.row ⟨_,List.mem_of_getElem? hv,e.symm⟩).2
   omega
  ·rintro e w' ⟨rfl,gg,cap',w1,rfl,hown,hg,hat,_⟩
   rw [putP_nil]
   exact⟨rfl,_,put_grown h hv [(t,x)] gg cap' 1 w1 rfl hown hg hat⟩
 ·simp only [List.concat_eq_append] at *
  obtain⟨g,cap,cur,rfl,hgb,hgg,hcap,hml,hsz,htake⟩:∃ g cap cur,v=.slice (some ⟨g,0,none⟩) (l0.length+1) cap∧base≤g∧w.heap[g]?=some (.cells cur 198 (0,0))∧l0.length+1≤cap∧cap≤maxLen∧cur.size=cap*2 ∧
    cur.toList.take ((l0.length+1)*2)=vrow (l0++[(u,y)]):=by
   rcases ho.2 with ⟨_,e⟩ | ⟨g,cap,cur,e,h1,h2,h3,h4,h5,h6⟩
   ·simp at e
   ·simp only [List.length_append,List.length_cons,List.length_nil,Nat.zero_add] at e h3 h6
    exact⟨g,cap,cur,e,h1,h2,h3,h4,h5,h6⟩
  have hcs:=ho.cells (g:=g) rfl
  have hget:=vrow_get (l0++[(u,y)]) l0.length u y (by simp)
  have c1:=hcs _ _ hget.1
  have c2:=hcs _ _ hget.2
  rw [addr_add] at c1 c2
  have hm:l0.length<1000000:=by simp at hlen;omega
  by_cases hut:u=t
  ·subst hut
   rw [putP_same]
   refine (put_same s k g l0.length cap u x y w hk hm (h.cell hv) c1 c2 (frozen_of_row w g _ cur 198 hgg)).mono ?_
   rintro e w' ⟨rfl,n,rfl⟩
   have hsg:s≠g:=by have:=h.sb;omega
   have hW:((w.alloc (.cells #[.int .i64 (k:Int),.int .i64 x] 122)).drewN n).heap[g]?=some (.cells cur 198 (0,0)):=(Below.heap_alloc w _ g (Array.getElem?_eq_some_iff.1 hgg).1).trans hgg
   refine⟨rfl,vs,?_⟩
   have e1:vs.set k (.slice (some ⟨g,0,none⟩) (l0.length+1) cap)=vs:=by
    apply List.ext_getElem?
    intro j
    by_cases ej:j=k
    ·subst ej;rw [List.getElem?_set_self (List.getElem?_eq_some_iff.1 hv).1,hv]
    ·rw [List.getElem?_set_ne (by omega)]
   have hold:∀ b,b<w.heap.size→b≠g→(((w.alloc (.cells #[.int .i64 (k:Int),.int .i64 x] 122)).drewN n).setCell ⟨g,l0.length*2+1,none⟩ (.int .i64 x)).heap[b]?=w.heap[b]?:=fun b hb hne =>
    (heap_setCell_other _ _ _ _ hne).trans (Below.heap_alloc w _ b hb)
   have r1:=h.turn (w':=((w.alloc (.cells #[.int .i64 (k:Int),.int .i64 x] 122)).drewN n).setCell ⟨g,l0.length*2+1,none⟩ (.int .i64 x)) hv (l0++[(u,x)]) (v':=.slice (some ⟨g,0,none⟩) (l0.length+1) cap)
    (by rw [e1];exact (hold s h.lt hsg).trans h.blk)
    ⟨by rw [vrow_length],.inr ⟨g,cap,_,by simp,hgb,heap_setCell_same _ g _ cur 198 _ hW,by simpa using hcap,hml,by simpa using hsz,by
     have e2:vrow (l0++[(u,x)])=(vrow (l0++[(u,y)])).set (l0.length*2+1) (.int .i64 x):=by
      rw [vrow_append,vrow_append,← vrow_length l0,List.set_append_right _ _ (by omega)]
      simp [vrow]
     rw [e2,← htake]
     simp [List.take_set]⟩⟩
    (fun b hb hne=>hold b (h.row hb).2 (fun e=>hne (by rw [e];rfl))) (.inl rfl)
   rw [e1] at r1
   refine⟨r1,?_⟩
   have r2:=Kept.turn (w':=((w.alloc (.cells #[.int .i64 (k:Int),.int .i64 x] 122)).drewN n).setCell ⟨g,l0.length*2+1,none⟩ (.int .i64 x)) (v':=.slice (some ⟨g,0,none⟩) (l0.length+1) cap) h hv rfl rfl rfl (by simp)
    (fun b hb hbs hne=>hold b hb (fun e=>hne (by rw [e];rfl))) (.inl rfl)
   rw [e1] at r2
   exact r2
  ·rw [putP_later _ _ _ _ _ hut]
   refine (put_later s k g l0.length cap base t x u (vrow (l0++[(u,y)])) w hk hm (h.cell hv) c1 (by simpa using hut) (h.free _) (by have:=h.sb;omega) (by simpa using ho) hbase).mono ?_
   rintro e w' ⟨rfl,gg,cap',w1,rfl,hown,hg,hat,_⟩
   refine⟨rfl,_,put_grown h hv (l0++[(u,y)]++[(t,x)]) gg cap' (l0.length+2) w1 (by simp) (by rw [vrow_append];exact hown) hg (hat.elim (fun e=>.inl (by rw [e];rfl)) .inr)⟩
end Go.Proofs.YtjefgmeejhakbabGreatDoor
namespace Go.Proofs.YtjefgmeejhakbabGreatDoor
open Go.RowKit
variable {P:Tail}
def WRow (W:World) (b off:Nat) (ws:List (Int × Int)):Prop :=
 ∀ j a v,ws[j]?=some (a,v)→W.cell? ⟨b,off+j*2,none⟩=some (.int .i64 a)∧W.cell? ⟨b,off+j*2+1,none⟩=some (.int .i64 v)
theorem WRow.same {A B:World} {b off:Nat} {ws:List (Int × Int)} (h:WRow A b off ws) (hb:B.heap[b]?=A.heap[b]?):WRow B b off ws :=
 fun j a v e=>⟨(World.cell?_of_block (a:=⟨b,off+j*2,none⟩) hb).trans (h j a v e).1,(World.cell?_of_block (a:=⟨b,off+j*2+1,none⟩) hb).trans (h j a v e).2⟩
def instP (t:Int) (ws:List (Int × Int)) (ks:List (List (Int × Int))):List (List (Int × Int)) :=
 ws.foldl (fun ks p=>ks.set p.1.toNat (putP t p.2 (ks[p.1.toNat]?.getD []))) ks
theorem instP_snoc (t:Int) (ws:List (Int × Int)) (ks:List (List (Int × Int))) (a v:Int):instP t (ws++[(a,v)]) ks=(instP t ws ks).set a.toNat (putP t v ((instP t ws ks)[a.toNat]?.getD [])):=by
 simp [instP]
theorem putP_length (t x:Int) (l:List (Int × Int)):(putP t x l).length≤l.length+1:=by
 unfold putP
 split
 ·simp
 ·simp
theorem instP_bound (t:Int):∀ (ws:List (Int × Int)) (ks:List (List (Int × Int))) (N:Nat),(∀ l∈ks,l.length≤N)→∀ l∈instP t ws ks,l.length≤N+ws.length
 | [],ks,N,h,l,hl=>by simpa using h l (by simpa [instP] using hl)
 | (a,v)::r,ks,N,h,l,hl=>by
  have:=instP_bound t r (ks.set a.toNat (putP t v (ks[a.toNat]?.getD []))) (N+1) (fun m hm=>by
   rcases List.mem_or_eq_of_mem_set hm with hm | rfl
   ·have:=h m hm;omega
   ·have h1:=putP_length t v (ks[a.toNat]?.getD [])
    have h2:(ks[a.toNat]?.getD []).length≤N:=by
     cases e:ks[a.toNat]? with
     | none=>simp
     | some m=>simpa using h m (List.mem_of_getElem? e)
    omega) l (by simpa [instP] using hl)
  simp
  omega
def Fine (p:Int × Int):Prop:=keyB p.1=true∧-1099511627776≤p.2∧p.2≤1099511627776
theorem keyB_nat {k:Int} (h:keyB k=true):∃ n:Nat,k=n∧n<10:=by
 simp [keyB] at h
 exact⟨k.toNat,by omega,by omega⟩
section
variable {w w':World} {base s:Nat} {last:Int} {vs:List Value} {ks:List (List (Int × Int))}
theorem Sto.setLast (h:Sto P w base s last vs ks) (t:Int):Sto P (w.setCell ⟨s,0,none⟩ (.int .i64 t)) base s t vs ks∧Kept s vs vs w (w.setCell ⟨s,0,none⟩ (.int .i64 t)):=by
 refine⟨⟨?_,h.lv,h.lk,?_,h.apart,h.sb⟩,⟨rfl,rfl,rfl,by simp,fun b _ hs _=>heap_setCell_other _ _ _ _ hs,fun _ hg=>.inl hg⟩⟩
 ·rw [heap_setCell_same w s 0 _ P.tt _ h.blk,P.set0]
 ·intro k v l hv hl
  have ho:=h.own k v l hv hl
  refine⟨ho.1,?_⟩
  rcases ho.2 with hn | ⟨g,cap,cur,e,hb,hgg,r⟩
  ·exact .inl hn
  ·refine .inr ⟨g,cap,cur,e,hb,?_,r⟩
   rw [heap_setCell_other _ _ _ _ (show g≠s by have:=h.sb;omega)]
   exact hgg
end
set_option maxRecDepth 100000 in
set_option maxHeartbeats 2000000 in
theorem install_good (base s b off cap:Nat) (last t:Int) (vs:List Value) (ks:List (List (Int × Int))) (ws:List (Int × Int)) (w:World) (h:Sto P w base s last vs ks) (hbase:base≤w.heap.size)
  (hws:WRow w b off ws) (hbr:¬ InRows vs b) (hbs:b≠s) (hbl:b<w.heap.size) (hfine:∀ p∈ws,Fine p) (h1:last<t) (h2:t≤1099511627776) (hn:ws.length≤100000) (hks:∀ l∈ks,l.length≤100000) :
  Calls Tryz.prog 258 #[.pointer (some ⟨s,0,none⟩),.int .i64 t,.slice (some ⟨b,off,none⟩) ws.length cap] w fun e w'=>e=.returned .nilIface ∧
   ∃ vs',Sto P w' base s t vs' (instP t ws ks)∧Kept s vs vs' w w':=by
 have hc0:=h.cellLast
 have d1:decide (t≤last)=false:=by simp;omega
 have d2:decide (1099511627776<t)=false:=by simp;omega
 go_enter Tryz.func258,Tryz.ntmps258
 go_wp2
 go_loopw [25] (fun i wr=>∃ k:Nat,k≤ws.length∧i=.int .i64 k∧Below w.heap.size w wr) (fun i _=>ws.length-(intOf i).toNat)
 case atStart=>exact⟨0,Nat.zero_le _,rfl,Below.refl _ _⟩
 case round =>
  obtain⟨k,hk,rfl,hB⟩:=hrel
  by_cases hlt:k<ws.length
  ·obtain⟨⟨a,v⟩,hav⟩:∃ p,ws[k]?=some p:=⟨ws[k],List.getElem?_eq_getElem hlt⟩
   obtain⟨hf1,hf2,hf3⟩:=hfine (a,v) (List.mem_of_getElem? hav)
   obtain⟨ca,cv⟩:=(hws.same (hB.block b hbl)) k a v hav
   have hk0:(0:Int)≤(k:Int):=by omega
   have hk1:(k:Int)<(ws.length:Int):=by omega
   simp only at hf1 hf2 hf3
   clear hav
   go_wp2_with (go_at_call 310;refine (wrong_good _ _ _ hf1 hf2 hf3).mono ?_;rintro e w' ⟨rfl,hb1⟩)
   go_roundw
   case rel=>exact⟨k+1,by omega,by go_num,hB.trans (((Below.refl _ _).alloc hB.size _).trans (hb1.mono (by simp;have:=hB.size;omega)))⟩
   case measure=>simp [intOf];omega
  ·have hS:=h.below hB
   have hwr:=hws.same (hB.block b hbl)
   have hK1:Kept s vs vs w wr:=Kept.of_below hB
   clear hc0
   go_wp2
   go_loopw [42] (fun i wz=>∃ (j:Nat) (us:List Value),j≤ws.length∧i=.int .i64 j∧Sto P wz base s last us (instP t (ws.take j) ks)∧Kept s vs us w wz) (fun i _=>ws.length-(intOf i).toNat)
   case atStart=>exact⟨0,vs,Nat.zero_le _,rfl,by simpa [instP] using hS,hK1⟩
   case round =>
    clear hS hwr hK1 hB hk hlt
    obtain⟨j,us,hj,rfl,hSz,hKz⟩:=hrel
    by_cases hlt:j<ws.length
    ·obtain⟨⟨a,v⟩,hav⟩:∃ p,ws[j]?=some p:=⟨ws[j],List.getElem?_eq_getElem hlt⟩
     obtain⟨hf1,-,-⟩:=hfine (a,v) (List.mem_of_getElem? hav)
     obtain⟨a,rfl,ha⟩:=keyB_nat hf1
     obtain⟨ca,cv⟩:=(hws.same (hKz.block b hbl hbs hbr)) j a v hav
     have hk0:(0:Int)≤(j:Int):=by omega
     have hk1:(j:Int)<(ws.length:Int):=by omega
     have hst:Hid (instP t (ws.take (j+1)) ks=(instP t (ws.take j) ks).set a (putP t v ((instP t (ws.take j) ks)[a]?.getD []))):=by
      have e:ws.take (j+1)=ws.take j++[((a:Int),v)]:=by
       rw [List.take_add_one,hav];rfl
      show _=_
      rw [e,instP_snoc]
      simp
     obtain⟨l,hl⟩:∃ l,(instP t (ws.take j) ks)[a]?=some l:=⟨(instP t (ws.take j) ks)[a]'(by rw [hSz.lk];exact ha),List.getElem?_eq_getElem _⟩
     have hll:l.length<1000000-1:=by
      have h1:=instP_bound t (ws.take j) ks 100000 hks l (List.mem_of_getElem? hl)
      have h2:(ws.take j).length≤100000:=by simp;omega
      omega
     have hsz:=hKz.size
     have hbz:base≤wr.heap.size+1:=by omega
     clear hav hf1
     go_wp2_with fail
     have hal:Below wr.heap.size wr (wr.alloc (.cells #[.int .i64 (a:Int),.int .i64 v] 122)):=(Below.refl _ _).alloc (Nat.le_refl _) _
     refine (put_any base s last us (instP t (ws.take j) ks) a l t v _ (hSz.below hal) (by simp;omega) hl (by omega)).mono ?_
     rintro e w' ⟨rfl,us',hS',hK'⟩
     go_wp2
     go_roundw
     case rel=>exact⟨j+1,us',by omega,by go_num,by rw [hst.out,hl];exact hS',hKz.trans ((Kept.of_below hal).trans hK')⟩
     case measure=>simp [intOf];omega
    ·have e:ws.take j=ws:=List.take_of_length_le (by omega)
     rw [e] at hSz
     have cz:=hSz.cellLast
     have fz:=hSz.free 0
     clear e
     go_wp2
     go_ret
     exact⟨rfl,us,(hSz.setLast t).1,hKz.trans (hSz.setLast t).2⟩
end Go.Proofs.YtjefgmeejhakbabGreatDoor
namespace Go.Proofs.YtjefgmeejhakbabGreatDoor
open Go.RowKit
variable {P:Tail}
theorem lat_lt (l:List (Int × Int)) (t:Int):∀ m,latN l t m<m∧-1≤latN l t m
 | 0=>by simp [latN]
 | m+1=>by
  have:=lat_lt l t m
  simp only [latN]
  split<;>omega
theorem Vers.mono {n₀ n₁:Nat} {W:World} {sv:Value} {zs:List (Int × Int)} (h:Vers n₀ W sv zs) (hn:n₀≤n₁):Vers n₁ W sv zs:=by
 rcases h with h | ⟨b,cap,e,hb,hc⟩
 ·exact .inl h
 ·exact .inr ⟨b,cap,e,Nat.lt_of_lt_of_le hb hn,hc⟩
set_option maxRecDepth 100000 in
set_option maxHeartbeats 1000000 in
theorem read_some (base s k:Nat) (last t:Int) (vs:List Value) (ks:List (List (Int × Int))) (l:List (Int × Int)) (w:World) (h:Sto P w base s last vs ks) (hl:ks[k]?=some l) (hlen:l.length≤1000000) (m:Nat) (hm:lat l t=m) (a x:Int) (hax:l[m]?=some (a,x)) :
  Calls Tryz.prog 195 #[.pointer (some ⟨s,0,none⟩),.int .i64 (k:Int),.int .i64 t] w fun e w'=>e=.returned (.tuple #[.agg #[.int .i64 a,.int .i64 x],.nilIface])∧Below w.heap.size w w':=by
 have hk:k<10:=by have:=(List.getElem?_eq_some_iff.1 hl).1;have:=h.lk;omega
 obtain⟨v,hv⟩:∃ v,vs[k]?=some v:=⟨vs[k]'(by have:=h.lv;omega),List.getElem?_eq_getElem _⟩
 have ho:=h.own k v l hv hl
 have hc:=h.cell hv
 have hvers:=vers_of_owns ho
 obtain⟨g,cap,rfl,hg,hrow⟩:∃ g cap,v=.slice (some ⟨g,0,none⟩) l.length cap∧g<w.heap.size∧Row w g l:=by
  rcases hvers with ⟨_,e⟩ | ⟨g,cap,e,h1,h2⟩
  ·subst e;simp at hax
  ·exact⟨g,cap,e,h1,h2⟩
 have hs:=h.lt
 have hml:=(List.getElem?_eq_some_iff.1 hax).1
 have hkb:keyB (k:Int)=true:=by simp [keyB];omega
 have hk0:(0:Int)≤(k:Int):=by omega
 have hk1:(k:Int)<10:=by omega
 have hm0:(0:Int)≤(m:Int):=by omega
 have hm1:(m:Int)<(l.length:Int):=by omega
 have HM:Hid (lat l t=m):=hm
 clear hm ho hv hl
 go_enter Tryz.func195,Tryz.ntmps195
 go_wp2_with (first | (go_at_call 259;refine (isKey_any _ _).mono ?_;rintro e w' ⟨rfl,rfl⟩))
 have hal:Below w.heap.size w (w.alloc (.cells #[.int .i64 0,.int .i64 0] 198)):=(Below.refl _ _).alloc (Nat.le_refl _) _
 have hR1:(w.alloc (.cells #[.int .i64 0,.int .i64 0] 198)).heap[w.heap.size]?=some (.cells #[.int .i64 0,.int .i64 0] 198 (0,0)):=World.alloc_heap_new w _
 refine (latest_any _ _ _ t l hlen _ (.inr ⟨g,cap,rfl,by simp;omega,hrow.below hal hg⟩)).mono ?_
 rintro e w1 ⟨rfl,hb1⟩
 rw [HM.out]
 have hbw:Below w.heap.size w w1:=hal.trans (hb1.mono (by simp))
 have hR2:w1.heap[w.heap.size]?=some (.cells #[.int .i64 0,.int .i64 0] 198 (0,0)):=(hb1.block _ (by simp)).trans hR1
 have c0:w1.cell? ⟨w.heap.size,0,none⟩=some (.int .i64 0):=(cell_of_row _ _ 0 _ 198 (0,0) hR2).trans rfl
 have c1:w1.cell? ⟨w.heap.size,1,none⟩=some (.int .i64 0):=(cell_of_row _ _ 1 _ 198 (0,0) hR2).trans rfl
 have f0:=frozen_of_row w1 w.heap.size 0 _ 198 hR2
 have f1:=frozen_of_row w1 w.heap.size 1 _ 198 hR2
 have hc1:=(hbw.cell (p:=⟨s,1+k,none⟩) hs).trans hc
 obtain⟨r1,r2⟩:=(hrow.below hbw hg) m a x hax
 have HB:Hid (Below w.heap.size w w1):=hbw
 have HR:Hid (w1.heap[w.heap.size]?=some (.cells #[.int .i64 0,.int .i64 0] 198 (0,0))):=hR2
 clear hR1 hal hb1 hbw hR2 hc hax hrow hvers
 go_wp2
 exact bodyPost_ret (v:=.tuple #[.agg #[.int .i64 a,.int .i64 x],.nilIface]) (by simp [results,Tryz.results195,go_sem,c0,c1]) rfl ⟨rfl,(HB.out.setCell (p:=⟨w.heap.size,0,none⟩) (Nat.le_refl _) _).setCell (p:=⟨w.heap.size,1,none⟩) (Nat.le_refl _) _⟩
set_option maxRecDepth 100000 in
set_option maxHeartbeats 1000000 in
theorem read_none (base s k:Nat) (last t:Int) (vs:List Value) (ks:List (List (Int × Int))) (l:List (Int × Int)) (w:World) (h:Sto P w base s last vs ks) (hl:ks[k]?=some l) (hlen:l.length≤1000000) (hm:lat l t=-1) :
  Calls Tryz.prog 195 #[.pointer (some ⟨s,0,none⟩),.int .i64 (k:Int),.int .i64 t] w fun e w'=>e=.returned (.tuple #[.agg #[.int .i64 0,.int .i64 0],.iface 33 (.int .i64 8)])∧Below w.heap.size w w':=by
 have hk:k<10:=by have:=(List.getElem?_eq_some_iff.1 hl).1;have:=h.lk;omega
 obtain⟨v,hv⟩:∃ v,vs[k]?=some v:=⟨vs[k]'(by have:=h.lv;omega),List.getElem?_eq_getElem _⟩
 have ho:=h.own k v l hv hl
 have hc:=h.cell hv
 have hvers:=vers_of_owns ho
 obtain⟨ad,n,cap,rfl⟩:∃ ad n cap,v=.slice ad n cap:=by
  rcases hvers with ⟨e,_⟩ | ⟨g,cap,e,h1,h2⟩
  ·exact⟨_,_,_,e⟩
  ·exact⟨_,_,_,e⟩
 have hs:=h.lt
 have hkb:keyB (k:Int)=true:=by simp [keyB];omega
 have hk0:(0:Int)≤(k:Int):=by omega
 have hk1:(k:Int)<10:=by omega
 have HM:Hid (lat l t=-1):=hm
 clear hm ho hv hl
 go_enter Tryz.func195,Tryz.ntmps195
 go_wp2_with (first | (go_at_call 259;refine (isKey_any _ _).mono ?_;rintro e w' ⟨rfl,rfl⟩))
 have hal:Below w.heap.size w (w.alloc (.cells #[.int .i64 0,.int .i64 0] 198)):=(Below.refl _ _).alloc (Nat.le_refl _) _
 have hR1:(w.alloc (.cells #[.int .i64 0,.int .i64 0] 198)).heap[w.heap.size]?=some (.cells #[.int .i64 0,.int .i64 0] 198 (0,0)):=World.alloc_heap_new w _
 refine (latest_any _ _ _ t l hlen _ ((hvers.below hal).mono (by simp))).mono ?_
 rintro e w1 ⟨rfl,hb1⟩
 rw [HM.out]
 have hbw:Below w.heap.size w w1:=hal.trans (hb1.mono (by simp))
 have hR2:w1.heap[w.heap.size]?=some (.cells #[.int .i64 0,.int .i64 0] 198 (0,0)):=(hb1.block _ (by simp)).trans hR1
 have c0:w1.cell? ⟨w.heap.size,0,none⟩=some (.int .i64 0):=(cell_of_row _ _ 0 _ 198 (0,0) hR2).trans rfl
 have c1:w1.cell? ⟨w.heap.size,1,none⟩=some (.int .i64 0):=(cell_of_row _ _ 1 _ 198 (0,0) hR2).trans rfl
 have f0:=frozen_of_row w1 w.heap.size 0 _ 198 hR2
 have f1:=frozen_of_row w1 w.heap.size 1 _ 198 hR2
 have HB:Hid (Below w.heap.size w w1):=hbw
 clear hR1 hal hb1 hbw hR2 hc hvers
 go_wp2
 exact bodyPost_ret (v:=.tuple #[.agg #[.int .i64 0,.int .i64 0],.iface 33 (.int .i64 8)]) (by simp [results,Tryz.results195,go_sem,c0,c1]) rfl ⟨rfl,(HB.out.setCell (p:=⟨w.heap.size,0,none⟩) (Nat.le_refl _) _).setCell (p:=⟨w.heap.size,1,none⟩) (Nat.le_refl _) _⟩
set_option maxRecDepth 100000 in
set_option maxHeartbeats 1000000 in
theorem read_range (s:Nat) (k t:Int) (w:World) (hk:keyB k=false) :
  Calls Tryz.prog 195 #[.pointer (some ⟨s,0,none⟩),.int .i64 k,.int .i64 t] w fun e w'=>e=.returned (.tuple #[.agg #[.int .i64 0,.int .i64 0],.iface 33 (.int .i64 2)])∧Below w.heap.size w w':=by
 go_enter Tryz.func195,Tryz.ntmps195
 go_wp2_with (first | (go_at_call 259;refine (isKey_any _ _).mono ?_;rintro e w' ⟨rfl,rfl⟩))
 exact bodyPost_ret (v:=.tuple #[.agg #[.int .i64 0,.int .i64 0],.iface 33 (.int .i64 2)]) (by simp [results,Tryz.results195,go_sem]) rfl ⟨rfl,(Below.refl _ _).alloc (Nat.le_refl _) _⟩
set_option maxHeartbeats 1000000 in
theorem last_any (base s:Nat) (last:Int) (vs:List Value) (ks:List (List (Int × Int))) (w:World) (h:Sto P w base s last vs ks) :
  Calls Tryz.prog 173 #[.pointer (some ⟨s,0,none⟩)] w fun e w'=>e=.returned (.int .i64 last)∧w'=w:=by
 have hc:=h.cellLast
 go_enter Tryz.func173,Tryz.ntmps173
 go_wp2
 go_ret
 exact⟨rfl,rfl⟩
end Go.Proofs.YtjefgmeejhakbabGreatDoor
namespace Go.Proofs.YtjefgmeejhakbabGreatDoor
open Go.RowKit
variable {C:Emb}
theorem waits_mem {T T':Tab} {x:Int} (h:∀ k,x∈(T k).tail↔x∈(T' k).tail):waitsP T x=waitsP T' x:=by
 unfold waitsP
 have:(fun k=>decide (x∈(T k).tail))=fun k=>decide (x∈(T' k).tail):=by funext k;exact decide_eq_decide.2 (h k)
 rw [this]
def TabAt (C:Emb) (w:World) (s N:Nat) (M:LkM) (T:Tab):Prop:=∃ h wa ln,Raw C w s N M h wa ln∧Rep T h wa ln
theorem TabAt.same {w w':World} {s N:Nat} {M:LkM} {T:Tab} (h:TabAt C w s N M T) (hs:∀ b,M.own s b→w'.heap[b]?=w.heap[b]?):TabAt C w' s N M T:=by
 obtain⟨a,b,c,r,R⟩:=h
 exact⟨a,b,c,r.same hs,R⟩
theorem TabAt.mono {w:World} {s N N':Nat} {M:LkM} {T:Tab} (h:TabAt C w s N M T) (hN:N≤N'):TabAt C w s N' M T:=by
 obtain⟨a,b,c,r,R⟩:=h
 exact⟨a,b,c,r.mono hN,R⟩
section
variable {T:Tab} {h wa:Int→Option Int} {ln:Int→List Int}
theorem Rep.hold (R:Rep T h wa ln) {k tx:Int} (hk:T k=[]):Rep (updT T k [tx]) (updT h k (some tx)) wa ln:=by
 have ht:∀ j,(updT T k [tx] j).tail=(T j).tail:=by
  intro j
  by_cases e:j=k
  ·subst e;rw [updT_same,hk];rfl
  ·rw [updT_other _ _ e]
 refine⟨fun j=>?_,fun x=>?_,fun j=>?_⟩
 ·by_cases e:j=k
  ·subst e;rw [updT_same,updT_same];rfl
  ·rw [updT_other _ _ e,updT_other _ _ e];exact R.h j
 ·rw [waits_mem (T:=updT T k [tx]) (T':=T) (fun j=>by rw [ht j])];exact R.wa x
 ·rw [ht j];exact R.ln j
theorem Rep.wait (R:Rep T h wa ln) {k tx:Int} (hk:T k≠[]) (hk0:0≤k) (hg:Tidy0 (updT T k (T k++[tx]))):Rep (updT T k (T k++[tx])) h (updT wa tx (some k)) (updT ln k (ln k++[tx])):=by
 obtain⟨a,l,hal⟩:∃ a l,T k=a::l:=by
  cases hT:T k with
  | nil=>exact (hk hT).elim
  | cons a l=>exact⟨a,l,rfl⟩
 have ht:(T k++[tx]).tail=(T k).tail++[tx]:=by rw [hal];rfl
 refine⟨fun j=>?_,fun x=>?_,fun j=>?_⟩
 ·by_cases e:j=k
  ·subst e;rw [updT_same,R.h j,hal];rfl
  ·rw [updT_other _ _ e];exact R.h j
 ·by_cases e:x=tx
  ·subst e
   have:waitsP (updT T k (T k++[x])) x=k:=waits_of_mem hg (by rw [updT_same,ht];simp)
   rw [this,updT_same]
   refine⟨rfl,?_⟩
   constructor
   ·intro h;cases h
   ·intro h;omega
  ·rw [updT_other _ _ e,waits_mem (T:=updT T k (T k++[tx])) (T':=T) (fun j=>?_)]
   ·exact R.wa x
   ·by_cases ej:j=k
    ·subst ej;rw [updT_same,ht];simp [e]
    ·rw [updT_other _ _ ej]
 ·by_cases e:j=k
  ·subst e;rw [updT_same,updT_same,ht,R.ln j]
  ·rw [updT_other _ _ e,updT_other _ _ e];exact R.ln j
end
def errV (c:Int):Value:=if c=0 then .nilIface else .iface 33 (.int .i64 c)
def AskPost (C:Emb) (s N:Nat) (M:LkM) (p:Bool × Int × Tab) (w:World) (e:Ending) (w':World):Prop :=
 e=.returned (.tuple #[.bool p.1,errV p.2.1])∧∃ M',TabAt C w' s (N+2) M' p.2.2∧KeptO (M.own s) (M'.own s) w w'
section
variable {w:World} {s N:Nat} {M:LkM} {T:Tab}
theorem askPost_same {c:Int} {b:Bool} {ev:Value} (h:TabAt C w s N M T) (he:ev=errV c):AskPost C s N M (b,c,T) w (.returned (.tuple #[.bool b,ev])) w :=
 ⟨by rw [he],M,h.mono (by omega),KeptO.refl _ _⟩
end
set_option maxRecDepth 100000 in
set_option maxHeartbeats 4000000 in
theorem ask_range (s:Nat) (tx key:Int) (w:World) (hb:¬ (0≤key∧key<10∧1≤tx)) :
  Calls Tryz.prog 202 #[.pointer (some ⟨s,C.o,none⟩),.int .i64 tx,.int .i64 key] w fun e w'=>e=.returned (.tuple #[.bool false,.iface 33 (.int .i64 2)])∧w'=w:=by
 by_cases h1:key<0
 ·clear hb
  go_enter Tryz.func202,Tryz.ntmps202
  go_wp2
  go_ret2
  exact⟨rfl,rfl⟩
 ·by_cases h2:10≤key
  ·clear hb
   go_enter Tryz.func202,Tryz.ntmps202
   go_wp2
   go_ret2
   exact⟨rfl,rfl⟩
  ·have h3:tx<1:=by omega
   clear hb
   go_enter Tryz.func202,Tryz.ntmps202
   go_wp2
   go_ret2
   exact⟨rfl,rfl⟩
set_option maxRecDepth 100000 in
set_option maxHeartbeats 4000000 in
theorem ask_any (s N:Nat) (M:LkM) (T:Tab) (q:Int→Nat) (tx key:Int) (w:World) (hT:TabAt C w s N M T) (hG:Good T) (hq:Ranked T q) (hx:I64 tx) (hky:I64 key) (hN:N≤100000) :
  Calls Tryz.prog 202 #[.pointer (some ⟨s,C.o,none⟩),.int .i64 tx,.int .i64 key] w (AskPost C s N M (askP T q tx key) w):=by
 have hG2:=hG.ask hq tx key (by unfold I64 at hx;omega)
 unfold askP at hG2 ⊢
 by_cases hb:0≤key∧key<10∧1≤tx
 ·rw [if_neg (by simpa using hb)] at hG2 ⊢
  obtain⟨h1,h2,h3⟩:=hb
  have g1:¬ key<0:=by omega
  have g2:¬ 10≤key:=by omega
  have g3:¬ tx<1:=by omega
  have HT:=hid hT
  obtain⟨h,wa,ln,r,R⟩:=hT
  have HR:=hid r
  have HP:=hid R
  have HG:=hid hG
  have HQ:=hid hq
  clear r R hG hq
  have hwc:=waits_cases T tx
  have hw64:=waits_i64 T tx
  have hh64:=holds_i64 HG.out.tidy key
  obtain⟨k0,hk0⟩:∃ k0,waitsP T tx=k0:=⟨_,rfl⟩
  obtain⟨y,hy⟩:∃ y,holdsP T key=y:=⟨_,rfl⟩
  rw [hk0] at hwc hG2 ⊢
  rw [hy] at hG2 hh64 ⊢
  have HK0:=hid hk0
  have HY:=hid hy
  clear hk0 hy hw64
  by_cases hw:0≤k0
  ·rw [if_pos hw] at hG2 ⊢
   have e1:(k0 != -1)=true:=by simp;omega
   clear hwc
   go_enter Tryz.func202,Tryz.ntmps202
   go_wp2_with (go_at_call 201;refine (waitsR s N M HP.out tx _ HR.out hx).mono ?_;rw [HK0.out];rintro e w' ⟨rfl,rfl⟩)
   go_ret2
   exact askPost_same HT.out rfl
  ·rw [if_neg hw] at hG2 ⊢
   have hk1:k0=-1:=by omega
   subst hk1
   by_cases hyx:y=tx
   ·rw [if_pos hyx] at hG2 ⊢
    subst hyx
    have e2:(y==0)=false:=by simp;omega
    clear hwc hw
    go_enter Tryz.func202,Tryz.ntmps202
    go_wp2_with (first
     | (go_at_call 201;refine (waitsR s N M HP.out y _ HR.out hx).mono ?_;rw [HK0.out];rintro e w' ⟨rfl,rfl⟩)
     | (go_at_call 200;refine (holdsR s N M HP.out key _ HR.out hky).mono ?_;rw [HY.out];rintro e w' ⟨rfl,rfl⟩))
    go_ret2
    exact askPost_same HT.out rfl
   ·rw [if_neg hyx] at hG2 ⊢
    by_cases hn:T key=[]
    ·rw [if_pos hn] at hG2 ⊢
     have hy0:y=0:=by rw [← HY.out];exact (holds_zero HG.out.tidy).2 hn
     subst hy0
     have HRH:=hid (HP.out.hold (tx:=tx) hn)
     have HGG:=hid hG2
     clear hwc hw hyx hn hG2
     go_enter Tryz.func202,Tryz.ntmps202
     go_wp2_with (first
      | (go_at_call 201;refine (waitsR s N M HP.out tx _ HR.out hx).mono ?_;rw [HK0.out];rintro e w' ⟨rfl,rfl⟩)
      | (go_at_call 200;refine (holdsR s N M HP.out key _ HR.out hky).mono ?_;rw [HY.out];rintro e w' ⟨rfl,rfl⟩)
      | (go_at_call 264;refine (hold_any s N M h wa ln tx key _ HR.out hky (by omega)).mono ?_;rintro e w' ⟨rfl,hM⟩))
     go_ret2
     obtain⟨M',hM1,hM2⟩:=hM
     exact⟨rfl,M',⟨_,_,_,hM1.mono (Nat.le_succ _),HRH.out⟩,hM2⟩
    ·rw [if_neg hn] at hG2 ⊢
     have hyp:1≤y:=by rw [← HY.out];exact holds_pos HG.out.tidy hn
     have e2:(y==0)=false:=by simp;omega
     have e3:(y==tx)=false:=by simpa using hyx
     by_cases hc:reachP T tx (q y+1) y=true
     ·rw [if_pos hc] at hG2 ⊢
      have HC:=hid hc
      clear hwc hw hn hG2 hc
      go_enter Tryz.func202,Tryz.ntmps202
      go_wp2_with (first
       | (go_at_call 201;refine (waitsR s N M HP.out tx _ HR.out hx).mono ?_;rw [HK0.out];rintro e w' ⟨rfl,rfl⟩)
       | (go_at_call 200;refine (holdsR s N M HP.out key _ HR.out hky).mono ?_;rw [HY.out];rintro e w' ⟨rfl,rfl⟩)
       | (go_at_call 265;refine (waitsFor_any s N M h wa ln T q y tx _ HR.out HP.out HG.out.tidy HQ.out hh64 hyx).mono ?_;rw [HC.out];rintro e w' ⟨rfl,rfl⟩))
      go_ret2
      exact askPost_same HT.out rfl
     ·rw [if_neg hc] at hG2 ⊢
      have HC:=hid (show reachP T tx (q y+1) y=false by simpa using hc)
      have HRH:=hid (HP.out.wait (tx:=tx) hn h1 hG2.tidy)
      clear hwc hw hn hG2 hc
      go_enter Tryz.func202,Tryz.ntmps202
      go_wp2_with (first
       | (go_at_call 201;refine (waitsR s N M HP.out tx _ HR.out hx).mono ?_;rw [HK0.out];rintro e w' ⟨rfl,rfl⟩)
       | (go_at_call 200;refine (holdsR s N M HP.out key _ HR.out hky).mono ?_;rw [HY.out];rintro e w' ⟨rfl,rfl⟩)
       | (go_at_call 265;refine (waitsFor_any s N M h wa ln T q y tx _ HR.out HP.out HG.out.tidy HQ.out hh64 hyx).mono ?_;rw [HC.out];rintro e w' ⟨rfl,rfl⟩)
       | (go_at_call 266;refine (wait_any s N M h wa ln tx key _ HR.out hky hx hN).mono ?_;rintro e w' ⟨rfl,hM⟩))
      go_ret2
      obtain⟨M',hM1,hM2⟩:=hM
      exact⟨rfl,M',⟨_,_,_,hM1,HRH.out⟩,hM2⟩
 ·rw [if_pos (by simpa using hb)]
  refine (ask_range s tx key w hb).mono ?_
  rintro e w' ⟨rfl,rfl⟩
  exact askPost_same hT rfl
end Go.Proofs.YtjefgmeejhakbabGreatDoor
namespace Go.Proofs.YtjefgmeejhakbabGreatDoor
open Go.RowKit
def wholeP (l:List Int):Bool:=match l with
 | []=>false
 | x::_=>decide ((l.length:Int)=x*9+9)&&((numN (l.drop (l.length-8)) 8:Nat):Int)==sumP (l.take (l.length-8))
theorem BytesAt.drop {w:World} {g off:Nat} {l:List Int} (h:BytesAt w (some ⟨g,off,none⟩) l) (d:Nat):BytesAt w (some ⟨g,off+d,none⟩) (l.drop d):=fun i x hx=>by
 rw [List.getElem?_drop] at hx
 obtain⟨h1,g',off',e,hc⟩:=h (d+i) x hx
 cases e
 exact⟨h1,g,off+d,rfl,by rw [Nat.add_assoc];exact hc⟩
theorem BytesAt.take {w:World} {ad:Option Addr} {l:List Int} (h:BytesAt w ad l) (d:Nat):BytesAt w ad (l.take d):=fun i x hx=>by
 rw [List.getElem?_take] at hx
 split at hx
 ·exact h i x hx
 ·cases hx
theorem BytesAt.same {w w':World} {ad:Option Addr} {l:List Int} (h:BytesAt w ad l) (hs:∀ a:Addr,ad.map (·.block)=some a.block→w'.cell? a=w.cell? a):BytesAt w' ad l:=fun i x hx=>by
 obtain⟨h1,g,off,e,hc⟩:=h i x hx
 exact⟨h1,g,off,e,(hs ⟨g,off+i,none⟩ (by rw [e];rfl)).trans hc⟩
set_option maxRecDepth 100000 in
set_option maxHeartbeats 1000000 in
theorem whole_any (ad:Option Addr) (cap:Nat) (l:List Int) (w:World) (hn:l.length≤10000) (hcap:l.length≤cap) (hA:BytesAt w ad l) :
  Calls Tryz.prog 289 #[.slice ad l.length cap] w fun e w'=>e=.returned (.bool (wholeP l))∧∃ q,w'=w.drewN q:=by
 cases hl:l with
 | nil =>
  clear hA
  go_enter Tryz.func289,Tryz.ntmps289
  go_wp2
  go_ret
  exact⟨rfl,0,rfl⟩
 | cons x r =>
  rw [← hl]
  obtain⟨hx,g,off,rfl,c0⟩:=hA 0 x (by rw [hl];rfl)
  rw [Nat.add_zero] at c0
  have hw0:wholeP l=(decide ((l.length:Int)=x*9+9)&&((numN (l.drop (l.length-8)) 8:Nat):Int)==sumP (l.take (l.length-8))):=by rw [hl];rfl
  have hpos:0<l.length:=by rw [hl];simp
  have gm:IntKind.i64.wrap (x*9)=x*9:=IntWalk.i64_in _ (by omega)
  have gm2:IntKind.i64.wrap (1+x*9)=1+x*9:=IntWalk.i64_in _ (by omega)
  have gm3:IntKind.i64.wrap (1+x*9+8)=1+x*9+8:=IntWalk.i64_in _ (by omega)
  by_cases hlen:(l.length:Int)=x*9+9
  ·have ge:IntKind.i64.wrap ((l.length:Int)-8)=((l.length-8:Nat):Int):=by rw [show (l.length:Int)-8=((l.length-8:Nat):Int) by omega];exact IntWalk.i64_in _ (by omega)
   obtain⟨d,hd⟩:∃ d,l.length-8=d:=⟨_,rfl⟩
   have hdl:l.length=d+8:=by omega
   rw [hd] at ge
   have HN:=hid (fun q=>bnumber_any (some ⟨g,off+d,none⟩) 8 (cap-d) (l.drop d) (w.drewN q) (Nat.le_refl _) ((hA.drop d).same (fun a _=>by simp)) (by rw [List.length_drop];omega))
   have HS:=hid (fun q=>bsum_any (some ⟨g,off,none⟩) cap (l.take d) (w.drewN q) (by rw [List.length_take];omega) ((hA.take d).same (fun a _=>by simp)))
   have hw:wholeP l=(((numN (l.drop d) 8:Nat):Int)==sumP (l.take d)):=by
    rw [hw0,hd,decide_eq_true hlen,Bool.true_and]
   rw [List.length_take,Nat.min_eq_left (by omega)] at HS
   rw [hw]
   obtain⟨nn,hnn⟩:∃ nn:Int,((numN (l.drop d) 8:Nat):Int)=nn:=⟨_,rfl⟩
   obtain⟨ss,hss⟩:∃ ss,sumP (l.take d)=ss:=⟨_,rfl⟩
   rw [hnn] at HN
   rw [hss] at HS
   rw [hnn,hss]
   obtain⟨len,hle⟩:∃ len,l.length=len:=⟨_,rfl⟩
   rw [hle] at ge hdl hcap hn hlen
   rw [hle]
   clear hA hw hw0 hnn hss hd hl hpos hle
   subst hdl
   have g0:((d:Int)+8==0)=false:=by simp;omega
   have gne:((d:Int)+8 != 1+x*9+8)=false:=by simp;omega
   have gl0:(0:Int)<(d:Int)+8:=by omega
   have ge2:IntKind.i64.wrap ((d:Int)+8-8)=(d:Int):=by rw [show (d:Int)+8-8=(d:Int) by omega];exact IntWalk.i64_in _ (by omega)
   clear hlen
   go_enter Tryz.func289,Tryz.ntmps289
   go_wp2
   go_quiet (first | (go_at_call 309;refine Calls.quiet_of_same (HN.out _)) | (go_at_call 235;refine Calls.quiet_of_same (HS.out _)))
   go_wp2
   go_ret
   exact⟨rfl,_,rfl⟩
  ·have gne:((l.length:Int) != 1+x*9+8)=true:=by simp;omega
   have g0:((l.length:Int)==0)=false:=beq_false_of_ne (by omega)
   have gl0:(0:Int)<(l.length:Int):=by omega
   have hw:wholeP l=false:=by
    rw [hw0,decide_eq_false hlen,Bool.false_and]
   rw [hw]
   clear hA hw hl hw0
   go_enter Tryz.func289,Tryz.ntmps289
   go_wp2
   go_ret
   exact⟨rfl,0,rfl⟩
end Go.Proofs.YtjefgmeejhakbabGreatDoor
