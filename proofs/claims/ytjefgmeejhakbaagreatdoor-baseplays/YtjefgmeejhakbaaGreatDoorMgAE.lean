/- EsPut EsInstall EkDel EkLeave: put together for a claim. -/
import Derived.Test.YtjefgmeejhakbaaGreatDoorMgAD
import Derived.Test.YtjefgmeejhakbaaGreatDoorMgAB
/- (*Store).put over a store as it lies in memory. -/
namespace Go.Proofs.YtjefgmeejhakbaaGreatDoor
open Go.RowKit
variable {P:Tail}
def putP (t x:Int) (l:List (Int × Int)):List (Int × Int):=if l.getLast?.map Prod.fst=some t then l.dropLast++[(t,x)] else l++[(t,x)]
theorem putP_nil (t x:Int):putP t x []=[(t,x)]:=by simp [putP]
theorem putP_same (t x y:Int) (l:List (Int × Int)):putP t x (l++[(t,y)])=l++[(t,x)]:=by simp [putP]
theorem putP_later (t x u y:Int) (l:List (Int × Int)) (h:u≠t):putP t x (l++[(u,y)])=l++[(u,y)]++[(t,x)]:=by simp [putP,h]
section
variable {w w':World} {base s:Nat} {last:Int} {vs:List Value} {ks:List (List (Int × Int))}
theorem Sto.turn (h:Sto P w base s last vs ks) {k:Nat} {v v':Value} (hv:vs[k]?=some v) (l':List (Int × Int))
  (hs:w'.heap[s]?=some (.cells (P.cells last (vs.set k v')) P.tt (0,0))) (ho:w'.ownsRow base 199 2 v' l'.length (vrow l'))
  (hr:∀ g,InRows vs g→v.ownBlock≠some g→w'.heap[g]?=w.heap[g]?) (hat:v'.ownBlock=v.ownBlock∨∀ g,v'.ownBlock=some g→w.heap.size≤g) :
  Sto P w' base s last (vs.set k v') (ks.set k l'):=by
 have hk:k<vs.length:=(List.getElem?_eq_some_iff.1 hv).1
 refine⟨hs,by simp [h.lv],by simp [h.lk],?_,?_,h.sb⟩
 ·intro j u l hu hl
  by_cases e:j=k
  ·subst e
   rw [List.getElem?_set_self hk] at hu
   rw [List.getElem?_set_self (by have:=h.lv;have:=h.lk;omega)] at hl
   cases hu;cases hl
   exact ho
  ·rw [List.getElem?_set_ne (by omega)] at hu hl
   have ho':=h.own j u l hu hl
   refine⟨ho'.1,?_⟩
   rcases ho'.2 with hn | ⟨g,cap,cur,hg,hb,hgg,r⟩
   ·exact .inl hn
   ·refine .inr ⟨g,cap,cur,hg,hb,(hr g ⟨u,List.mem_of_getElem? hu,by rw [hg];rfl⟩ (fun hx=>e ?_)).trans hgg,r⟩
    exact (h.apart k j v u g hv hu hx (by rw [hg];rfl)).symm
 ·have old:∀ j u g,j≠k→vs[j]?=some u→u.ownBlock=some g→v'.ownBlock=some g→False:=by
   intro j u g hj hu hg hg'
   rcases hat with e | e
   ·rw [e] at hg'
    exact hj (h.apart j k u v g hu hv hg hg')
   ·have h1:=e g hg'
    have h2:=(h.row ⟨u,List.mem_of_getElem? hu,hg⟩).2
    omega
  intro i j a b g ha hb hga hgb
  by_cases ei:i=k
  ·by_cases ej:j=k
   ·omega
   ·subst ei
    rw [List.getElem?_set_self hk] at ha
    rw [List.getElem?_set_ne (by omega)] at hb
    cases ha
    exact (old j b g ej hb hgb hga).elim
  ·by_cases ej:j=k
   ·subst ej
    rw [List.getElem?_set_self hk] at hb
    rw [List.getElem?_set_ne (by omega)] at ha
    cases hb
    exact (old i a g ei ha hga hgb).elim
   ·rw [List.getElem?_set_ne (by omega)] at ha hb
    exact h.apart i j a b g ha hb hga hgb
theorem Kept.turn (_h:Sto P w base s last vs ks) {k:Nat} {v v':Value} (hv:vs[k]?=some v) (hos:w'.os=w.os) (htp:w'.tape=w.tape) (hout:w'.output=w.output) (hsz:w.heap.size≤w'.heap.size)
  (hb:∀ b,b<w.heap.size→b≠s→v.ownBlock≠some b→w'.heap[b]?=w.heap[b]?) (hat:v'.ownBlock=v.ownBlock∨∀ g,v'.ownBlock=some g→w.heap.size≤g) :
  Kept s vs (vs.set k v') w w':=by
 refine⟨hos,htp,hout,hsz,fun b h1 h2 h3=>hb b h1 h2 (fun e=>h3 ⟨v,List.mem_of_getElem? hv,e⟩),?_⟩
 rintro g ⟨u,hu,hg⟩
 obtain⟨j,hj,e⟩:=List.mem_iff_getElem.1 hu
 by_cases ej:j=k
 ·subst ej
  rw [List.getElem_set_self] at e
  subst e
  rcases hat with e | e
  ·exact .inl ⟨v,List.mem_of_getElem? hv,by rw [← e];exact hg⟩
  ·exact .inr (e g hg)
 ·rw [List.getElem_set_ne (by omega)] at e
  exact .inl ⟨u,by rw [← e];exact List.getElem_mem _,hg⟩
theorem ownBlock_eq (g n cap:Nat):(Value.slice (some ⟨g,0,none⟩) n cap).ownBlock=some g:=rfl
theorem put_grown (h:Sto P w base s last vs ks) {k:Nat} {v:Value} (hv:vs[k]?=some v) (l':List (Int × Int)) (gg cap n:Nat) (w1:World) (hn:n=l'.length)
  (ho:w1.ownsRow base 199 2 (.slice (some ⟨gg,0,none⟩) n cap) n (vrow l')) (hg:w.grownBy w1 v.ownBlock) (hat:v.ownBlock=some gg∨w.heap.size≤gg) :
  Sto P (w1.setCell ⟨s,1+k,none⟩ (.slice (some ⟨gg,0,none⟩) n cap)) base s last (vs.set k (.slice (some ⟨gg,0,none⟩) n cap)) (ks.set k l') ∧
   Kept s vs (vs.set k (.slice (some ⟨gg,0,none⟩) n cap)) w (w1.setCell ⟨s,1+k,none⟩ (.slice (some ⟨gg,0,none⟩) n cap)):=by
 subst hn
 have hsr:some s≠v.ownBlock:=fun e=>by
  have:=(h.row ⟨v,List.mem_of_getElem? hv,e.symm⟩).1
  have:=h.sb
  omega
 have hs1:w1.heap[s]?=some (.cells (P.cells last vs) P.tt (0,0)):=(hg.block s h.lt hsr).trans h.blk
 have hat':(Value.slice (some ⟨gg,0,none⟩) l'.length cap).ownBlock=v.ownBlock∨∀ g,(Value.slice (some ⟨gg,0,none⟩) l'.length cap).ownBlock=some g→w.heap.size≤g:=by
  rcases hat with e | e
  ·exact .inl e.symm
  ·exact .inr (fun g hg=>by rw [ownBlock_eq] at hg;cases hg;exact e)
 have hbb:=(ho.lt gg rfl).1
 have hsb:=h.sb
 refine⟨h.turn hv l' ?_ ?_ ?_ hat',Kept.turn h hv hg.os hg.tape hg.output (by have:=hg.size;simpa using this) ?_ hat'⟩
 ·rw [heap_setCell_same w1 s (1+k) _ P.tt _ hs1,P.setk last (List.getElem?_eq_some_iff.1 hv).1]
 ·refine⟨ho.1,?_⟩
  rcases ho.2 with hn | ⟨g,cp,cur,e,hb,hgg,r⟩
  ·exact .inl hn
  ·refine .inr ⟨g,cp,cur,e,hb,?_,r⟩
   rw [heap_setCell_other _ _ _ _ (show g≠s by omega)]
   exact hgg
 ·intro g hr hne
  have:=h.row hr
  rw [heap_setCell_other _ _ _ _ (show g≠s by omega)]
  exact hg.block g this.2 (fun e=>hne e.symm)
 ·intro b hb hbs hne
  rw [heap_setCell_other _ _ _ _ hbs]
  exact hg.block b hb (fun e=>hne e.symm)
end
set_option maxHeartbeats 1000000 in
theorem put_any (base s:Nat) (last:Int) (vs:List Value) (ks:List (List (Int × Int))) (k:Nat) (l:List (Int × Int)) (t x:Int) (w:World) (h:Sto P w base s last vs ks) (hbase:base≤w.heap.size)
  (hl:ks[k]?=some l) (hlen:l.length<1000000) :
  Calls Tryz.prog 132 #[.pointer (some ⟨s,0,none⟩),.int .i64 t,.agg #[.int .i64 (k:Int),.int .i64 x]] w fun e w'=>e=.returned (.tuple #[]) ∧
   ∃ vs',Sto P w' base s last vs' (ks.set k (putP t x l))∧Kept s vs vs' w w':=by
 have hk:k<10:=by have:=(List.getElem?_eq_some_iff.1 hl).1;have:=h.lk;omega
 obtain⟨v,hv⟩:∃ v,vs[k]?=some v:=⟨vs[k]'(by have:=h.lv;omega),List.getElem?_eq_getElem _⟩
 have ho:=h.own k v l hv hl
 have hsr:some s≠v.ownBlock:=fun e=>by
  have:=(h.row ⟨v,List.mem_of_getElem? hv,e.symm⟩).1
  have:=h.sb
  omega
 rcases List.eq_nil_or_concat l with rfl | ⟨l0,⟨u,y⟩,rfl⟩
 ·obtain⟨ad,cap,rfl⟩:∃ ad cap,v=.slice ad 0 cap:=by
   rcases ho.2 with ⟨e,_⟩ | ⟨g,cap,cur,e,_⟩
   ·exact⟨none,0,e⟩
   ·exact⟨_,_,e⟩
  refine (put_first s k cap base ad t x (vrow []) w hk (h.cell hv) (h.free _) hsr (fun e=>?_) ho hbase).mono ?_
  ·have:=(h.row ⟨_,List.mem_of_getElem? hv,e.symm⟩).2
   omega
  ·rintro e w' ⟨rfl,gg,cap',w1,rfl,hown,hg,hat,_⟩
   rw [putP_nil]
   exact⟨rfl,_,put_grown h hv [(t,x)] gg cap' 1 w1 rfl hown hg hat⟩
 ·simp only [List.concat_eq_append] at *
  obtain⟨g,cap,cur,rfl,hgb,hgg,hcap,hml,hsz,htake⟩:∃ g cap cur,v=.slice (some ⟨g,0,none⟩) (l0.length+1) cap∧base≤g∧w.heap[g]?=some (.cells cur 199 (0,0))∧l0.length+1≤cap∧cap≤maxLen∧cur.size=cap*2 ∧
    cur.toList.take ((l0.length+1)*2)=vrow (l0++[(u,y)]):=by
   rcases ho.2 with ⟨_,e⟩ | ⟨g,cap,cur,e,h1,h2,h3,h4,h5,h6⟩
   ·simp at e
   ·simp only [List.length_append,List.length_cons,List.length_nil,Nat.zero_add] at e h3 h6
    exact⟨g,cap,cur,e,h1,h2,h3,h4,h5,h6⟩
  have hcs:=ho.cells (g:=g) rfl
  have hget:=vrow_get (l0++[(u,y)]) l0.length u y (by simp)
  have c1:=hcs _ _ hget.1
  have c2:=hcs _ _ hget.2
  rw [addr_add] at c1 c2
  have hm:l0.length<1000000:=by simp at hlen;omega
  by_cases hut:u=t
  ·subst hut
   rw [putP_same]
   refine (put_same s k g l0.length cap u x y w hk hm (h.cell hv) c1 c2 (frozen_of_row w g _ cur 199 hgg)).mono ?_
   rintro e w' ⟨rfl,n,rfl⟩
   have hsg:s≠g:=by have:=h.sb;omega
   have hW:((w.alloc (.cells #[.int .i64 (k:Int),.int .i64 x] 78)).drewN n).heap[g]?=some (.cells cur 199 (0,0)):=(Below.heap_alloc w _ g (Array.getElem?_eq_some_iff.1 hgg).1).trans hgg
   refine⟨rfl,vs,?_⟩
   have e1:vs.set k (.slice (some ⟨g,0,none⟩) (l0.length+1) cap)=vs:=by
    apply List.ext_getElem?
    intro j
    by_cases ej:j=k
    ·subst ej;rw [List.getElem?_set_self (List.getElem?_eq_some_iff.1 hv).1,hv]
    ·rw [List.getElem?_set_ne (by omega)]
   have hold:∀ b,b<w.heap.size→b≠g→(((w.alloc (.cells #[.int .i64 (k:Int),.int .i64 x] 78)).drewN n).setCell ⟨g,l0.length*2+1,none⟩ (.int .i64 x)).heap[b]?=w.heap[b]?:=fun b hb hne =>
    (heap_setCell_other _ _ _ _ hne).trans (Below.heap_alloc w _ b hb)
   have r1:=h.turn (w':=((w.alloc (.cells #[.int .i64 (k:Int),.int .i64 x] 78)).drewN n).setCell ⟨g,l0.length*2+1,none⟩ (.int .i64 x)) hv (l0++[(u,x)]) (v':=.slice (some ⟨g,0,none⟩) (l0.length+1) cap)
    (by rw [e1];exact (hold s h.lt hsg).trans h.blk)
    ⟨by rw [vrow_length],.inr ⟨g,cap,_,by simp,hgb,heap_setCell_same _ g _ cur 199 _ hW,by simpa using hcap,hml,by simpa using hsz,by
     have e2:vrow (l0++[(u,x)])=(vrow (l0++[(u,y)])).set (l0.length*2+1) (.int .i64 x):=by
      rw [vrow_append,vrow_append,← vrow_length l0,List.set_append_right _ _ (by omega)]
      simp [vrow]
     rw [e2,← htake]
     simp [List.take_set]⟩⟩
    (fun b hb hne=>hold b (h.row hb).2 (fun e=>hne (by rw [e];rfl))) (.inl rfl)
   rw [e1] at r1
   refine⟨r1,?_⟩
   have r2:=Kept.turn (w':=((w.alloc (.cells #[.int .i64 (k:Int),.int .i64 x] 78)).drewN n).setCell ⟨g,l0.length*2+1,none⟩ (.int .i64 x)) (v':=.slice (some ⟨g,0,none⟩) (l0.length+1) cap) h hv rfl rfl rfl (by simp)
    (fun b hb hbs hne=>hold b hb (fun e=>hne (by rw [e];rfl))) (.inl rfl)
   rw [e1] at r2
   exact r2
  ·rw [putP_later _ _ _ _ _ hut]
   refine (put_later s k g l0.length cap base t x u (vrow (l0++[(u,y)])) w hk hm (h.cell hv) c1 (by simpa using hut) (h.free _) (by have:=h.sb;omega) (by simpa using ho) hbase).mono ?_
   rintro e w' ⟨rfl,gg,cap',w1,rfl,hown,hg,hat,_⟩
   refine⟨rfl,_,put_grown h hv (l0++[(u,y)]++[(t,x)]) gg cap' (l0.length+2) w1 (by simp) (by rw [vrow_append];exact hown) hg (hat.elim (fun e=>.inl (by rw [e];rfl)) .inr)⟩
end Go.Proofs.YtjefgmeejhakbaaGreatDoor
/- (*Store).Install where nothing is wrong. -/
namespace Go.Proofs.YtjefgmeejhakbaaGreatDoor
open Go.RowKit
variable {P:Tail}
def WRow (W:World) (b off:Nat) (ws:List (Int × Int)):Prop :=
 ∀ j a v,ws[j]?=some (a,v)→W.cell? ⟨b,off+j*2,none⟩=some (.int .i64 a)∧W.cell? ⟨b,off+j*2+1,none⟩=some (.int .i64 v)
theorem WRow.same {A B:World} {b off:Nat} {ws:List (Int × Int)} (h:WRow A b off ws) (hb:B.heap[b]?=A.heap[b]?):WRow B b off ws :=
 fun j a v e=>⟨(World.cell?_of_block (a:=⟨b,off+j*2,none⟩) hb).trans (h j a v e).1,(World.cell?_of_block (a:=⟨b,off+j*2+1,none⟩) hb).trans (h j a v e).2⟩
def instP (t:Int) (ws:List (Int × Int)) (ks:List (List (Int × Int))):List (List (Int × Int)) :=
 ws.foldl (fun ks p=>ks.set p.1.toNat (putP t p.2 (ks[p.1.toNat]?.getD []))) ks
theorem instP_snoc (t:Int) (ws:List (Int × Int)) (ks:List (List (Int × Int))) (a v:Int):instP t (ws++[(a,v)]) ks=(instP t ws ks).set a.toNat (putP t v ((instP t ws ks)[a.toNat]?.getD [])):=by
 simp [instP]
theorem putP_length (t x:Int) (l:List (Int × Int)):(putP t x l).length≤l.length+1:=by
 unfold putP
 split
 ·simp
 ·simp
theorem instP_bound (t:Int):∀ (ws:List (Int × Int)) (ks:List (List (Int × Int))) (N:Nat),(∀ l∈ks,l.length≤N)→∀ l∈instP t ws ks,l.length≤N+ws.length
 | [],ks,N,h,l,hl=>by simpa using h l (by simpa [instP] using hl)
 | (a,v)::r,ks,N,h,l,hl=>by
  have:=instP_bound t r (ks.set a.toNat (putP t v (ks[a.toNat]?.getD []))) (N+1) (fun m hm=>by
   rcases List.mem_or_eq_of_mem_set hm with hm | rfl
   ·have:=h m hm;omega
   ·have h1:=putP_length t v (ks[a.toNat]?.getD [])
    have h2:(ks[a.toNat]?.getD []).length≤N:=by
     cases e:ks[a.toNat]? with
     | none=>simp
     | some m=>simpa using h m (List.mem_of_getElem? e)
    omega) l (by simpa [instP] using hl)
  simp
  omega
def Fine (p:Int × Int):Prop:=keyB p.1=true∧-1099511627776≤p.2∧p.2≤1099511627776
theorem keyB_nat {k:Int} (h:keyB k=true):∃ n:Nat,k=n∧n<10:=by
 simp [keyB] at h
 exact⟨k.toNat,by omega,by omega⟩
section
variable {w w':World} {base s:Nat} {last:Int} {vs:List Value} {ks:List (List (Int × Int))}
theorem Sto.setLast (h:Sto P w base s last vs ks) (t:Int):Sto P (w.setCell ⟨s,0,none⟩ (.int .i64 t)) base s t vs ks∧Kept s vs vs w (w.setCell ⟨s,0,none⟩ (.int .i64 t)):=by
 refine⟨⟨?_,h.lv,h.lk,?_,h.apart,h.sb⟩,⟨rfl,rfl,rfl,by simp,fun b _ hs _=>heap_setCell_other _ _ _ _ hs,fun _ hg=>.inl hg⟩⟩
 ·rw [heap_setCell_same w s 0 _ P.tt _ h.blk,P.set0]
 ·intro k v l hv hl
  have ho:=h.own k v l hv hl
  refine⟨ho.1,?_⟩
  rcases ho.2 with hn | ⟨g,cap,cur,e,hb,hgg,r⟩
  ·exact .inl hn
  ·refine .inr ⟨g,cap,cur,e,hb,?_,r⟩
   rw [heap_setCell_other _ _ _ _ (show g≠s by have:=h.sb;omega)]
   exact hgg
end
set_option maxRecDepth 100000 in
set_option maxHeartbeats 2000000 in
theorem install_good (base s b off cap:Nat) (last t:Int) (vs:List Value) (ks:List (List (Int × Int))) (ws:List (Int × Int)) (w:World) (h:Sto P w base s last vs ks) (hbase:base≤w.heap.size)
  (hws:WRow w b off ws) (hbr:¬ InRows vs b) (hbs:b≠s) (hbl:b<w.heap.size) (hfine:∀ p∈ws,Fine p) (h1:last<t) (h2:t≤1099511627776) (hn:ws.length≤100000) (hks:∀ l∈ks,l.length≤100000) :
  Calls Tryz.prog 76 #[.pointer (some ⟨s,0,none⟩),.int .i64 t,.slice (some ⟨b,off,none⟩) ws.length cap] w fun e w'=>e=.returned .nilIface ∧
   ∃ vs',Sto P w' base s t vs' (instP t ws ks)∧Kept s vs vs' w w':=by
 have hc0:=h.cellLast
 have d1:decide (t≤last)=false:=by simp;omega
 have d2:decide (1099511627776<t)=false:=by simp;omega
 go_enter Tryz.func76,Tryz.ntmps76
 go_wp2
 go_loopw [25] (fun i wr=>∃ k:Nat,k≤ws.length∧i=.int .i64 k∧Below w.heap.size w wr) (fun i _=>ws.length-(intOf i).toNat)
 case atStart=>exact⟨0,Nat.zero_le _,rfl,Below.refl _ _⟩
 case round =>
  obtain⟨k,hk,rfl,hB⟩:=hrel
  by_cases hlt:k<ws.length
  ·obtain⟨⟨a,v⟩,hav⟩:∃ p,ws[k]?=some p:=⟨ws[k],List.getElem?_eq_getElem hlt⟩
   obtain⟨hf1,hf2,hf3⟩:=hfine (a,v) (List.mem_of_getElem? hav)
   obtain⟨ca,cv⟩:=(hws.same (hB.block b hbl)) k a v hav
   have hk0:(0:Int)≤(k:Int):=by omega
   have hk1:(k:Int)<(ws.length:Int):=by omega
   simp only at hf1 hf2 hf3
   clear hav
   go_wp2_with (go_at_call 131;refine (wrong_good _ _ _ hf1 hf2 hf3).mono ?_;rintro e w' ⟨rfl,hb1⟩)
   go_roundw
   case rel=>exact⟨k+1,by omega,by go_num,hB.trans (((Below.refl _ _).alloc hB.size _).trans (hb1.mono (by simp;have:=hB.size;omega)))⟩
   case measure=>simp [intOf];omega
  ·have hS:=h.below hB
   have hwr:=hws.same (hB.block b hbl)
   have hK1:Kept s vs vs w wr:=Kept.of_below hB
   clear hc0
   go_wp2
   go_loopw [42] (fun i wz=>∃ (j:Nat) (us:List Value),j≤ws.length∧i=.int .i64 j∧Sto P wz base s last us (instP t (ws.take j) ks)∧Kept s vs us w wz) (fun i _=>ws.length-(intOf i).toNat)
   case atStart=>exact⟨0,vs,Nat.zero_le _,rfl,by simpa [instP] using hS,hK1⟩
   case round =>
    clear hS hwr hK1 hB hk hlt
    obtain⟨j,us,hj,rfl,hSz,hKz⟩:=hrel
    by_cases hlt:j<ws.length
    ·obtain⟨⟨a,v⟩,hav⟩:∃ p,ws[j]?=some p:=⟨ws[j],List.getElem?_eq_getElem hlt⟩
     obtain⟨hf1,-,-⟩:=hfine (a,v) (List.mem_of_getElem? hav)
     obtain⟨a,rfl,ha⟩:=keyB_nat hf1
     obtain⟨ca,cv⟩:=(hws.same (hKz.block b hbl hbs hbr)) j a v hav
     have hk0:(0:Int)≤(j:Int):=by omega
     have hk1:(j:Int)<(ws.length:Int):=by omega
     have hst:Hid (instP t (ws.take (j+1)) ks=(instP t (ws.take j) ks).set a (putP t v ((instP t (ws.take j) ks)[a]?.getD []))):=by
      have e:ws.take (j+1)=ws.take j++[((a:Int),v)]:=by
       rw [List.take_add_one,hav];rfl
      show _=_
      rw [e,instP_snoc]
      simp
     obtain⟨l,hl⟩:∃ l,(instP t (ws.take j) ks)[a]?=some l:=⟨(instP t (ws.take j) ks)[a]'(by rw [hSz.lk];exact ha),List.getElem?_eq_getElem _⟩
     have hll:l.length<1000000-1:=by
      have h1:=instP_bound t (ws.take j) ks 100000 hks l (List.mem_of_getElem? hl)
      have h2:(ws.take j).length≤100000:=by simp;omega
      omega
     have hsz:=hKz.size
     have hbz:base≤wr.heap.size+1:=by omega
     clear hav hf1
     go_wp2_with fail
     have hal:Below wr.heap.size wr (wr.alloc (.cells #[.int .i64 (a:Int),.int .i64 v] 78)):=(Below.refl _ _).alloc (Nat.le_refl _) _
     refine (put_any base s last us (instP t (ws.take j) ks) a l t v _ (hSz.below hal) (by simp;omega) hl (by omega)).mono ?_
     rintro e w' ⟨rfl,us',hS',hK'⟩
     go_wp2
     go_roundw
     case rel=>exact⟨j+1,us',by omega,by go_num,by rw [hst.out,hl];exact hS',hKz.trans ((Kept.of_below hal).trans hK')⟩
     case measure=>simp [intOf];omega
    ·have e:ws.take j=ws:=List.take_of_length_le (by omega)
     rw [e] at hSz
     have cz:=hSz.cellLast
     have fz:=hSz.free 0
     clear e
     go_wp2
     go_ret
     exact⟨rfl,us,(hSz.setLast t).1,hKz.trans (hSz.setLast t).2⟩
end Go.Proofs.YtjefgmeejhakbaaGreatDoor
/- slices.DeleteFunc with leave's closure. -/
namespace Go.Proofs.YtjefgmeejhakbaaGreatDoor
open Go.Shelf Go.RowKit Go.Lib Go.Sort
theorem gives_leave (tx x:Int) (B:Nat) (W:World) (hc:W.cell? ⟨B,0,none⟩=some (.int .i64 tx)) :
  FnGives Tryz.prog 239 #[.pointer (some ⟨B,0,none⟩)] #[.int .i64 x] (.bool (x==tx)) W:=by
 show Calls Tryz.prog 239 #[.int .i64 x,.pointer (some ⟨B,0,none⟩)] W _
 go_enter Tryz.func239,Tryz.ntmps239
 go_wp2
 all_goals (go_ret;exact⟨rfl,0,rfl⟩)
theorem pred_leave (tx:Int) (B:Nat) (w:World) (hB:B<w.heap.size) (hcell:w.cell? ⟨B,0,none⟩=some (.int .i64 tx)) :
  PredAt Tryz.prog 239 #[.pointer (some ⟨B,0,none⟩)] (Value.int .i64) (fun x=>x==tx) w :=
 fun W x hb=>gives_leave tx x B W ((hb.cell (p:=⟨B,0,none⟩) hB).trans hcell)
theorem over_leave (tx:Int) (B blk off size:Nat) (w:World) (hB:B<w.heap.size) (hne:B≠blk) (hcell:w.cell? ⟨B,0,none⟩=some (.int .i64 tx)) :
  PredOver Tryz.prog 239 #[.pointer (some ⟨B,0,none⟩)] (Value.int .i64) (fun x=>x==tx) blk off size w :=
 fun n os dk x _=>gives_leave tx x B _ (by
  unfold sortWorld
  rw [cell?_grow _ _ _ (by show B<(putRow _ _ _ _ _).heap.size;rw [size_putRow];exact hB),cell?_putRow_other _ _ blk off _ _ (Or.inl hne)]
  exact hcell)
theorem ekPutCells_take (l:List Int) (z:Nat) (cur:Array Value) (h:l.length+z≤cur.size):(putCells (Value.int .i64) 0 (l++List.replicate z 0).toArray cur).toList.take l.length=intsV l:=by
 apply List.ext_getElem?
 intro j
 rw [List.getElem?_take]
 by_cases hj:j<l.length
 ·rw [if_pos hj]
  have hjc:j<cur.size:=by omega
  simp only [putCells,Array.toList_mapIdx,List.getElem?_mapIdx,Array.getElem?_toList,Array.getElem?_eq_getElem hjc,Option.map_some]
  rw [if_pos ⟨Nat.zero_le _,by simp;omega⟩]
  have e:(l++List.replicate z 0).toArray[j-0]! = l[j]:=by
   rw [Nat.sub_zero,getElem!_pos _ j (by simp;omega)]
   simp [List.getElem_append_left hj]
  rw [e,intsV_get (List.getElem?_eq_getElem hj)]
 ·rw [if_neg hj,List.getElem?_eq_none (by rw [intsV_length];omega)]
theorem heap_putRow (w:World) (g q:Nat) (d:Array Int) (cur:Array Value) (t:TypeId) (fr:Nat × Nat) (h:w.heap[g]?=some (.cells cur t fr)) :
  (putRow (Value.int .i64) (Sort.ahead w q) g 0 d).heap[g]?=some (.cells (putCells (Value.int .i64) 0 d cur) t fr):=by
 show ((Sort.ahead w q).heap.modify g _)[g]?=_
 rw [Array.getElem?_modify,if_pos rfl]
 show (w.heap[g]?).map _=_
 rw [h]
 rfl
theorem ekHeap_putRow_other (w:World) (g q k:Nat) (d:Array Int) (h:k≠g) :
  (putRow (Value.int .i64) (Sort.ahead w q) g 0 d).heap[k]?=w.heap[k]?:=by
 show ((Sort.ahead w q).heap.modify g _)[k]?=_
 rw [Array.getElem?_modify,if_neg (fun e=>h e.symm)]
 rfl
theorem del_any (g cap B:Nat) (l:List Int) (tx:Int) (w:World) (ho:w.ownsRow 0 3 1 (.slice (some ⟨g,0,none⟩) l.length cap) l.length (intsV l)) (hc:w.cell? ⟨B,0,none⟩=some (.int .i64 tx)) (hBg:B≠g) (hlen:l.length≤1000000) :
  Calls Tryz.prog 238 #[.slice (some ⟨g,0,none⟩) l.length cap,.func (.func 239) #[] #[.pointer (some ⟨B,0,none⟩)]] w fun e w' =>
   e=.returned (.slice (some ⟨g,0,none⟩) (l.filter (fun x=>x != tx)).length cap)∧w'.ownsRow 0 3 1 (.slice (some ⟨g,0,none⟩) (l.filter (fun x=>x != tx)).length cap) (l.filter (fun x=>x != tx)).length (intsV (l.filter (fun x=>x != tx)))∧w.grownBy w' (some g):=by
 have hB:=World.block_lt_of_cell? w _ hc
 rcases ho.2 with ⟨e,_⟩ | ⟨g',cap',cur,e,hb0,hg,hnc,hcm,hcs,htake⟩
 ·cases e
 ·cases e
  have hcells:=ho.cells (g:=g) rfl
  have eg:∀ args w,(callFunc 239 args).run Tryz.prog w=.ok (.enter 239 args) w:=enters_of Tryz.func239 (by kernel_rfl) rfl
  have hH:Holds (Value.int .i64) w g 0 l.toArray:=by
   intro j hj
   have hj':j<l.length:=by simpa using hj
   refine⟨?_,frozen_of_row w g _ _ _ hg⟩
   have:=hcells j _ (intsV_get (List.getElem?_eq_getElem hj'))
   rw [addr_add] at this
   rw [Nat.zero_add,this,getElem!_pos _ j hj]
   simp
  have hcon:=AnyE.slices_DeleteFunc Tryz.l10 (Value.int .i64) (fun _=>rfl) (fun x=>x==tx) 239 #[.pointer (some ⟨B,0,none⟩)] eg 0 Tryz.zeroValue3 g 0 cap l.toArray w
   (pred_leave tx B w hB hc) (over_leave tx B g 0 l.toArray.size w hB hBg hc) hH (by simp;omega) (by simpa using hnc)
  have hcon2:Calls Tryz.prog 238 #[.slice (some ⟨g,0,none⟩) l.length cap,.func (.func 239) #[] #[.pointer (some ⟨B,0,none⟩)]] w _:=hcon
  refine hcon2.mono ?_
  rintro e w' ⟨rfl,q,rfl⟩
  have hfl:(l.filter (fun x=>x != tx)).length≤l.length:=List.length_filter_le _ _
  refine⟨rfl,⟨by rw [intsV_length];omega,.inr ⟨g,cap,_,rfl,Nat.zero_le _,heap_putRow w g q _ cur _ _ hg,by omega,hcm,?_,?_⟩⟩,⟨rfl,rfl,rfl,?_,fun k _ hk=>ekHeap_putRow_other w g q k _ (fun e=>hk (by rw [e]))⟩⟩
  ·simpa [putCells] using hcs
  ·rw [Nat.mul_one]
   have e2:(l.filter (fun x=>x != tx)).length=(l.filter (fun x=>!x==tx)).length:=rfl
   exact ekPutCells_take _ _ cur (by simp;omega)
  ·show w.heap.size≤((Sort.ahead w q).heap.modify g _).size
   rw [Array.size_modify]
   exact Nat.le_refl _
end Go.Proofs.YtjefgmeejhakbaaGreatDoor
/- (*Table).leave. -/
namespace Go.Proofs.YtjefgmeejhakbaaGreatDoor
open Go.RowKit
variable {C:Emb}
set_option maxRecDepth 100000 in
set_option maxHeartbeats 2000000 in
theorem leave_none (s N:Nat) (M:LkM) (h wa:Int→Option Int) (ln:Int→List Int) (tx:Int) (w:World) (r:Raw C w s N M h wa ln) (hx:I64 tx) (hw:wa tx=none) :
  Calls Tryz.prog 207 #[.pointer (some ⟨s,C.o,none⟩),.int .i64 tx] w fun e w'=>e=.returned (.tuple #[])∧Below w.heap.size w w':=by
 have hA:Below w.heap.size w (w.alloc (.cells #[.int .i64 tx] 3)):=(Below.refl _ _).alloc (Nat.le_refl _) _
 have hs:=r.lt
 have c1:=r.c1
 have hl:∀ q,(Instr.lookup 69 (.map M.mw) (.int .i64 tx) true).run Tryz.prog ((w.alloc (.cells #[.int .i64 tx] 3)).drewN q)=.ok (.tuple #[.int .i64 0,.bool false]) ((w.alloc (.cells #[.int .i64 tx] 3)).drewN q):=fun q=>(by
  have:=((r.below hA).below (below_drewN (Below.refl _ _) q)).lookW hx
  rw [hw] at this
  exact this)
 clear r hw
 go_enter Tryz.func207,Tryz.ntmps207
 go_wp2
 go_quiet (fail)
 go_wp2
 refine bodyPost_ret (results_none rfl _ _ _) rfl ?_
 exact⟨rfl,below_drewN hA _⟩
theorem leave_end {w w1:World} {s N n g cap b:Nat} {M:LkM} {h wa:Int→Option Int} {ln:Int→List Int} {k:Int} {l:List Int} (r:Raw C w s N M h wa ln) (hb:M.ml=some b) (hk:I64 k) (hN:N≤1000000)
  (hv:M.lv k=some (.slice (some ⟨g,0,none⟩) n cap)) (ho:w1.ownsRow 0 3 1 (.slice (some ⟨g,0,none⟩) l.length cap) l.length (intsV l)) (hgr:w.grownBy w1 (some g)) (hl:l.length≤(ln k).length) :
  w1.cell? ⟨s,C.o+2,none⟩=some (.map (some b)) ∧
  (l=[]→∃ w3,(Builtin.delete_ #[157,3] 0 #[.map (some b),.int .i64 k]).run Tryz.prog w1=.ok (.tuple #[]) w3∧∃ M',Raw C w3 s (N+1) M' h wa (updT ln k l)∧KeptO (M.own s) (M'.own s) w w3) ∧
  (l≠[]→∃ w3,(Instr.mapUpdate 157 (.map (some b)) (.int .i64 k) (.slice (some ⟨g,0,none⟩) l.length cap)).run Tryz.prog w1=.ok () w3∧∃ M',Raw C w3 s (N+1) M' h wa (updT ln k l)∧KeptO (M.own s) (M'.own s) w w3):=by
 have hbl:=r.ml.lt hb
 have hlen:=r.len k
 have hB:∀ i,i<w.heap.size→(∀ v,M.lv k=some v→v.ownBlock≠some i)→w1.heap[i]?=w.heap[i]?:=fun i hi hn =>
  hgr.block i hi (fun e=>by cases e;exact hn _ hv rfl)
 have hI:IMap w b N M.lv:=MapIs.at (hb▸r.ml)
 have hI1:=hI.same (hB b hbl (fun v hv e=>(r.row_ne hv e).2.2.2 hb))
 refine⟨?_,fun hn=>?_,fun hn=>?_⟩
 ·refine (World.cell?_of_block (a:=⟨s,C.o+2,none⟩) (hB s r.lt (fun v hv e=>(r.row_ne hv e).1 rfl))).trans ?_
  rw [r.c2,hb]
 ·obtain⟨w3,hrun,hI3,hg3⟩:=hI1.del Tryz.underlying157 hk 0
  exact⟨w3,hrun,_,r.turnL (N':=N+1) (u:=none) (l:=l) hb (Nat.le_succ _) hB hgr.size ⟨hgr.os,hgr.tape,hgr.output⟩ (.inl ⟨hn,rfl⟩) (by omega) (hI3.mono (Nat.le_succ _)) hg3⟩
 ·obtain⟨w3,hrun,hI3,hg3⟩:=hI1.store Tryz.underlying157 (by unfold maxLen;omega) hk (.slice (some ⟨g,0,none⟩) l.length cap)
  exact⟨w3,hrun,_,r.turnL (N':=N+1) (l:=l) hb (Nat.le_succ _) hB hgr.size ⟨hgr.os,hgr.tape,hgr.output⟩ (.inr ⟨hn,_,rfl,ho,fun g' e=>.inl ⟨_,hv,e⟩⟩) (by omega) hI3 hg3⟩
set_option maxRecDepth 100000 in
set_option maxHeartbeats 4000000 in
theorem leave_some (s N:Nat) (M:LkM) (h wa:Int→Option Int) (ln:Int→List Int) (tx k:Int) (w:World) (r:Raw C w s N M h wa ln) (hx:I64 tx) (hk:I64 k) (hw:wa tx=some k) (hn:ln k≠[]) (hN:N≤100000) :
  Calls Tryz.prog 207 #[.pointer (some ⟨s,C.o,none⟩),.int .i64 tx] w fun e w'=>e=.returned (.tuple #[]) ∧
   ∃ M',Raw C w' s (N+1) M' h (updT wa tx none) (updT ln k ((ln k).filter (fun x=>x != tx)))∧KeptO (M.own s) (M'.own s) w w':=by
 obtain⟨b1,hm,_⟩:=r.mw.imap (a:=tx) (by rw [hw];simp)
 obtain⟨v0,hv0,ho0⟩:=r.ln1 k hn
 obtain⟨b2,hml,_⟩:=r.ml.imap (a:=k) (by rw [hv0];simp)
 have hA:Below w.heap.size w (w.alloc (.cells #[.int .i64 tx] 3)):=(Below.refl _ _).alloc (Nat.le_refl _) _
 have hs:=r.lt
 have c1:=r.c1
 rw [hm] at c1
 have hl:∀ q,(Instr.lookup 69 (.map (some b1)) (.int .i64 tx) true).run Tryz.prog ((w.alloc (.cells #[.int .i64 tx] 3)).drewN q)=.ok (.tuple #[.int .i64 k,.bool true]) ((w.alloc (.cells #[.int .i64 tx] 3)).drewN q):=fun q=>by
  have:=((r.below hA).below (below_drewN (Below.refl _ _) q)).lookW hx
  rw [hw,hm] at this
  exact this
 have HA:=hid hA
 have HR:=hid r
 clear hw r hA
 go_enter Tryz.func207,Tryz.ntmps207
 go_wp2
 go_quiet (fail)
 have hB1:=below_drewN HA.out (nq+1)
 have r1:=HR.out.below hB1
 have hcB:(w.alloc (.cells #[.int .i64 tx] 3)).heap[w.heap.size]?=some (.cells #[.int .i64 tx] 3 (0,0)):=heap_alloc_new w _
 clear hl
 obtain⟨W,hW⟩:∃ W,(w.alloc (.cells #[.int .i64 tx] 3)).drewN nq=W:=⟨_,rfl⟩
 have hcB1:W.heap[w.heap.size]?=some (.cells #[.int .i64 tx] 3 (0,0)):=by rw [← hW];exact ((below_drewN (Below.refl (w.heap.size+1) _) nq).block _ (Nat.lt_succ_self _)).trans hcB
 have r1:Raw C W.drew s N M h wa ln:=by rw [← hW];exact r1
 have hB1:Below w.heap.size w W.drew:=by rw [← hW];exact hB1
 rw [hW]
 clear hW hcB c1
 have c1:=r1.c1
 rw [hm] at c1
 have cB:W.cell? ⟨w.heap.size,0,none⟩=some (.int .i64 tx):=(cell_of_row _ _ 0 _ 3 (0,0) hcB1).trans rfl
 obtain⟨w2,hrun,hI,hg⟩:=(MapIs.at (show MapIs W.drew (some b1) N _ from hm▸r1.mw)).del Tryz.underlying69 hx 0
 obtain⟨r2,k2⟩:=r1.turnW (wa':=updT wa tx none) hm (Nat.le_refl N) (by rw [updT_map];exact hI) hg
 have hBb:w.heap.size≠b1:=by have:=HR.out.mw.lt hm;omega
 have hcB2:w2.heap[w.heap.size]?=some (.cells #[.int .i64 tx] 3 (0,0)):=(hg.block w.heap.size (Array.getElem?_eq_some_iff.1 hcB1).1 (fun e=>hBb (by cases e;rfl))).trans hcB1
 have cB2:w2.cell? ⟨w.heap.size,0,none⟩=some (.int .i64 tx):=(cell_of_row _ _ 0 _ 3 (0,0) hcB2).trans rfl
 have c12:=r2.c1
 rw [hm] at c12
 have c22:=r2.c2
 rw [hml] at c22
 have hl2:=r2.lookL hk
 rw [hml,hv0] at hl2
 simp only [Option.getD_some] at hl2
 have HR2:=hid r2
 have HB1:=hid hB1
 have HK2:=hid k2
 clear r1 hI hg r2 k2 hB1 hcB1 hcB2
 go_wp2
 go_region_held3 (fun W=>W.cell? ⟨s,C.o+1,none⟩=some (.map (some b1))∧W.cell? ⟨w.heap.size,0,none⟩=some (.int .i64 tx))
  (first
   | go_keep
   | exact⟨c12,cB2⟩)
  (refine step_del (by rfl) _ _ _ _ (by rfl) _ _ (by rfl) (by rfl) hrun ?_)
 rcases row_slice ho0 with ⟨_,e0⟩ | ⟨g,cap,rfl,hgl,_⟩
 ·exact (hn (List.eq_nil_of_length_eq_zero e0)).elim
 clear hrun c12 c1 cB
 have hlen:=HR2.out.len k
 have hgB:w.heap.size≠g:=by omega
 have ho2:=(HR2.out.row hv0).2
 go_wp2_with fail
 refine (del_any g cap w.heap.size (ln k) tx _ ho2 cB2 hgB (by omega)).mono ?_
 rintro e w3 ⟨rfl,ho3,hg3⟩
 have hfl:((ln k).filter (fun x=>x != tx)).length≤(ln k).length:=List.length_filter_le _ _
 obtain⟨c3,hE,hF⟩:=leave_end HR2.out hml hk (by omega) hv0 ho3 hg3 hfl
 have HKK:=hid ((KeptO.of_below (o:=M.own s) HB1.out).trans HK2.out)
 clear hl2 c22 ho2 cB2 hgB ho3 hg3 hm hml hv0 ho0
 obtain⟨l,hle⟩:∃ l,(ln k).filter (fun x=>x != tx)=l:=⟨_,rfl⟩
 rw [hle] at hE hF hfl ⊢
 have HL:=hid hle
 clear hle
 by_cases hl0:l=[]
 ·obtain⟨w4,hrun,hpost⟩:=hE hl0
  have HP:=hid hpost
  have e1:(((l.length:Nat):Int)==0)=true:=by simp [hl0]
  clear hE hF hpost hl0
  go_wp2_with (at_delete;refine wpList_del (by rfl) _ _ _ _ (by rfl) _ _ (by rfl) (by rfl) hrun ?_)
  refine bodyPost_ret (results_none rfl _ _ _) rfl ?_
  rw [HL.out]
  obtain⟨M',hM,hK'⟩:=HP.out
  exact⟨rfl,M',hM,HKK.out.trans hK'⟩
 ·obtain⟨w4,hrun,hpost⟩:=hF hl0
  have HP:=hid hpost
  have e1:(((l.length:Nat):Int)==0)=false:=by simp [hl0]
  clear hE hF hpost hl0
  go_wp2
  refine bodyPost_end (results_none rfl _ _ _) rfl ?_
  rw [HL.out]
  obtain⟨M',hM,hK'⟩:=HP.out
  exact⟨rfl,M',hM,HKK.out.trans hK'⟩
end Go.Proofs.YtjefgmeejhakbaaGreatDoor
