/- FeNew FeReady FrStep M2Why FeAhead FeHead BsOpen BsReady BsBase BsWent: put together for a claim. -/
import Derived.Test.YtjefgmeejhakbaaGreatDoorMgAZ
import Derived.Test.YtjefgmeejhakbaaGreatDoorMgAV
/- The document's engine: New. -/
namespace Go.Proofs.YtjefgmeejhakbaaGreatDoor
open Go.RowKit
def reng0:REng:=⟨[],0,fun _=>[],[],0,fun _=>none,0,[]⟩
def renl0 (mb:Nat):REnL:=⟨mb+1,.slice none 0 0,List.replicate 10 (.slice none 0 0),.slice none 0 0,[],mb,.slice none 0 0⟩
def rcells0 (mb:Nat):Array Value:=#[.slice none 0 0,.int .i64 0,.slice none 0 0,.slice none 0 0,.slice none 0 0,.slice none 0 0,.slice none 0 0,.slice none 0 0,.slice none 0 0,.slice none 0 0,.slice none 0 0,.slice none 0 0,.slice none 0 0,.int .i64 0,.map (some mb),.slice none 0 0]
theorem renAt0 (w:World):REnAt ((w.alloc (.map #[] 0)).alloc (.cells (rcells0 w.heap.size) 113)) (renl0 w.heap.size) reng0:=by
 have hblk:((w.alloc (.map #[] 0)).alloc (.cells (rcells0 w.heap.size) 113)).heap[w.heap.size+1]?=some (.cells (rcells0 w.heap.size) 113 (0,0)):=by
  have:=heap_alloc_new (w.alloc (.map #[] 0)) (.cells (rcells0 w.heap.size) 113)
  simpa using this
 have hn:∀ (k:Nat) (v:Value),(List.replicate 10 (Value.slice none 0 0))[k]?=some v→v=.slice none 0 0:=fun k v hv=>List.eq_of_mem_replicate (List.mem_of_getElem? hv)
 refine⟨hblk,World.ownsRow_nil _ _ _ _,fun _=>rfl,rfl,fun k v hv=>?_,fun k v hv _=>hn k v hv,World.ownsRow_nil _ _ _ _,rfl,fun i l t hl _=>(by cases hl),?_,World.ownsRow_nil _ _ _ _,fun g=>if g=w.heap.size then .byc else .eng,?_⟩
 ·rw [hn k v hv]
  exact World.ownsRow_nil _ _ _ _
 ·exact ((IMap.made w).same (Below.heap_alloc _ _ _ (by simp))).congr (fun a=>rfl)
 ·refine⟨if_neg (by show ¬ w.heap.size+1=w.heap.size;omega),fun g hg=>(by cases hg),fun g hg=>?_,fun g hg=>(by cases hg),if_pos rfl,fun g hg=>(by cases hg),fun i l hl=>(by cases hl),fun i l p g hl=>(by cases hl)⟩
  obtain⟨v,hv,hg⟩:=hg
  rw [List.eq_of_mem_replicate hv] at hg
  cases hg
theorem renl0_own {mb g:Nat} (h:(renl0 mb).own g):mb≤g:=by
 rcases h with h | h | h | h | h | h | ⟨l,hl,_⟩
 ·rw [h];exact Nat.le_succ _
 ·cases h
 ·obtain⟨v,hv,hg⟩:=h
  rw [List.eq_of_mem_replicate hv] at hg
  cases hg
 ·cases h
 ·rw [h];exact Nat.le_refl _
 ·cases h
 ·cases hl
set_option maxRecDepth 100000 in
set_option maxHeartbeats 1000000 in
theorem rnew_any (w:World):Calls Tryz.prog 74 #[] w fun e w'=>∃ L,e=.returned (ptrV L.R)∧REnAt w' L reng0∧Below w.heap.size w w'∧∀ g,L.own g→w.heap.size≤g:=by
 have hmm:=@run_makeMap Tryz.prog
 have H0:=hid (And.intro (renAt0 w) (show Below w.heap.size w ((w.alloc (.map #[] 0)).alloc (.cells (rcells0 w.heap.size) 113)) from ((Below.refl _ w).alloc (Nat.le_refl _) _).alloc (by simp) _))
 go_enter Tryz.func74,Tryz.ntmps74
 go_wp2
 go_ret
 refine⟨renl0 w.heap.size,?_,H0.out.1,H0.out.2,fun g hg=>renl0_own hg⟩
 simp [ptrV,renl0]
end Go.Proofs.YtjefgmeejhakbaaGreatDoor
/- The document's engine: Ready. -/
namespace Go.Proofs.YtjefgmeejhakbaaGreatDoor
open Go.RowKit
def rdyR (E:REng) (t:RTx):Int:=if t.level=2∧(anyR E t.behind&&anyR E t.ahead)=true then 13 else 0
section
variable {w w':World} {t:RTx} {L:REnL} {E:REng}
set_option maxRecDepth 100000 in
set_option maxHeartbeats 1000000 in
theorem rready_shut (h:REnAt w L E) {n c:Int} (hle:E.txs.length≤1000) (hc:(c=7∧(n<1∨(E.txs.length:Int)<n))∨(c=6∧∃ (i:Nat) (t:RTx),n=(i:Int)+1∧E.txs[i]?=some t∧t.state≠0)) :
  Calls Tryz.prog 85 #[.pointer (some ⟨L.R,0,none⟩),.int .i64 n] w fun e w'=>e=.returned (.int .i64 c)∧w'=w:=by
 have HF:Hid (Calls Tryz.prog 90 #[.pointer (some ⟨L.R,0,none⟩),.int .i64 n,.bool true] w fun e w'=>e=.returned (.tuple #[.pointer none,.int .i64 c])∧w'=w):=by
  rcases hc with ⟨rfl,hn⟩ | ⟨rfl,i,t,rfl,ht,hs⟩
  ·exact rof_miss h true hn
  ·exact rof_shut h ht hs hle
 have gc:(c==0)=false:=by rcases hc with ⟨rfl,_⟩ | ⟨rfl,_⟩<;>rfl
 clear h hc
 go_enter Tryz.func85,Tryz.ntmps85
 go_wp2_with fail
 refine HF.out.mono ?_
 rintro e w1 ⟨rfl,rfl⟩
 go_wp2
 go_ret
 exact⟨rfl,rfl⟩
set_option maxRecDepth 100000 in
set_option maxHeartbeats 1000000 in
theorem rready_main (h:REnAt w L E) {i:Nat} (ht:E.txs[i]?=some t) (hs:t.state=0) (hle:E.txs.length≤1000) (hb:∀ x∈t.behind,x<E.txs.length) (ha:∀ x∈t.ahead,x<E.txs.length) (hnb:t.behind.length≤2000000000) (hna:t.ahead.length≤2000000000) :
  Calls Tryz.prog 85 #[.pointer (some ⟨L.R,0,none⟩),.int .i64 ((i:Int)+1)] w fun e w'=>e=.returned (.int .i64 (rdyR E t))∧w'=w:=by
 have HF:=hid (rof_ok h true ht (fun _=>hs) hle)
 have HC:=hid (fun (l:RTxL) (hl:L.txs[i]?=some l)=>And.intro ((h.txs i l t hl ht).cell 0) (rbetween_any h hl ht hb ha hnb hna))
 clear h ht hb ha
 go_enter Tryz.func85,Tryz.ntmps85
 go_wp2_with fail
 refine HF.out.mono ?_
 rintro e w1 ⟨l,hl,rfl,hw1⟩
 rw [hw1]
 obtain⟨cz,hbt⟩:=HC.out l hl
 have c0:w.cell? ⟨l.b,0,none⟩=some (.int .i64 t.level):=cz.trans rfl
 obtain⟨bt,hbe⟩:∃ bt,(anyR E t.behind&&anyR E t.ahead)=bt:=⟨_,rfl⟩
 rw [hbe] at hbt
 have HBT:=hid hbt
 have HBE:=hid hbe
 simp only [ptrV]
 clear hw1 w1 hl HF HC hbt hbe cz
 by_cases h2:t.level=2
 ·rw [h2] at c0
  have HLV:=hid h2
  clear h2
  go_wp2_with fail
  refine HBT.out.mono ?_
  rintro e w1 ⟨rfl,hw1⟩
  rw [hw1]
  clear hw1 w1
  cases bt with
  | false =>
   have HV:=hid (show rdyR E t=0 by unfold rdyR;rw [HBE.out,if_neg (by simp)])
   go_wp2
   go_ret
   exact⟨by rw [HV.out];rfl,rfl⟩
  | true =>
   have HV:=hid (show rdyR E t=13 by unfold rdyR;rw [HBE.out,HLV.out];rfl)
   go_wp2
   go_ret
   exact⟨by rw [HV.out];rfl,rfl⟩
 ·have q:(t.level==2)=false:=by simpa using h2
  have HV:=hid (show rdyR E t=0 by unfold rdyR;rw [if_neg (fun e=>h2 e.1)])
  clear h2
  go_wp2
  go_ret
  exact⟨by rw [HV.out];rfl,rfl⟩
end
end Go.Proofs.YtjefgmeejhakbaaGreatDoor
/- The document's engine and the landed one, plain: steps. -/
namespace Go.Proofs.YtjefgmeejhakbaaGreatDoor
section
variable {B B':Nat} {E:Eng} {R:REng} {i j:Nat} {t t' u:Tx} {r r' s:RTx}
theorem anyR_iff (R:REng) (l:List Nat):anyR R l=true↔∃ x∈l,stR R x≠3:=by
 unfold anyR
 rw [List.any_eq_true]
 simp [stR]
theorem Rel.bet (h:Rel B E R) (ht:E.txs[i]?=some t) (hr:R.txs[i]?=some r):betB t.ahead t.behind=(anyR R r.behind&&anyR R r.ahead):=by
 have hx:=h.tx i t r ht hr
 have h1:(∃ x,t.behind x=true)↔anyR R r.behind=true:=by
  rw [anyR_iff]
  constructor
  ·rintro⟨x,hx'⟩
   obtain⟨j,_,h1,h2⟩:=(hx.be x).1 hx'
   exact⟨j,h1,by rw [h.stR];exact h2⟩
  ·rintro⟨j,h1,h2⟩
   exact⟨(j:Int)+1,(hx.be _).2 ⟨j,rfl,h1,by rw [← h.stR];exact h2⟩⟩
 have h2:(∃ x,t.ahead x=true)↔anyR R r.ahead=true:=by
  rw [anyR_iff]
  constructor
  ·rintro⟨x,hx'⟩
   obtain⟨j,_,h1,h2⟩:=(hx.ah x).1 hx'
   exact⟨j,h1,by rw [h.stR];exact h2⟩
  ·rintro⟨j,h1,h2⟩
   exact⟨(j:Int)+1,(hx.ah _).2 ⟨j,rfl,h1,by rw [← h.stR];exact h2⟩⟩
 rw [Bool.eq_iff_iff,betB_true,Bool.and_eq_true,← h1,← h2]
 exact And.comm
theorem Rel.bl (h:Rel B E R) (hr:R.txs[i]?=some r):(∀ x∈r.behind,x<R.txs.length)∧(∀ x∈r.ahead,x<R.txs.length):=by
 obtain⟨t,ht,hx⟩:=h.getE hr
 rw [h.len]
 exact⟨hx.bl,hx.al⟩
theorem Rel.ahead1 (h:Rel B E R) (ht:E.txs[i]?=some t) (hr:R.txs[i]?=some r) (l1:t.level=2) (s1:t.state≠3) (hj:stE E j≠3) :
  Rel (B+1) (E.setTx i { t with behind:=fun a=>t.behind a||a==(j:Int)+1 }) (R.setTx i { r with behind:=r.behind++[j] }):=by
 have hx:=h.tx i t r ht hr
 obtain⟨u,hu,_⟩:=stE_get hj
 have hjl:=(List.getElem?_eq_some_iff.1 hu).1
 refine h.setTx ht hr s1 (.inl rfl) ⟨hx.level,hx.state,hx.why,hx.start,hx.want,hx.own,hx.reads,hx.seen,fun x=>?_,hx.ah,fun x hx'=>?_,hx.al,fun e=>(e l1).elim⟩ (fun _=>⟨rfl,rfl⟩) ⟨rfl,rfl⟩ rfl rfl ⟨by simp,by simp,by simp,by simp⟩ (by show B+1+1000*potT t≤_;omega)
 ·simp only [Bool.or_eq_true,beq_iff_eq,hx.be x,List.mem_append,List.mem_singleton]
  constructor
  ·rintro (⟨m,e,h1,h2⟩ | e)
   ·exact⟨m,e,.inl h1,h2⟩
   ·exact⟨j,e,.inr rfl,hj⟩
  ·rintro⟨m,e,h1 | h1,h2⟩
   ·exact .inl ⟨m,e,h1,h2⟩
   ·subst h1;exact .inr e
 ·rcases List.mem_append.1 hx' with h1 | h1
  ·exact hx.bl x h1
  ·rw [List.mem_singleton] at h1;rw [h1];exact hjl
theorem Rel.ahead2 (h:Rel B E R) (ht:E.txs[i]?=some t) (hr:R.txs[i]?=some r) (l1:t.level=2) (s1:t.state≠3) (hj:stE E j≠3) :
  Rel (B+1) (E.setTx i { t with ahead:=fun a=>t.ahead a||a==(j:Int)+1 }) (R.setTx i { r with ahead:=r.ahead++[j] }):=by
 have hx:=h.tx i t r ht hr
 obtain⟨u,hu,_⟩:=stE_get hj
 have hjl:=(List.getElem?_eq_some_iff.1 hu).1
 refine h.setTx ht hr s1 (.inl rfl) ⟨hx.level,hx.state,hx.why,hx.start,hx.want,hx.own,hx.reads,hx.seen,hx.be,fun x=>?_,hx.bl,fun x hx'=>?_,fun e=>(e l1).elim⟩ (fun _=>⟨rfl,rfl⟩) ⟨rfl,rfl⟩ rfl rfl ⟨by simp,by simp,by simp,by simp⟩ (by show B+1+1000*potT t≤_;omega)
 ·simp only [Bool.or_eq_true,beq_iff_eq,hx.ah x,List.mem_append,List.mem_singleton]
  constructor
  ·rintro (⟨m,e,h1,h2⟩ | e)
   ·exact⟨m,e,.inl h1,h2⟩
   ·exact⟨j,e,.inr rfl,hj⟩
  ·rintro⟨m,e,h1 | h1,h2⟩
   ·exact .inl ⟨m,e,h1,h2⟩
   ·subst h1;exact .inr e
 ·rcases List.mem_append.1 hx' with h1 | h1
  ·exact hx.al x h1
  ·rw [List.mem_singleton] at h1;rw [h1];exact hjl
theorem Rel.ahead (h:Rel B E R) (hij:i≠j) (ht:E.txs[i]?=some t) (hu:E.txs[j]?=some u) (hr:R.txs[i]?=some r) (hs:R.txs[j]?=some s) (l1:t.level=2) (l2:u.level=2) (s1:t.state≠3) (s2:u.state≠3) :
    Rel (B+2) (putAheadP E i j).2 ((R.setTx i { r with behind:=r.behind++[j] }).setTx j { s with ahead:=s.ahead++[i] }) ∧
      (putAheadP E i j).1=!((t.state==2&&(anyR ((R.setTx i { r with behind:=r.behind++[j] }).setTx j { s with ahead:=s.ahead++[i] }) (r.behind++[j])&&anyR ((R.setTx i { r with behind:=r.behind++[j] }).setTx j { s with ahead:=s.ahead++[i] }) r.ahead)) ||
        (u.state==2&&(anyR ((R.setTx i { r with behind:=r.behind++[j] }).setTx j { s with ahead:=s.ahead++[i] }) s.behind&&anyR ((R.setTx i { r with behind:=r.behind++[j] }).setTx j { s with ahead:=s.ahead++[i] }) (s.ahead++[i])))):=by
  have h1:=h.ahead1 (j:=j) ht hr l1 s1 (by rw [stE_some hu];exact s2)
  have hu1:(E.setTx i { t with behind:=fun a=>t.behind a||a==(j:Int)+1 }).txs[j]?=some u:=by rw [setTx_get_ne hij];exact hu
  have hs1:(R.setTx i { r with behind:=r.behind++[j] }).txs[j]?=some s:=by rw [rsetTx_ne hij];exact hs
  have ht1:=setTx_get (t:={ t with behind:=fun a=>t.behind a||a==(j:Int)+1 }) ht
  have h2:=h1.ahead2 (j:=i) hu1 hs1 l2 s2 (by rw [stE_some ht1];exact s1)
  have hP:putAheadP E i j=(!stuckB t.state t.ahead (fun a=>t.behind a||a==(j:Int)+1)&&!stuckB u.state (fun a=>u.ahead a||a==(i:Int)+1) u.behind,
      (E.setTx i { t with behind:=fun a=>t.behind a||a==(j:Int)+1 }).setTx j { u with ahead:=fun a=>u.ahead a||a==(i:Int)+1 }):=by
    unfold putAheadP;rw [ht,hu]
  rw [hP]
  refine⟨h2,?_⟩
  have hr1:=rsetTx_get (t:={ r with behind:=r.behind++[j] }) hr
  have b1:=h2.bet (i:=i) (by rw [setTx_get_ne (Ne.symm hij)];exact ht1) (by rw [rsetTx_ne (Ne.symm hij)];exact hr1)
  have b2:=h2.bet (i:=j) (setTx_get hu1) (rsetTx_get hs1)
  simp only at b1 b2
  simp only [stuckB,b1,b2,Bool.not_or]
def goneE (E:Eng) (i:Nat) (why:Int):Eng:=(loseE E i why).upd i (fun t=>{ t with state:=3,bae:=E.txs.length })
theorem lose_txs (ht:E.txs[i]?=some t) (why:Int):(loseE E i why).txs=((E.txs.set i { t with why:=why }).map (freeOf ((i:Int)+1))).set i { freeOf ((i:Int)+1) { t with why:=why } with reads:=[] }:=by
 unfold loseE
 rw [ht]
 simp only
 have h2:({ E with txs:=(E.txs.set i { t with why:=why }).map (freeOf ((i:Int)+1)) }:Eng).txs[i]?=some (freeOf ((i:Int)+1) { t with why:=why }):=by
  have:=(List.getElem?_eq_some_iff.1 ht).1
  simp [this]
 rw [Eng.upd_some h2]
 rfl
theorem lose_i (ht:E.txs[i]?=some t) (why:Int):(loseE E i why).txs[i]?=some { freeOf ((i:Int)+1) { t with why:=why } with reads:=[] }:=by
 have:=(List.getElem?_eq_some_iff.1 ht).1
 rw [lose_txs ht]
 simp [this]
theorem lose_ne (ht:E.txs[i]?=some t) (why:Int) (hij:j≠i):(loseE E i why).txs[j]?=(E.txs[j]?).map (freeOf ((i:Int)+1)):=by
 rw [lose_txs ht,List.getElem?_set,if_neg (fun e=>hij e.symm),List.getElem?_map,List.getElem?_set,if_neg (fun e=>hij e.symm)]
theorem gone_i (ht:E.txs[i]?=some t) (why:Int):(goneE E i why).txs[i]?=some { freeOf ((i:Int)+1) { t with why:=why } with reads:=[],state:=3,bae:=E.txs.length }:=by
 unfold goneE
 rw [Eng.upd_some (lose_i ht why)]
 exact setTx_get (lose_i ht why)
theorem gone_ne (ht:E.txs[i]?=some t) (why:Int) (hij:j≠i):(goneE E i why).txs[j]?=(E.txs[j]?).map (freeOf ((i:Int)+1)):=by
 unfold goneE
 rw [Eng.upd_some (lose_i ht why),setTx_get_ne (fun e=>hij e.symm),lose_ne ht why hij]
theorem gone_rest (E:Eng) (i:Nat) (why:Int):SameRest E (goneE E i why)∧(goneE E i why).T=E.T∧(goneE E i why).nw=E.nw:=by
 have h1:=rest_lose E i why
 have h2:=rest_upd (loseE E i why) i (fun t=>{ t with state:=3,bae:=E.txs.length })
 have hn:(loseE E i why).nw=E.nw:=by
  unfold loseE Eng.upd
  split
  ·simp only;split<;>rfl
  ·rfl
 refine⟨h1.trans h2,?_,?_⟩
 ·have h3:=lose_T E i why
  unfold goneE Eng.upd
  split
  ·exact h3
  ·exact h3
 ·unfold goneE Eng.upd
  split
  ·exact hn
  ·exact hn
theorem gone_over (E:Eng) (i:Nat) (why:Int):overE (loseE E i why) i 3={ goneE E i why with T:=dropP E.T ((i:Int)+1) }:=by
 have h1:=(rest_lose E i why).2.2.2.2
 have h2:=(gone_rest E i why).2.1
 unfold overE
 simp only [h1]
 show { goneE E i why with T:=dropP (goneE E i why).T ((i:Int)+1) }=_
 rw [h2]
theorem potL_free (n:Int):∀ l:List Tx,potL (l.map (freeOf n))=potL l
 | []=>rfl
 | a::r=>by
  have:=potL_free n r
  simp only [potL,List.map_cons,List.sum_cons] at this ⊢
  rw [this]
  rfl
theorem gone_pot (ht:E.txs[i]?=some t) (why:Int):pot (goneE E i why)+potT t=pot E:=by
 have hi:=(List.getElem?_eq_some_iff.1 ht).1
 have h1:=lose_txs ht why
 have h2:pot (loseE E i why)=pot E:=by
  unfold pot
  rw [h1]
  have a1:=potL_set (l:=(E.txs.set i { t with why:=why }).map (freeOf ((i:Int)+1))) (i:=i) (t:=freeOf ((i:Int)+1) { t with why:=why }) { freeOf ((i:Int)+1) { t with why:=why } with reads:=[] } (by simp [hi])
  have a2:=potL_set (l:=E.txs) (i:=i) (t:=t) { t with why:=why } ht
  rw [potL_free] at a1
  have e1:potT { freeOf ((i:Int)+1) { t with why:=why } with reads:=[] }=potT t:=rfl
  have e2:potT (freeOf ((i:Int)+1) { t with why:=why })=potT t:=rfl
  have e3:potT ({ t with why:=why }:Tx)=potT t:=rfl
  omega
 have h3:=pot_set (E:=loseE E i why) { freeOf ((i:Int)+1) { t with why:=why } with reads:=[],state:=3,bae:=E.txs.length } (lose_i ht why)
 have e4:potT ({ freeOf ((i:Int)+1) { t with why:=why } with reads:=[],state:=3,bae:=E.txs.length }:Tx)=0:=rfl
 have e1:potT ({ freeOf ((i:Int)+1) { t with why:=why } with reads:=[] }:Tx)=potT t:=rfl
 have e5:goneE E i why=(loseE E i why).setTx i { freeOf ((i:Int)+1) { t with why:=why } with reads:=[],state:=3,bae:=E.txs.length }:=by
  unfold goneE
  rw [Eng.upd_some (lose_i ht why)]
 rw [e5]
 omega
def goneR (R:REng) (i:Nat) (r:RTx) (why:Int):REng:=({ R with step:=R.step+1 }:REng).setTx i { r with state:=3,why:=why,over:=R.step+1 }
theorem Rel.gone (h:Rel B E R) (ht:E.txs[i]?=some t) (hr:R.txs[i]?=some r) (hl:liveB t.state=true) (why:Int):Rel B (goneE E i why) (goneR R i r why):=by
 have hi:=(List.getElem?_eq_some_iff.1 ht).1
 have hx:=h.tx i t r ht hr
 obtain⟨hrest,hT,hnw⟩:=gone_rest E i why
 obtain⟨rk,rl,rw',rc,rn⟩:=hrest
 have hst:∀ j,stE (goneE E i why) j=if j=i then 3 else stE E j:=fun j=>by
  by_cases e:j=i
  ·subst e
   rw [if_pos rfl,stE_some (gone_i ht why)]
  ·rw [if_neg e]
   unfold stE
   rw [gone_ne ht why e,Option.map_map]
   rfl
 have hs2:t.state≠2:=by rcases live_iff.1 hl with e | e<;>omega
 have hst2:∀ j,stE E j=2→stE (goneE E i why) j=2:=fun j hj=>by
  rw [hst]
  by_cases e:j=i
  ·subst e
   rw [stE_some ht] at hj
   exact (hs2 hj).elim
  ·rw [if_neg e];exact hj
 have hcom:∀ j∈E.com,j≠i:=fun j hj e=>by
  have:=h.coms j hj
  rw [e,stE_some ht] at this
  exact hs2 this
 have hfree:∀ (a:Nat) (u:Tx) (s:RTx),RelTx (stE E) E.txs.length a u s→(∀ x,(freeOf ((i:Int)+1) u).behind x=true↔∃ j:Nat,x=(j:Int)+1∧j∈s.behind∧stE (goneE E i why) j≠3) ∧
   (∀ x,(freeOf ((i:Int)+1) u).ahead x=true↔∃ j:Nat,x=(j:Int)+1∧j∈s.ahead∧stE (goneE E i why) j≠3):=fun a u s hu=>by
  have key:∀ (f:Int→Bool) (l:List Nat),(∀ x,f x=true↔∃ j:Nat,x=(j:Int)+1∧j∈l∧stE E j≠3)→∀ x,(f x&&x != (i:Int)+1)=true↔∃ j:Nat,x=(j:Int)+1∧j∈l∧stE (goneE E i why) j≠3:=fun f l hf x=>by
   rw [Bool.and_eq_true,hf x]
   constructor
   ·rintro⟨⟨j,e,h1,h2⟩,h3⟩
    have h3':x≠(i:Int)+1:=by simpa using h3
    refine⟨j,e,h1,?_⟩
    rw [hst,if_neg (fun e'=>h3' (by rw [e,e']))]
    exact h2
   ·rintro⟨j,e,h1,h2⟩
    rw [hst] at h2
    have hji:j≠i:=fun e'=>by rw [if_pos e'] at h2;exact h2 rfl
    rw [if_neg hji] at h2
    exact⟨⟨j,e,h1,h2⟩,by simp only [bne_iff_ne,ne_eq];omega⟩
  exact⟨key _ _ hu.be,key _ _ hu.ah⟩
 obtain⟨N,z1,z2,z3,z4⟩:=h.sz
 have hp:=gone_pot ht why
 have hpt:1≤potT t:=by unfold potT;rw [if_pos hl];omega
 have hRl:(goneR R i r why).txs.length=R.txs.length:=by simp [goneR,REng.setTx]
 refine⟨by rw [hRl,rn];exact h.len,by rw [rn];exact h.le,fun j a b ha hb=>?_,h.last.trans rl.symm,h.T.trans hT.symm,by rw [hT];exact h.good,by rw [hT,rn];exact h.mem,by rw [rk,rl];exact h.doc,by rw [rl];exact h.lb,h.tim,by rw [rl,rw'];exact h.wr,fun c x hc=>?_,by rw [hnw];exact h.nw,fun j hj=>?_,by rw [rc];exact h.comn,?_,fun b hb=>?_,fun a ha=>?_,fun a b ra rb tb hra hrb htb hlb=>?_,by show 0≤R.step+1;have:=h.s0;omega,fun a ha h3a=>?_,N+1,fun b hb=>?_,by show R.step+1≤_;omega,by show R.nb≤_;omega,by show N+1+1000*pot (goneE E i why)+1000*R.kept.length≤B;omega⟩
 ·rw [rn]
  rcases rset_cases hb with ⟨rfl,rfl⟩ | ⟨e,hb⟩
  ·rw [gone_i ht why] at ha
   cases ha
   obtain⟨f1,f2⟩:=hfree j t r hx
   exact⟨hx.level,rfl,rfl,hx.start,hx.want,hx.own,fun e=>(e rfl).elim,fun e=>(e rfl).elim,f1,f2,hx.bl,hx.al,hx.non⟩
  ·rw [gone_ne ht why e] at ha
   obtain⟨u,hu,rfl⟩:=Option.map_eq_some_iff.1 ha
   have hu':=h.tx j u b hu hb
   obtain⟨f1,f2⟩:=hfree j u b hu'
   exact⟨hu'.level,hu'.state,hu'.why,hu'.start,hu'.want,hu'.own,hu'.reads,hu'.seen,f1,f2,hu'.bl,hu'.al,hu'.non⟩
 ·rw [rw'] at hc
  obtain⟨m,e,hm⟩:=h.wrc c x hc
  exact⟨m,e,hst2 m hm⟩
 ·rw [rc] at hj
  exact hst2 j (h.coms j hj)
 ·show R.hist=_
  refine h.hist.trans (hist_congr rc (fun j hj a ha=>?_) (fun j hj=>by obtain⟨u,hu,_⟩:=h.comE hj;exact⟨u,hu⟩)).symm
  exact⟨freeOf ((i:Int)+1) a,by rw [gone_ne ht why (hcom j hj),ha];rfl,rfl,rfl⟩
 ·show b.begun≤R.step+1∧b.over≤R.step+1
  rcases List.mem_or_eq_of_mem_set hb with hb | rfl
  ·have:=h.bg b hb;omega
  ·have:=h.bg r (List.mem_of_getElem? hr)
   show r.begun≤R.step+1∧R.step+1≤R.step+1
   omega
 ·rw [rn]
  obtain⟨m,hm,e⟩:=List.mem_iff_getElem.1 ha
  have hm':=List.getElem?_eq_getElem hm
  rw [e] at hm'
  by_cases em:m=i
  ·subst em
   rw [gone_i ht why] at hm'
   cases hm'
   exact Int.le_refl _
  ·rw [gone_ne ht why em] at hm'
   obtain⟨u,hu,rfl⟩:=Option.map_eq_some_iff.1 hm'
   exact h.bae u (List.mem_of_getElem? hu)
 ·have hra2:∃ ra',R.txs[a]?=some ra'∧ra.begun=ra'.begun:=by
   rcases rset_cases hra with ⟨rfl,rfl⟩ | ⟨_,hra⟩
   ·exact⟨r,hr,rfl⟩
   ·exact⟨ra,hra,rfl⟩
  obtain⟨ra',a1,a2⟩:=hra2
  have hal:a<E.txs.length:=by rw [← h.len];exact (List.getElem?_eq_some_iff.1 a1).1
  rcases rset_cases hrb with ⟨rfl,rfl⟩ | ⟨e,hrb⟩
  ·rw [gone_i ht why] at htb
   cases htb
   have:=h.bg ra' (List.mem_of_getElem? a1)
   show ra.begun<R.step+1↔(a:Int)+1≤(E.txs.length:Int)
   rw [a2]
   exact⟨fun _=>by omega,fun _=>by omega⟩
  ·rw [gone_ne ht why e] at htb
   obtain⟨u,hu,rfl⟩:=Option.map_eq_some_iff.1 htb
   rw [a2]
   exact h.ord a b ra' rb u a1 hrb hu hlb
 ·obtain⟨m,hm,e⟩:=List.mem_iff_getElem.1 ha
  have hm':=List.getElem?_eq_getElem hm
  rw [e] at hm'
  by_cases em:m=i
  ·subst em
   rw [gone_i ht why] at hm'
   cases hm'
   exact (h3a rfl).elim
  ·rw [gone_ne ht why em] at hm'
   obtain⟨u,hu,rfl⟩:=Option.map_eq_some_iff.1 hm'
   exact h.wy u (List.mem_of_getElem? hu) h3a
 ·rcases List.mem_or_eq_of_mem_set hb with hb | rfl
  ·exact (z1 b hb).mono (by omega)
  ·exact (z1 r (List.mem_of_getElem? hr)).mono (by omega)
theorem Rel.newer (h:Rel B E R) {k:Nat} (hk:k<10) (c:Int):newsR (k:Int) c R.kept=newerP E (k:Int) c:=by
 unfold newerP
 rw [Int.toNat_natCast,h.doc.eq k hk,Option.getD_some]
 exact news_sub (k:Int) c R.kept (h.doc.rise k)
theorem Rel.newerR (h:Rel B E R) (k c:Int):(newsR k c R.kept).Pairwise (·≤·):=news_pair k c R.kept (h.doc.rise k)
theorem Rel.ver (h:Rel B E R) {k:Nat} (hk:k<10) (c:Int):verP E (k:Int) c=((best (k:Int) c R.kept).getD (0,0),errOf (best (k:Int) c R.kept)):=by
 unfold verP
 rw [Int.toNat_natCast,h.doc.eq k hk,Option.getD_some,best_sub (k:Int) c R.kept (h.doc.rise k)]
 cases rdP c (sub (k:Int) R.kept)<;>rfl
theorem Rel.ver_le (h:Rel B E R) {k:Nat} (hk:k<10) (c:Int):0≤(verP E (k:Int) c).1.1∧(verP E (k:Int) c).1.1≤E.last:=by
 have h0:=h.lb
 unfold verP
 rw [Int.toNat_natCast,h.doc.eq k hk,Option.getD_some]
 cases hr:rdP c (sub (k:Int) R.kept) with
 | none=>simp only;omega
 | some q =>
  have hm:=mem_sub.1 (rdP_mem hr)
  have h1:=h.tim _ hm
  have h2:=h.doc.top _ hm
  exact⟨h1,h2⟩
theorem Rel.newer_le (h:Rel B E R) {k:Nat} (hk:k<10) {c a:Int} (ha:a∈newerP E (k:Int) c):0≤a∧a≤E.last:=by
 rw [← h.newer hk c] at ha
 unfold newsR at ha
 obtain⟨x,hx,rfl⟩:=List.mem_map.1 ha
 have hm:=(List.mem_filter.1 hx).1
 exact⟨h.tim x hm,h.doc.top x hm⟩
theorem Rel.fits (h:Rel B E R) (hB:B≤10000000):Fits E:=by
 have hk:=h.keptB
 have hl:=h.lb
 refine⟨fun l hl'=>?_,fun l hl' p hp=>?_⟩
 ·have:=h.doc.bound l hl'
  omega
 ·obtain⟨a,ha,e⟩:=List.mem_iff_getElem.1 hl'
  have h10:=h.doc.lk
  have h3:=h.doc.eq a (by omega)
  rw [List.getElem?_eq_getElem ha,e] at h3
  injection h3 with h3
  rw [h3] at hp
  have hm:=mem_sub.1 hp
  have h1:=h.tim _ hm
  have h2:=h.doc.top _ hm
  simp only at h1 h2
  unfold I64
  omega
end
end Go.Proofs.YtjefgmeejhakbaaGreatDoor
/- Plain: why one is gone; what wants to write. -/
namespace Go.Proofs.YtjefgmeejhakbaaGreatDoor
theorem aheadAll_bare (f:Nat→Nat × Nat):∀ (js:List Nat) (E:Eng),(aheadAll f js E).2.txs.map bareTx=E.txs.map bareTx
 | [],E=>rfl
 | j::r,E=>by
  have h1:=putAhead_bare E (f j).1 (f j).2
  unfold aheadAll
  rcases hp:putAheadP E (f j).1 (f j).2 with ⟨b,E'⟩
  rw [hp] at h1
  cases b with
  | true=>exact (aheadAll_bare f r E').trans h1
  | false=>exact h1
section
variable {E E2 E':Eng} {i j x:Nat} {t:Tx} {why c:Int}
theorem put_keep (hp:putE E j=(why,E2)) (hx:x≠j) (ht:E.txs[x]?=some t):∃ t',E2.txs[x]?=some t'∧bareTx t'=bareTx t:=by
 unfold putE at hp
 split at hp
 ·rename_i u hu
  split at hp
  ·injection hp with _ h2
   subst h2
   exact⟨t,ht,rfl⟩
  ·have hg:(E.setTx j { u with vals:=updT u.vals u.wk (some u.wv) }).txs[x]?=some t:=by rw [setTx_get_ne (fun e=>hx e.symm)];exact ht
   simp only at hp
   split at hp
   ·rcases hb:behindP (E.setTx j { u with vals:=updT u.vals u.wk (some u.wv) }) j u.wk with ⟨b,E3⟩
    have h3:E3.txs.map bareTx=(E.setTx j { u with vals:=updT u.vals u.wk (some u.wv) }).txs.map bareTx:=by
     have:=aheadAll_bare (fun m=>(m,j)) (thoseP (E.setTx j { u with vals:=updT u.vals u.wk (some u.wv) }) (hasReadB u.wk j)) (E.setTx j { u with vals:=updT u.vals u.wk (some u.wv) })
     unfold behindP at hb
     rw [hb] at this
     exact this
    rw [hb] at hp
    cases b with
    | true =>
     injection hp with _ h2
     subst h2
     exact bare_get h3 hg
    | false =>
     injection hp with _ h2
     subst h2
     exact bare_get h3 hg
   ·injection hp with _ h2
    subst h2
    exact⟨t,hg,rfl⟩
 ·injection hp with _ h2
  subst h2
  exact⟨t,ht,rfl⟩
theorem put_self (hp:putE E j=(why,E2)) (ht:E.txs[j]?=some t):∃ t',E2.txs[j]?=some t'∧t'.state=t.state∧t'.why=t.why:=by
 unfold putE at hp
 rw [ht] at hp
 simp only at hp
 split at hp
 ·injection hp with _ h2
  subst h2
  exact⟨t,ht,rfl,rfl⟩
 ·have hg:=setTx_get (t:={ t with vals:=updT t.vals t.wk (some t.wv) }) ht
  split at hp
  ·rcases hb:behindP (E.setTx j { t with vals:=updT t.vals t.wk (some t.wv) }) j t.wk with ⟨b,E3⟩
   have h3:E3.txs.map bareTx=(E.setTx j { t with vals:=updT t.vals t.wk (some t.wv) }).txs.map bareTx:=by
    have:=aheadAll_bare (fun m=>(m,j)) (thoseP (E.setTx j { t with vals:=updT t.vals t.wk (some t.wv) }) (hasReadB t.wk j)) (E.setTx j { t with vals:=updT t.vals t.wk (some t.wv) })
    unfold behindP at hb
    rw [hb] at this
    exact this
   obtain⟨t',h4,h5⟩:=bare_get h3 hg
   have e1:t'.state=t.state:=by have:=congrArg Tx.state h5;exact this
   have e2:t'.why=t.why:=by have:=congrArg Tx.why h5;exact this
   rw [hb] at hp
   cases b with
   | true =>
    injection hp with _ h2
    subst h2
    exact⟨t',h4,e1,e2⟩
   | false =>
    injection hp with _ h2
    subst h2
    exact⟨t',h4,e1,e2⟩
  ·injection hp with _ h2
   subst h2
   exact⟨_,hg,rfl,rfl⟩
def GoneAs (E:Eng) (i:Nat) (c:Int):Prop:=∃ t,E.txs[i]?=some t∧t.state=3∧t.why=c
theorem goes2_gone (i:Nat) (c:Int):Goes2 (fun E _=>GoneAs E i c):=by
 have key:∀ (E:Eng) (Q:Nat→Prop) (j:Nat) (why:Int) (E2:Eng),Mid2 E.ce Q→GoneAs E i c→Q j→putE (wakeE E j) j=(why,E2)→j≠i∧GoneAs E2 i c:=by
  intro E Q j why E2 hM hP hq hp
  obtain⟨t,ht,h3,hw⟩:=hP
  obtain⟨u,hu,h1,_⟩:=hM.loc.pend j hq
  obtain⟨tj,htj,rfl⟩:=cs_of hu
  have hts:tj.state=1:=h1
  have hji:j≠i:=fun e=>by subst e;rw [ht] at htj;cases htj;omega
  have hwi:(wakeE E j).txs[i]?=some t:=by unfold wakeE;rw [Eng.upd_some htj,setTx_get_ne hji];exact ht
  obtain⟨t',h4,h5⟩:=put_keep hp (Ne.symm hji) hwi
  exact⟨hji,t',h4,by have:=congrArg Tx.state h5;exact this.trans h3,by have:=congrArg Tx.why h5;exact this.trans hw⟩
 refine⟨fun E Q j E2 hM hP hq hp=>(key E Q j 0 E2 hM hP hq hp).2,fun E Q j why E2 hM hP hq hp _=>?_⟩
 obtain⟨hji,t,ht,h3,hw⟩:=key E Q j why E2 hM hP hq hp
 obtain⟨_,_,_,⟨u2,hu2,_⟩,_⟩:=hM.putE hq hp
 rw [gone_over]
 exact⟨freeOf ((j:Int)+1) t,by show (goneE E2 j why).txs[i]?=_;rw [gone_ne hu2 why (Ne.symm hji),ht];rfl,h3,hw⟩
theorem lose2_gone (h:Mid2 E.ce noQ) (ht:E.txs[i]?=some t) (hl:liveB t.state=true) (hE:endF 7 (loseE E i why) i 3=some E'):Mid2 E'.ce noQ∧GoneAs E' i why:=by
 obtain⟨E1,e1,e2,e3,_⟩:=lose2_ok (why:=why) (goes2_gone i why) h ht hl (by
  rw [gone_over]
  exact⟨_,gone_i ht why,rfl,rfl⟩)
 rw [hE] at e1
 cases e1
 exact⟨e2,e3⟩
theorem Mid2.live7 {C:CE} {Q:Nat→Prop} (h:Mid2 C Q):C.live≤7:=by
 have:=h.reg.num
 unfold CE.live
 omega
theorem put2_mid (hM:Mid2 E.ce noQ) (ht:E.txs[i]?=some t) (hs:t.state=0) (hh:holdsP E.T t.wk=(i:Int)+1):Mid2 (putE E i).2.ce noQ:=by
 rcases hp:putE E i with ⟨why,E2⟩
 rcases ce_put ht hp with ⟨rfl,rfl,_,_⟩ | ⟨hy,hn,he⟩
 ·exact hM
 ·show Mid2 E2.ce noQ
  rw [he]
  exact hM.putOpen (cs_get ht) hs hh
theorem want2_mid (hM:Mid2 E.ce noQ) (ht:E.txs[i]?=some t) (hs:t.state=0) {key val:Int} (hk:0≤key∧key<10) (hv:-1099511627776≤val∧val≤1099511627776) {T':Tab} (hT:T'=E.T∨(E.T key=[]∧T'=updT E.T key [(i:Int)+1]∧Good T')):Mid2 (wantE E i t key val T').ce noQ:=by
 have hW:=hM.want (k:=key) (v:=val) (cs_get ht) hs hk hv
 rw [want_ce]
 rcases hT with rfl | ⟨h1,rfl,h3⟩
 ·exact hW
 ·exact hW.take (set_same (cs_get ht)) hs h1 h3
end
section
variable {B:Nat} {E:Eng} {R:REng} {i:Nat} {t:Tx} {r:RTx}
theorem Rel.want (h:Rel B E R) (ht:E.txs[i]?=some t) (hr:R.txs[i]?=some r) (hs:t.state=0) (key val:Int):Rel (B+1) (E.setTx i { t with wk:=key,wv:=val }) (R.setTx i { r with want:=(key,val) }):=by
 have hx:=h.tx i t r ht hr
 exact h.setTx ht hr (by omega) (.inl rfl) ⟨hx.level,hx.state,hx.why,hx.start,rfl,hx.own,hx.reads,hx.seen,hx.be,hx.ah,hx.bl,hx.al,hx.non⟩ (fun e=>by omega) ⟨rfl,rfl⟩ rfl rfl ⟨Nat.le_succ _,Nat.le_succ _,Nat.le_succ _,Nat.le_succ _⟩ (by show B+1+1000*potT t≤_;omega)
theorem Rel.stand (h:Rel B E R) (ht:E.txs[i]?=some t) (hr:R.txs[i]?=some r) (hs:t.state=0):Rel (B+1001) (E.setTx i { t with state:=1 }) (R.setTx i { r with state:=1 }):=by
 have hx:=h.tx i t r ht hr
 have hp:potT t=1:=by unfold potT;rw [hs];rfl
 have hp':potT ({ t with state:=1 }:Tx)=2:=rfl
 exact h.setTx ht hr (by omega) (.inr ⟨by rw [hs];rfl,rfl⟩) ⟨hx.level,rfl,hx.why,hx.start,hx.want,hx.own,fun _=>hx.reads (by omega),fun _=>hx.seen (by omega),hx.be,hx.ah,hx.bl,hx.al,hx.non⟩ (fun e=>by omega) ⟨rfl,rfl⟩ rfl rfl ⟨Nat.le_succ _,Nat.le_succ _,Nat.le_succ _,Nat.le_succ _⟩ (by rw [hp,hp'];omega)
end
end Go.Proofs.YtjefgmeejhakbaaGreatDoor
/- The document's engine: ahead. -/
namespace Go.Proofs.YtjefgmeejhakbaaGreatDoor
open Go.RowKit
def rrowO:Nat→Nat
 | 0=>6
 | 1=>7
 | 2=>10
 | _=>11
section
variable {w w0 w1 w':World} {L:REnL} {E:REng} {i p:Nat} {l:RTxL} {t t':RTx}
theorem REnAt.row_ne (h:REnAt w L E) (hl:L.txs[i]?=some l) (hp:p<4):(l.row p).ownBlock≠some l.b:=fun e=>by
 obtain⟨ρ,T⟩:=h.tag
 have h1:=T.txb i l hl
 have h2:=T.txr i l p l.b hl hp e
 rw [h1] at h2
 injection h2 with _ h2
 omega
theorem REnAt.appended (h:REnAt w L E) (hl:L.txs[i]?=some l) (ht:E.txs[i]?=some t) (hp:p<4) {gg m cap:Nat} (hB:Below w.heap.size w w0) (hgrow:w0.grownBy w1 (l.row p).ownBlock) (hat:(l.row p).ownBlock=some gg∨w.heap.size≤gg)
  (hrow:w1.ownsRow 0 (rrowT p) (rrowS p) (.slice (some ⟨gg,0,none⟩) m cap) (t'.rowN p) (t'.rowV L.bs p)) (hc:(rtxCells l t).setIfInBounds (rrowO p) (.slice (some ⟨gg,0,none⟩) m cap)=rtxCells (l.setRow p (.slice (some ⟨gg,0,none⟩) m cap)) t')
  (hq:∀ q,q<4→q≠p→t'.rowN q=t.rowN q∧t'.rowV L.bs q=t.rowV L.bs q) :
  REnAt (w1.setCell ⟨l.b,rrowO p,none⟩ (.slice (some ⟨gg,0,none⟩) m cap)) (L.setTx i (l.setRow p (.slice (some ⟨gg,0,none⟩) m cap))) (E.setTx i t') ∧
   KeptO L.own (L.setTx i (l.setRow p (.slice (some ⟨gg,0,none⟩) m cap))).own w (w1.setCell ⟨l.b,rrowO p,none⟩ (.slice (some ⟨gg,0,none⟩) m cap)):=by
 have hA:=h.txs i l t hl ht
 have hne:=h.row_ne hl hp
 have hbl:=hA.lt
 have hs0:=hB.size
 have h1:w1.heap[l.b]?=some (.cells (rtxCells l t) 177 (0,0)):=((hgrow.block l.b (by omega) (fun e=>hne e.symm)).trans (hB.block l.b hbl)).trans hA.blk
 have h2:=setCell_at (o:=rrowO p) (v:=.slice (some ⟨gg,0,none⟩) m cap) h1
 rw [hc] at h2
 have hgb:gg≠l.b:=by
  rcases hat with e | e
  ·exact fun e'=>hne (e'▸e)
  ·omega
 refine h.setRow hl ht hp h2 (owns_same hrow (fun g hg=>heap_setCell_other _ ⟨l.b,rrowO p,none⟩ g _ (by
  have:gg=g:=by simpa [Value.ownBlock] using hg
  rw [← this];exact hgb))) (fun g hg=>?_) (fun g hg hg1 hg2=>?_) ⟨hgrow.os.trans hB.os,hgrow.tape.trans hB.tape,hgrow.output.trans hB.output⟩ ?_ hq
 ·have:gg=g:=by simpa [Value.ownBlock] using hg
  rw [← this]
  exact hat
 ·exact ((heap_setCell_other _ ⟨l.b,rrowO p,none⟩ g _ hg1).trans (hgrow.block g (by omega) (fun e=>hg2 e.symm))).trans (hB.block g hg)
 ·have:=hgrow.size
  simp
  omega
theorem REnAt.free (h:RTxAt w L.bs l t) (o:Nat):w.frozen? ⟨l.b,o,none⟩=false:=by simp [World.frozen?,h.blk]
theorem info171:(Tryz.prog.info? 171).map (fun i=>(i.zero,i.size,i.bytes))=some (some (.pointer none),1,8):=by kernel_rfl
theorem ptrsV_snoc (bs is:List Nat) {j b:Nat} (h:bs[j]?=some b):ptrsV bs (is++[j])=ptrsV bs is++[ptrV b]:=by simp [ptrsV,h]
end
section
variable {w w':World} {L:REnL} {R:REng} {i j:Nat} {l m:RTxL} {r s:RTx}
theorem REnAt.b_ne (h:REnAt w L R) (hij:i≠j) (hl:L.txs[i]?=some l) (hm:L.txs[j]?=some m):l.b≠m.b:=fun e=>by
 obtain⟨ρ,T⟩:=h.tag
 have h1:=T.txb i l hl
 have h2:=T.txb j m hm
 rw [e,h2] at h1
 injection h1 with h1
 exact hij h1.symm
theorem REnAt.row_far (h:REnAt w L R) (hij:i≠j) (hl:L.txs[i]?=some l) (hm:L.txs[j]?=some m) {p:Nat} (hp:p<4):(l.row p).ownBlock≠some m.b:=fun e=>by
 obtain⟨ρ,T⟩:=h.tag
 have h1:=T.txr i l p m.b hl hp e
 have h2:=T.txb j m hm
 rw [h2] at h1
 injection h1 with h1
 exact hij h1.symm
theorem aheadA (h:REnAt w L R) (hij:i≠j) (hl:L.txs[i]?=some l) (hm:L.txs[j]?=some m) (hr:R.txs[i]?=some r) (hs:R.txs[j]?=some s) {ad ad2:Option Addr} {n1 n2 cap cap2:Nat} (hf:l.bh=.slice ad n1 cap) (hf2:m.ah=.slice ad2 n2 cap2) (hn1:r.behind.length=n1) (hn2:s.ahead.length=n2)
  {w1:World} {gg cap':Nat} (ho:w1.ownsRow 0 171 1 (.slice (some ⟨gg,0,none⟩) (n1+1) cap') (n1+1) (ptrsV L.bs r.behind++[.pointer (some ⟨m.b,0,none⟩)])) (hg:(w.alloc (.cells #[.pointer (some ⟨m.b,0,none⟩)] 171)).grownBy w1 (Value.slice ad n1 cap).ownBlock) (hat:(Value.slice ad n1 cap).ownBlock=some gg∨gg=w.heap.size+1) :
  w1.cell? ⟨l.b,10,none⟩=some (.slice ad n1 cap)∧w1.frozen? ⟨l.b,10,none⟩=false∧w1.cell? ⟨m.b,11,none⟩=some (.slice ad2 n2 cap2) ∧
   ∃ L1,REnAt (w1.setCell ⟨l.b,10,none⟩ (.slice (some ⟨gg,0,none⟩) (n1+1) cap')) L1 (R.setTx i { r with behind:=r.behind++[j] })∧KeptO L.own L1.own w (w1.setCell ⟨l.b,10,none⟩ (.slice (some ⟨gg,0,none⟩) (n1+1) cap'))∧HdE L1 L∧L1.bs=L.bs∧L1.txs[j]?=some m ∧
    (w1.setCell ⟨l.b,10,none⟩ (.slice (some ⟨gg,0,none⟩) (n1+1) cap')).ownsRow 0 171 1 (.slice ad2 n2 cap2) n2 (ptrsV L.bs s.ahead):=by
 have hA:=h.txs i l r hl hr
 have hC:=h.txs j m s hm hs
 have hbl:=hA.lt
 have hml:=hC.lt
 have e1:(Value.slice ad n1 cap).ownBlock≠some l.b:=by have:=h.row_ne hl (p:=2) (by decide);rw [show l.row 2=l.bh from rfl,hf] at this;exact this
 have e2:(Value.slice ad n1 cap).ownBlock≠some m.b:=by have:=h.row_far hij hl hm (p:=2) (by decide);rw [show l.row 2=l.bh from rfl,hf] at this;exact this
 have hbk:w1.heap[l.b]?=w.heap[l.b]?:=(hg.block l.b (by simp;omega) (fun e=>e1 e.symm)).trans (Below.heap_alloc w _ l.b hbl)
 have hbk2:w1.heap[m.b]?=w.heap[m.b]?:=(hg.block m.b (by simp;omega) (fun e=>e2 e.symm)).trans (Below.heap_alloc w _ m.b hml)
 have c10:w.cell? ⟨l.b,10,none⟩=some (.slice ad n1 cap):=by rw [← hf];exact (hA.cell 10).trans rfl
 have k11:w.cell? ⟨m.b,11,none⟩=some (.slice ad2 n2 cap2):=by rw [← hf2];exact (hC.cell 11).trans rfl
 have hx:REnAt (w1.setCell ⟨l.b,10,none⟩ (.slice (some ⟨gg,0,none⟩) (n1+1) cap')) (L.setTx i { l with bh:=.slice (some ⟨gg,0,none⟩) (n1+1) cap' }) (R.setTx i { r with behind:=r.behind++[j] })∧KeptO L.own (L.setTx i { l with bh:=.slice (some ⟨gg,0,none⟩) (n1+1) cap' }).own w (w1.setCell ⟨l.b,10,none⟩ (.slice (some ⟨gg,0,none⟩) (n1+1) cap')) :=
  h.appended (p:=2) (t':={ r with behind:=r.behind++[j] }) (gg:=gg) (m:=n1+1) (cap:=cap') hl hr (by decide) ((Below.refl _ w).alloc (Nat.le_refl _) (.cells #[.pointer (some ⟨m.b,0,none⟩)] 171)) (by show World.grownBy _ _ l.bh.ownBlock;rw [hf];exact hg) (by show l.bh.ownBlock=some gg∨_;rw [hf];exact hat.imp id (fun e=>by omega))
   (by show w1.ownsRow 0 171 1 _ (r.behind++[j]).length (ptrsV L.bs (r.behind++[j]));rw [ptrsV_snoc _ _ (rbs_get hm),List.length_append,hn1];exact ho) (by rfl) (fun q hq hne=>by rcases q with _ | _ | _ | _ | q<;>first | exact⟨rfl,rfl⟩ | exact (hne rfl).elim | omega)
 have hm1:(L.setTx i { l with bh:=.slice (some ⟨gg,0,none⟩) (n1+1) cap' }).txs[j]?=some m:=by simp only [REnL.setTx,List.getElem?_set,if_neg hij];exact hm
 have hb1:(L.setTx i { l with bh:=.slice (some ⟨gg,0,none⟩) (n1+1) cap' }).bs=L.bs:=bs_set hl rfl
 have hrow:=(hx.1.txs j m s hm1 (by rw [rsetTx_ne hij];exact hs)).ah
 rw [hb1,hf2,hn2] at hrow
 exact⟨(World.cell?_of_block (a:=⟨l.b,10,none⟩) hbk).trans c10,(World.frozen?_of_block (a:=⟨l.b,10,none⟩) hbk).trans (REnAt.free (L:=L) hA 10),(World.cell?_of_block (a:=⟨m.b,11,none⟩) hbk2).trans k11,_,hx.1,hx.2,⟨rfl,rfl⟩,hb1,hm1,hrow⟩
theorem aheadB {W:World} (h:REnAt W L R) (hij:i≠j) (hl:L.txs[i]?=some l) (hm:L.txs[j]?=some m) (hr:R.txs[i]?=some r) (hs:R.txs[j]?=some s) {ad2:Option Addr} {n2 cap2:Nat} (hf2:m.ah=.slice ad2 n2 cap2) (hn2:s.ahead.length=n2)
  {w2:World} {gg cap':Nat} (ho:w2.ownsRow 0 171 1 (.slice (some ⟨gg,0,none⟩) (n2+1) cap') (n2+1) (ptrsV L.bs s.ahead++[.pointer (some ⟨l.b,0,none⟩)])) (hg:(W.alloc (.cells #[.pointer (some ⟨l.b,0,none⟩)] 171)).grownBy w2 (Value.slice ad2 n2 cap2).ownBlock) (hat:(Value.slice ad2 n2 cap2).ownBlock=some gg∨W.heap.size≤gg) :
  w2.cell? ⟨m.b,11,none⟩=some (.slice ad2 n2 cap2)∧w2.frozen? ⟨m.b,11,none⟩=false∧w2.cell? ⟨l.b,1,none⟩=some (.int .i64 r.state)∧w2.cell? ⟨m.b,1,none⟩=some (.int .i64 s.state) ∧
   ∃ L1,REnAt (w2.setCell ⟨m.b,11,none⟩ (.slice (some ⟨gg,0,none⟩) (n2+1) cap')) L1 (R.setTx j { s with ahead:=s.ahead++[i] })∧KeptO L.own L1.own W (w2.setCell ⟨m.b,11,none⟩ (.slice (some ⟨gg,0,none⟩) (n2+1) cap'))∧HdE L1 L∧L1.bs=L.bs:=by
 have hA:=h.txs i l r hl hr
 have hC:=h.txs j m s hm hs
 have hbl:=hA.lt
 have hml:=hC.lt
 have e1:(Value.slice ad2 n2 cap2).ownBlock≠some l.b:=by have:=h.row_far (Ne.symm hij) hm hl (p:=3) (by decide);rw [show m.row 3=m.ah from rfl,hf2] at this;exact this
 have e2:(Value.slice ad2 n2 cap2).ownBlock≠some m.b:=by have:=h.row_ne hm (p:=3) (by decide);rw [show m.row 3=m.ah from rfl,hf2] at this;exact this
 have hbk:w2.heap[l.b]?=W.heap[l.b]?:=(hg.block l.b (by simp;omega) (fun e=>e1 e.symm)).trans (Below.heap_alloc W _ l.b hbl)
 have hbk2:w2.heap[m.b]?=W.heap[m.b]?:=(hg.block m.b (by simp;omega) (fun e=>e2 e.symm)).trans (Below.heap_alloc W _ m.b hml)
 have k11:W.cell? ⟨m.b,11,none⟩=some (.slice ad2 n2 cap2):=by rw [← hf2];exact (hC.cell 11).trans rfl
 have hx:REnAt (w2.setCell ⟨m.b,11,none⟩ (.slice (some ⟨gg,0,none⟩) (n2+1) cap')) (L.setTx j { m with ah:=.slice (some ⟨gg,0,none⟩) (n2+1) cap' }) (R.setTx j { s with ahead:=s.ahead++[i] })∧KeptO L.own (L.setTx j { m with ah:=.slice (some ⟨gg,0,none⟩) (n2+1) cap' }).own W (w2.setCell ⟨m.b,11,none⟩ (.slice (some ⟨gg,0,none⟩) (n2+1) cap')) :=
  h.appended (p:=3) (t':={ s with ahead:=s.ahead++[i] }) (gg:=gg) (m:=n2+1) (cap:=cap') hm hs (by decide) ((Below.refl _ W).alloc (Nat.le_refl _) (.cells #[.pointer (some ⟨l.b,0,none⟩)] 171)) (by show World.grownBy _ _ m.ah.ownBlock;rw [hf2];exact hg) (by show m.ah.ownBlock=some gg∨_;rw [hf2];exact hat)
   (by show w2.ownsRow 0 171 1 _ (s.ahead++[i]).length (ptrsV L.bs (s.ahead++[i]));rw [ptrsV_snoc _ _ (rbs_get hl),List.length_append,hn2];exact ho) (by rfl) (fun q hq hne=>by rcases q with _ | _ | _ | _ | q<;>first | exact⟨rfl,rfl⟩ | exact (hne rfl).elim | omega)
 exact⟨(World.cell?_of_block (a:=⟨m.b,11,none⟩) hbk2).trans k11,(World.frozen?_of_block (a:=⟨m.b,11,none⟩) hbk2).trans (REnAt.free (L:=L) hC 11),(World.cell?_of_block (a:=⟨l.b,1,none⟩) hbk).trans ((hA.cell 1).trans rfl),(World.cell?_of_block (a:=⟨m.b,1,none⟩) hbk2).trans ((hC.cell 1).trans rfl),_,hx.1,hx.2,⟨rfl,rfl⟩,bs_set hm rfl⟩
theorem alloc_set_new (w1:World) (a:Addr) (v:Value) (o:Obj):((w1.setCell a v).alloc o).heap[w1.heap.size]?=some o:=by
 have:=heap_alloc_new (w1.setCell a v) o
 simpa using this
theorem bs_getb {L:REnL} {i b:Nat} (h:L.bs[i]?=some b):∃ l,L.txs[i]?=some l∧l.b=b:=by
 simp only [REnL.bs,List.getElem?_map,Option.map_eq_some_iff] at h
 exact h
theorem rbet_b {W:World} {L2:REnL} {R2:REng} (h:REnAt W L2 R2) {i b:Nat} {r:RTx} (hb:L2.bs[i]?=some b) (hr:R2.txs[i]?=some r) (hl:(∀ x∈r.behind,x<R2.txs.length)∧(∀ x∈r.ahead,x<R2.txs.length)) (hz:r.sz 2000000000) :
  Calls Tryz.prog 145 #[.pointer (some ⟨b,0,none⟩)] W fun e w'=>e=.returned (.bool (anyR R2 r.behind&&anyR R2 r.ahead))∧w'=W:=by
 obtain⟨l,hl',rfl⟩:=bs_getb hb
 exact rbetween_any h hl' hr hl.1 hl.2 hz.2.2.1 hz.2.2.2
set_option maxRecDepth 100000 in
set_option maxHeartbeats 8000000 in
theorem rahead_any (h:REnAt w L R) (hij:i≠j) (hl:L.txs[i]?=some l) (hm:L.txs[j]?=some m) (hr:R.txs[i]?=some r) (hs:R.txs[j]?=some s) (z1:r.sz 1000000000) (z2:s.sz 1000000000)
    (b1:(∀ x∈r.behind,x<R.txs.length)∧(∀ x∈r.ahead,x<R.txs.length)) (b2:(∀ x∈s.behind,x<R.txs.length)∧(∀ x∈s.ahead,x<R.txs.length)) {R2:REng} (hR2:(R.setTx i { r with behind:=r.behind++[j] }).setTx j { s with ahead:=s.ahead++[i] }=R2) :
    Calls Tryz.prog 138 #[.pointer (some ⟨l.b,0,none⟩),.pointer (some ⟨m.b,0,none⟩)] w fun e w' =>
      e=.returned (.bool ((r.state==2&&(anyR R2 (r.behind++[j])&&anyR R2 r.ahead))||(s.state==2&&(anyR R2 s.behind&&anyR R2 (s.ahead++[i]))))) ∧
      ∃ L',REnAt w' L' R2∧KeptO L.own L'.own w w'∧HdE L' L∧L'.bs=L.bs:=by
  obtain⟨i0,hi0,hz0,hz1,hz2⟩:=info_parts info171
  have hA:=h.txs i l r hl hr
  have hC:=h.txs j m s hm hs
  have hil:=(List.getElem?_eq_some_iff.1 hr).1
  have hjl:=(List.getElem?_eq_some_iff.1 hs).1
  obtain⟨ad,cap,hf⟩:=row_form hA.bh
  obtain⟨ad2,cap2,hf2⟩:=row_form hC.ah
  have c10:w.cell? ⟨l.b,10,none⟩=some l.bh:=(hA.cell 10).trans rfl
  obtain⟨n1,hn1⟩:∃ n1,r.behind.length=n1:=⟨_,rfl⟩
  obtain⟨n2,hn2⟩:∃ n2,s.ahead.length=n2:=⟨_,rfl⟩
  have hn1':n1≤1000000000:=by rw [← hn1];exact z1.2.2.1
  have hn2':n2≤1000000000:=by rw [← hn2];exact z2.2.2.2
  have HB1:=hid hA.bh
  rw [hn1] at hf HB1
  rw [hn2] at hf2
  rw [hf] at c10 HB1
  obtain⟨sr,hsr⟩:∃ sr,r.state=sr:=⟨_,rfl⟩
  obtain⟨ss,hss⟩:∃ ss,s.state=ss:=⟨_,rfl⟩
  have hap1:=hid (fun (w1:World) (gg cap':Nat)=>aheadA h hij hl hm hr hs hf hf2 hn1 hn2 (w1:=w1) (gg:=gg) (cap':=cap'))
  have hs1:(R.setTx i { r with behind:=r.behind++[j] }).txs[j]?=some s:=by rw [rsetTx_ne hij];exact hs
  have hap2:=hid (fun (W w2:World) (L1:REnL) (gg cap':Nat) (h1:REnAt W L1 (R.setTx i { r with behind:=r.behind++[j] })) (hm1:L1.txs[j]?=some m) (hb1:L1.bs=L.bs) (ho:w2.ownsRow 0 171 1 (.slice (some ⟨gg,0,none⟩) (n2+1) cap') (n2+1) (ptrsV L.bs s.ahead++[.pointer (some ⟨l.b,0,none⟩)])) (hg:(W.alloc (.cells #[.pointer (some ⟨l.b,0,none⟩)] 171)).grownBy w2 (Value.slice ad2 n2 cap2).ownBlock) (hat:(Value.slice ad2 n2 cap2).ownBlock=some gg∨W.heap.size≤gg) =>
    show w2.cell? ⟨m.b,11,none⟩=some (.slice ad2 n2 cap2)∧w2.frozen? ⟨m.b,11,none⟩=false∧w2.cell? ⟨l.b,1,none⟩=some (.int .i64 sr)∧w2.cell? ⟨m.b,1,none⟩=some (.int .i64 ss) ∧
      ∃ L2,REnAt (w2.setCell ⟨m.b,11,none⟩ (.slice (some ⟨gg,0,none⟩) (n2+1) cap')) L2 R2∧KeptO L1.own L2.own W (w2.setCell ⟨m.b,11,none⟩ (.slice (some ⟨gg,0,none⟩) (n2+1) cap'))∧HdE L2 L1∧L2.bs=L.bs from by
    obtain⟨l1,hl1,hlb⟩:=bs_getb (show L1.bs[i]?=some l.b by rw [hb1];exact rbs_get hl)
    have:=aheadB h1 hij hl1 hm1 (rsetTx_get hr) hs1 hf2 hn2 (w2:=w2) (gg:=gg) (cap':=cap') (by rw [hb1,hlb];exact ho) (by rw [hlb];exact hg) hat
    rw [hlb,hR2,hb1] at this
    simp only [hsr,hss] at this
    exact this)
  have e1:R2.txs[i]?=some { r with behind:=r.behind++[j] }:=by rw [← hR2,rsetTx_ne (Ne.symm hij)];exact rsetTx_get hr
  have e2:R2.txs[j]?=some { s with ahead:=s.ahead++[i] }:=by rw [← hR2];exact rsetTx_get hs1
  have e3:R2.txs.length=R.txs.length:=by rw [← hR2];simp [REng.setTx]
  have hbet1:=hid (fun (W:World) (L2:REnL) (h2:REnAt W L2 R2) (hb:L2.bs=L.bs)=>rbet_b h2 (b:=l.b) (by rw [hb];exact rbs_get hl) e1 ⟨fun x hx=>by
      rw [e3]
      rcases List.mem_append.1 hx with hx | hx
      · exact b1.1 x hx
      · rw [List.mem_singleton] at hx;rw [hx];exact hjl,fun x hx=>by rw [e3];exact b1.2 x hx⟩ ⟨by have:=z1.1;simp only;omega,by have:=z1.2.1;simp only;omega,by simp only [List.length_append,List.length_singleton];have:=z1.2.2.1;omega,by have:=z1.2.2.2;simp only;omega⟩)
  have hbet2:=hid (fun (W:World) (L2:REnL) (h2:REnAt W L2 R2) (hb:L2.bs=L.bs)=>rbet_b h2 (b:=m.b) (by rw [hb];exact rbs_get hm) e2 ⟨fun x hx=>by rw [e3];exact b2.1 x hx,fun x hx=>by
      rw [e3]
      rcases List.mem_append.1 hx with hx | hx
      · exact b2.2 x hx
      · rw [List.mem_singleton] at hx;rw [hx];exact hil⟩ ⟨by have:=z2.1;simp only;omega,by have:=z2.2.1;simp only;omega,by have:=z2.2.2.1;simp only;omega,by simp only [List.length_append,List.length_singleton];have:=z2.2.2.2;omega⟩)
  simp only at hbet1 hbet2
  obtain⟨bt1,hbt1⟩:∃ bt1,(anyR R2 (r.behind++[j])&&anyR R2 r.ahead)=bt1:=⟨_,rfl⟩
  obtain⟨bt2,hbt2⟩:∃ bt2,(anyR R2 s.behind&&anyR R2 (s.ahead++[i]))=bt2:=⟨_,rfl⟩
  rw [hbt1] at hbet1
  rw [hbt2] at hbet2
  rw [hbt1,hbt2]
  rw [hsr,hss]
  obtain⟨c1,hc1⟩:∃ c1,(sr==2)=c1:=⟨_,rfl⟩
  obtain⟨c2,hc2⟩:∃ c2,(ss==2)=c2:=⟨_,rfl⟩
  rw [hc1,hc2]
  clear h hij hl hm hr hs z1 z2 b1 b2 hA hC hf hf2 hn1 hn2 hil hjl hR2 hbt1 hbt2 hsr hss e1 e2 e3 hs1
  cases c1 with
  | false =>
    cases c2 with
    | false =>
      go_enter Tryz.func138,Tryz.ntmps138
      go_wp2_with (first
        | (at_builtin;refine wpList_append_lies _ rfl (.tmp 9) _ _ rfl 0 171 i0 _ 1 8 Tryz.underlying111 hi0 hz0 hz1 hz2 rfl (by omega) (.slice ad n1 cap) n1 (ptrsV L.bs r.behind) rfl (HB1.out.alloc _) ⟨w.heap.size,0,none⟩ 1 1 [.pointer (some ⟨m.b,0,none⟩)] rfl rfl (World.news_of_block (cs:=#[.pointer (some ⟨m.b,0,none⟩)]) (t:=171) (fr:=(0,0)) (heap_alloc_new w _)) (by simp [Value.oneCell']) (by omega) (by unfold maxLen;omega) (by omega) (by simp) (w.heap.size+1) (by simp) ?_;intro g1 cap1 w1 ho1 hgrow1 hat1 hlt1
           obtain⟨cw1,fw1,cw2,L1,hx1,hk1,hR1,hb1,hm1,hrow2⟩:=hap1.out w1 g1 cap1 ho1 hgrow1 hat1
           have HX1:=hid hx1
           have HK1:=hid hk1
           have HM1:=hid (And.intro hm1 (And.intro hb1 hR1))
           have HRW2:=hid hrow2
           clear hx1 hk1 hm1 hb1 hR1 hrow2 ho1 hgrow1 hat1)
        | (at_builtin;refine wpList_append_lies _ rfl (.tmp 19) _ _ rfl 0 171 i0 _ 1 8 Tryz.underlying111 hi0 hz0 hz1 hz2 rfl (by omega) (.slice ad2 n2 cap2) n2 (ptrsV L.bs s.ahead) rfl (HRW2.out.alloc _) ⟨w1.heap.size,0,none⟩ 1 1 [.pointer (some ⟨l.b,0,none⟩)] rfl rfl (World.news_of_block (cs:=#[.pointer (some ⟨l.b,0,none⟩)]) (t:=171) (fr:=(0,0)) (alloc_set_new w1 _ _ _)) (by simp [Value.oneCell']) (by omega) (by unfold maxLen;omega) (by omega) (by simp) (w1.heap.size+1) (by simp) ?_;intro g2 cap2' w2 ho2 hgrow2 hat2 hlt2
           obtain⟨cv1,fv1,cv2,cv3,L2,hx2,hk2,hR2',hb2⟩:=hap2.out _ w2 L1 g2 cap2' HX1.out HM1.out.1 HM1.out.2.1 ho2 hgrow2 (hat2.imp id (fun e=>by simp;omega))
           have HF:=hid (show REnAt _ L2 R2∧KeptO L.own L2.own w _∧HdE L2 L∧L2.bs=L.bs from ⟨hx2,HK1.out.trans hk2,hR2'.trans HM1.out.2.2,hb2⟩)
           have HBT1:=hid (hbet1.out _ L2 hx2 hb2)
           have HBT2:=hid (hbet2.out _ L2 hx2 hb2)
           clear hx2 hk2 hR2' hb2 ho2 hgrow2 hat2))
      go_ret
      exact⟨by simp,L2,HF.out.1,HF.out.2.1,HF.out.2.2.1,HF.out.2.2.2⟩
    | true =>
      go_enter Tryz.func138,Tryz.ntmps138
      go_wp2_with (first
        | (at_builtin;refine wpList_append_lies _ rfl (.tmp 9) _ _ rfl 0 171 i0 _ 1 8 Tryz.underlying111 hi0 hz0 hz1 hz2 rfl (by omega) (.slice ad n1 cap) n1 (ptrsV L.bs r.behind) rfl (HB1.out.alloc _) ⟨w.heap.size,0,none⟩ 1 1 [.pointer (some ⟨m.b,0,none⟩)] rfl rfl (World.news_of_block (cs:=#[.pointer (some ⟨m.b,0,none⟩)]) (t:=171) (fr:=(0,0)) (heap_alloc_new w _)) (by simp [Value.oneCell']) (by omega) (by unfold maxLen;omega) (by omega) (by simp) (w.heap.size+1) (by simp) ?_;intro g1 cap1 w1 ho1 hgrow1 hat1 hlt1
           obtain⟨cw1,fw1,cw2,L1,hx1,hk1,hR1,hb1,hm1,hrow2⟩:=hap1.out w1 g1 cap1 ho1 hgrow1 hat1
           have HX1:=hid hx1
           have HK1:=hid hk1
           have HM1:=hid (And.intro hm1 (And.intro hb1 hR1))
           have HRW2:=hid hrow2
           clear hx1 hk1 hm1 hb1 hR1 hrow2 ho1 hgrow1 hat1)
        | (at_builtin;refine wpList_append_lies _ rfl (.tmp 19) _ _ rfl 0 171 i0 _ 1 8 Tryz.underlying111 hi0 hz0 hz1 hz2 rfl (by omega) (.slice ad2 n2 cap2) n2 (ptrsV L.bs s.ahead) rfl (HRW2.out.alloc _) ⟨w1.heap.size,0,none⟩ 1 1 [.pointer (some ⟨l.b,0,none⟩)] rfl rfl (World.news_of_block (cs:=#[.pointer (some ⟨l.b,0,none⟩)]) (t:=171) (fr:=(0,0)) (alloc_set_new w1 _ _ _)) (by simp [Value.oneCell']) (by omega) (by unfold maxLen;omega) (by omega) (by simp) (w1.heap.size+1) (by simp) ?_;intro g2 cap2' w2 ho2 hgrow2 hat2 hlt2
           obtain⟨cv1,fv1,cv2,cv3,L2,hx2,hk2,hR2',hb2⟩:=hap2.out _ w2 L1 g2 cap2' HX1.out HM1.out.1 HM1.out.2.1 ho2 hgrow2 (hat2.imp id (fun e=>by simp;omega))
           have HF:=hid (show REnAt _ L2 R2∧KeptO L.own L2.own w _∧HdE L2 L∧L2.bs=L.bs from ⟨hx2,HK1.out.trans hk2,hR2'.trans HM1.out.2.2,hb2⟩)
           have HBT1:=hid (hbet1.out _ L2 hx2 hb2)
           have HBT2:=hid (hbet2.out _ L2 hx2 hb2)
           clear hx2 hk2 hR2' hb2 ho2 hgrow2 hat2))
      refine HBT2.out.mono ?_
      rintro e w5 ⟨rfl,hw5⟩
      rw [hw5]
      clear hw5 w5
      go_wp2
      go_ret
      exact⟨by simp,L2,HF.out.1,HF.out.2.1,HF.out.2.2.1,HF.out.2.2.2⟩
  | true =>
    cases bt1 with
    | false =>
      cases c2 with
      | false =>
        go_enter Tryz.func138,Tryz.ntmps138
        go_wp2_with (first
          | (at_builtin;refine wpList_append_lies _ rfl (.tmp 9) _ _ rfl 0 171 i0 _ 1 8 Tryz.underlying111 hi0 hz0 hz1 hz2 rfl (by omega) (.slice ad n1 cap) n1 (ptrsV L.bs r.behind) rfl (HB1.out.alloc _) ⟨w.heap.size,0,none⟩ 1 1 [.pointer (some ⟨m.b,0,none⟩)] rfl rfl (World.news_of_block (cs:=#[.pointer (some ⟨m.b,0,none⟩)]) (t:=171) (fr:=(0,0)) (heap_alloc_new w _)) (by simp [Value.oneCell']) (by omega) (by unfold maxLen;omega) (by omega) (by simp) (w.heap.size+1) (by simp) ?_;intro g1 cap1 w1 ho1 hgrow1 hat1 hlt1
             obtain⟨cw1,fw1,cw2,L1,hx1,hk1,hR1,hb1,hm1,hrow2⟩:=hap1.out w1 g1 cap1 ho1 hgrow1 hat1
             have HX1:=hid hx1
             have HK1:=hid hk1
             have HM1:=hid (And.intro hm1 (And.intro hb1 hR1))
             have HRW2:=hid hrow2
             clear hx1 hk1 hm1 hb1 hR1 hrow2 ho1 hgrow1 hat1)
          | (at_builtin;refine wpList_append_lies _ rfl (.tmp 19) _ _ rfl 0 171 i0 _ 1 8 Tryz.underlying111 hi0 hz0 hz1 hz2 rfl (by omega) (.slice ad2 n2 cap2) n2 (ptrsV L.bs s.ahead) rfl (HRW2.out.alloc _) ⟨w1.heap.size,0,none⟩ 1 1 [.pointer (some ⟨l.b,0,none⟩)] rfl rfl (World.news_of_block (cs:=#[.pointer (some ⟨l.b,0,none⟩)]) (t:=171) (fr:=(0,0)) (alloc_set_new w1 _ _ _)) (by simp [Value.oneCell']) (by omega) (by unfold maxLen;omega) (by omega) (by simp) (w1.heap.size+1) (by simp) ?_;intro g2 cap2' w2 ho2 hgrow2 hat2 hlt2
             obtain⟨cv1,fv1,cv2,cv3,L2,hx2,hk2,hR2',hb2⟩:=hap2.out _ w2 L1 g2 cap2' HX1.out HM1.out.1 HM1.out.2.1 ho2 hgrow2 (hat2.imp id (fun e=>by simp;omega))
             have HF:=hid (show REnAt _ L2 R2∧KeptO L.own L2.own w _∧HdE L2 L∧L2.bs=L.bs from ⟨hx2,HK1.out.trans hk2,hR2'.trans HM1.out.2.2,hb2⟩)
             have HBT1:=hid (hbet1.out _ L2 hx2 hb2)
             have HBT2:=hid (hbet2.out _ L2 hx2 hb2)
             clear hx2 hk2 hR2' hb2 ho2 hgrow2 hat2))
        refine HBT1.out.mono ?_
        rintro e w5 ⟨rfl,hw5⟩
        rw [hw5]
        clear hw5 w5
        go_wp2
        go_ret
        exact⟨by simp,L2,HF.out.1,HF.out.2.1,HF.out.2.2.1,HF.out.2.2.2⟩
      | true =>
        go_enter Tryz.func138,Tryz.ntmps138
        go_wp2_with (first
          | (at_builtin;refine wpList_append_lies _ rfl (.tmp 9) _ _ rfl 0 171 i0 _ 1 8 Tryz.underlying111 hi0 hz0 hz1 hz2 rfl (by omega) (.slice ad n1 cap) n1 (ptrsV L.bs r.behind) rfl (HB1.out.alloc _) ⟨w.heap.size,0,none⟩ 1 1 [.pointer (some ⟨m.b,0,none⟩)] rfl rfl (World.news_of_block (cs:=#[.pointer (some ⟨m.b,0,none⟩)]) (t:=171) (fr:=(0,0)) (heap_alloc_new w _)) (by simp [Value.oneCell']) (by omega) (by unfold maxLen;omega) (by omega) (by simp) (w.heap.size+1) (by simp) ?_;intro g1 cap1 w1 ho1 hgrow1 hat1 hlt1
             obtain⟨cw1,fw1,cw2,L1,hx1,hk1,hR1,hb1,hm1,hrow2⟩:=hap1.out w1 g1 cap1 ho1 hgrow1 hat1
             have HX1:=hid hx1
             have HK1:=hid hk1
             have HM1:=hid (And.intro hm1 (And.intro hb1 hR1))
             have HRW2:=hid hrow2
             clear hx1 hk1 hm1 hb1 hR1 hrow2 ho1 hgrow1 hat1)
          | (at_builtin;refine wpList_append_lies _ rfl (.tmp 19) _ _ rfl 0 171 i0 _ 1 8 Tryz.underlying111 hi0 hz0 hz1 hz2 rfl (by omega) (.slice ad2 n2 cap2) n2 (ptrsV L.bs s.ahead) rfl (HRW2.out.alloc _) ⟨w1.heap.size,0,none⟩ 1 1 [.pointer (some ⟨l.b,0,none⟩)] rfl rfl (World.news_of_block (cs:=#[.pointer (some ⟨l.b,0,none⟩)]) (t:=171) (fr:=(0,0)) (alloc_set_new w1 _ _ _)) (by simp [Value.oneCell']) (by omega) (by unfold maxLen;omega) (by omega) (by simp) (w1.heap.size+1) (by simp) ?_;intro g2 cap2' w2 ho2 hgrow2 hat2 hlt2
             obtain⟨cv1,fv1,cv2,cv3,L2,hx2,hk2,hR2',hb2⟩:=hap2.out _ w2 L1 g2 cap2' HX1.out HM1.out.1 HM1.out.2.1 ho2 hgrow2 (hat2.imp id (fun e=>by simp;omega))
             have HF:=hid (show REnAt _ L2 R2∧KeptO L.own L2.own w _∧HdE L2 L∧L2.bs=L.bs from ⟨hx2,HK1.out.trans hk2,hR2'.trans HM1.out.2.2,hb2⟩)
             have HBT1:=hid (hbet1.out _ L2 hx2 hb2)
             have HBT2:=hid (hbet2.out _ L2 hx2 hb2)
             clear hx2 hk2 hR2' hb2 ho2 hgrow2 hat2))
        refine HBT1.out.mono ?_
        rintro e w5 ⟨rfl,hw5⟩
        rw [hw5]
        clear hw5 w5
        go_wp2_with fail
        refine HBT2.out.mono ?_
        rintro e w5 ⟨rfl,hw5⟩
        rw [hw5]
        clear hw5 w5
        go_wp2
        go_ret
        exact⟨by simp,L2,HF.out.1,HF.out.2.1,HF.out.2.2.1,HF.out.2.2.2⟩
    | true =>
      go_enter Tryz.func138,Tryz.ntmps138
      go_wp2_with (first
        | (at_builtin;refine wpList_append_lies _ rfl (.tmp 9) _ _ rfl 0 171 i0 _ 1 8 Tryz.underlying111 hi0 hz0 hz1 hz2 rfl (by omega) (.slice ad n1 cap) n1 (ptrsV L.bs r.behind) rfl (HB1.out.alloc _) ⟨w.heap.size,0,none⟩ 1 1 [.pointer (some ⟨m.b,0,none⟩)] rfl rfl (World.news_of_block (cs:=#[.pointer (some ⟨m.b,0,none⟩)]) (t:=171) (fr:=(0,0)) (heap_alloc_new w _)) (by simp [Value.oneCell']) (by omega) (by unfold maxLen;omega) (by omega) (by simp) (w.heap.size+1) (by simp) ?_;intro g1 cap1 w1 ho1 hgrow1 hat1 hlt1
           obtain⟨cw1,fw1,cw2,L1,hx1,hk1,hR1,hb1,hm1,hrow2⟩:=hap1.out w1 g1 cap1 ho1 hgrow1 hat1
           have HX1:=hid hx1
           have HK1:=hid hk1
           have HM1:=hid (And.intro hm1 (And.intro hb1 hR1))
           have HRW2:=hid hrow2
           clear hx1 hk1 hm1 hb1 hR1 hrow2 ho1 hgrow1 hat1)
        | (at_builtin;refine wpList_append_lies _ rfl (.tmp 19) _ _ rfl 0 171 i0 _ 1 8 Tryz.underlying111 hi0 hz0 hz1 hz2 rfl (by omega) (.slice ad2 n2 cap2) n2 (ptrsV L.bs s.ahead) rfl (HRW2.out.alloc _) ⟨w1.heap.size,0,none⟩ 1 1 [.pointer (some ⟨l.b,0,none⟩)] rfl rfl (World.news_of_block (cs:=#[.pointer (some ⟨l.b,0,none⟩)]) (t:=171) (fr:=(0,0)) (alloc_set_new w1 _ _ _)) (by simp [Value.oneCell']) (by omega) (by unfold maxLen;omega) (by omega) (by simp) (w1.heap.size+1) (by simp) ?_;intro g2 cap2' w2 ho2 hgrow2 hat2 hlt2
           obtain⟨cv1,fv1,cv2,cv3,L2,hx2,hk2,hR2',hb2⟩:=hap2.out _ w2 L1 g2 cap2' HX1.out HM1.out.1 HM1.out.2.1 ho2 hgrow2 (hat2.imp id (fun e=>by simp;omega))
           have HF:=hid (show REnAt _ L2 R2∧KeptO L.own L2.own w _∧HdE L2 L∧L2.bs=L.bs from ⟨hx2,HK1.out.trans hk2,hR2'.trans HM1.out.2.2,hb2⟩)
           have HBT1:=hid (hbet1.out _ L2 hx2 hb2)
           have HBT2:=hid (hbet2.out _ L2 hx2 hb2)
           clear hx2 hk2 hR2' hb2 ho2 hgrow2 hat2))
      refine HBT1.out.mono ?_
      rintro e w5 ⟨rfl,hw5⟩
      rw [hw5]
      clear hw5 w5
      go_wp2
      go_ret
      exact⟨by simp,L2,HF.out.1,HF.out.2.1,HF.out.2.2.1,HF.out.2.2.2⟩
end
end Go.Proofs.YtjefgmeejhakbaaGreatDoor
/- The document's engine in memory: its own cells, its store, its table, its map, its history are turned; one more transaction. -/
namespace Go.Proofs.YtjefgmeejhakbaaGreatDoor
open Go.RowKit
section
variable {w w1 w':World} {L:REnL} {E:REng} {i:Nat} {l:RTxL} {t t':RTx} {ρ:Nat→RTag}
theorem fcells12 (L:REnL) (last step:Int) (h:L.vs.length=10) (v:Value):(fcells (L.tail step) L.lv last).setIfInBounds 12 v=fcells (({ L with av:=v }:REnL).tail step) L.lv last:=by
 unfold fcells REnL.tail
 rw [List.setIfInBounds_toArray,show 12=10+1+1 from rfl,List.set_cons_succ,List.set_cons_succ,List.set_append_right _ _ (by omega),h]
 rfl
theorem fcells13 (L:REnL) (last step s:Int) (h:L.vs.length=10):(fcells (L.tail step) L.lv last).setIfInBounds 13 (.int .i64 s)=fcells (L.tail s) L.lv last:=by
 unfold fcells REnL.tail
 rw [List.setIfInBounds_toArray,show 13=11+1+1 from rfl,List.set_cons_succ,List.set_cons_succ,List.set_append_right _ _ (by omega),h]
 rfl
theorem fcells15 (L:REnL) (last step:Int) (h:L.vs.length=10) (v:Value):(fcells (L.tail step) L.lv last).setIfInBounds 15 v=fcells (({ L with hv:=v }:REnL).tail step) L.lv last:=by
 unfold fcells REnL.tail
 rw [List.setIfInBounds_toArray,show 15=13+1+1 from rfl,List.set_cons_succ,List.set_cons_succ,List.set_append_right _ _ (by omega),h]
 rfl
theorem REnAt.c13 (h:REnAt w L E):w.cell? ⟨L.R,13,none⟩=some (.int .i64 E.step):=by
 rw [cell_of_row w L.R 13 _ _ (0,0) h.blk]
 have hl:=h.vl
 unfold fcells REnL.tail
 simp only [List.getElem?_toArray,List.getElem?_cons_succ]
 rw [List.getElem?_append_right (by omega),hl]
 rfl
theorem REnAt.c14 (h:REnAt w L E):w.cell? ⟨L.R,14,none⟩=some (.map (some L.mb)):=by
 rw [cell_of_row w L.R 14 _ _ (0,0) h.blk]
 have hl:=h.vl
 unfold fcells REnL.tail
 simp only [List.getElem?_toArray,List.getElem?_cons_succ]
 rw [List.getElem?_append_right (by omega),hl]
 rfl
theorem REnAt.c15 (h:REnAt w L E):w.cell? ⟨L.R,15,none⟩=some L.hv:=by
 rw [cell_of_row w L.R 15 _ _ (0,0) h.blk]
 have hl:=h.vl
 unfold fcells REnL.tail
 simp only [List.getElem?_toArray,List.getElem?_cons_succ]
 rw [List.getElem?_append_right (by omega),hl]
 rfl
theorem REnAt.freeR (h:REnAt w L E) (o:Nat):w.frozen? ⟨L.R,o,none⟩=false:=by simp [World.frozen?,h.blk]
theorem REnAt.setStep (h:REnAt w L E) (s:Int):REnAt (w.setCell ⟨L.R,13,none⟩ (.int .i64 s)) L { E with step:=s }∧KeptO L.own L.own w (w.setCell ⟨L.R,13,none⟩ (.int .i64 s)):=by
 obtain⟨ρ,T⟩:=h.tag
 have ho:∀ g,g≠L.R→(w.setCell ⟨L.R,13,none⟩ (.int .i64 s)).heap[g]?=w.heap[g]?:=fun g hg=>heap_setCell_other _ ⟨L.R,13,none⟩ g _ hg
 have K:=h.keeps T (w':=w.setCell ⟨L.R,13,none⟩ (.int .i64 s)) (fun a=>a≠.eng) (fun g _ hn=>ho g (fun e=>hn (by rw [e];exact T.eng)))
 have hb:=setCell_at (o:=13) (v:=.int .i64 s) h.blk
 rw [fcells13 L E.last E.step s h.vl] at hb
 exact⟨⟨hb,K.kept nofun,h.knl,h.vl,K.rows nofun,h.rnl,K.all nofun,h.len,fun i l t=>K.txs i l t (fun _=>nofun),K.wr nofun,K.hist nofun,ρ,T⟩,rfl,rfl,rfl,by simp,fun g _ hn=>ho g (fun e=>hn (.inl e)),fun g hg=>.inl hg⟩
theorem RTxL.setRow_id (l:RTxL):l.setRow 0 l.rd=l:=rfl
theorem setTx_idL (hl:L.txs[i]?=some l):L.setTx i l=L:=by
 unfold REnL.setTx
 have:L.txs.set i l=L.txs:=by
  refine List.ext_getElem? (fun j=>?_)
  rw [List.getElem?_set]
  split
  ·rename_i e
   subst e
   rw [if_pos (List.getElem?_eq_some_iff.1 hl).1,hl]
  ·rfl
 rw [this]
theorem REnAt.setCell (h:REnAt w L E) (hl:L.txs[i]?=some l) (ht:E.txs[i]?=some t) {o:Nat} {v:Value} (hc:(rtxCells l t).setIfInBounds o v=rtxCells l t') (e1:t'.reads=t.reads) (e2:t'.own=t.own) (e3:t'.behind=t.behind) (e4:t'.ahead=t.ahead) :
  REnAt (w.setCell ⟨l.b,o,none⟩ v) L (E.setTx i t')∧KeptO L.own L.own w (w.setCell ⟨l.b,o,none⟩ v):=by
 have hA:=h.txs i l t hl ht
 have hb:=setCell_at (o:=o) (v:=v) hA.blk
 rw [hc] at hb
 have hrow:∀ q,t'.rowN q=t.rowN q∧t'.rowV L.bs q=t.rowV L.bs q:=fun q=>by
  rcases q with _ | _ | _ | q
  ·exact⟨by show t'.reads.length=_;rw [e1];rfl,by show opsV t'.reads=_;rw [e1];rfl⟩
  ·exact⟨by show t'.own.length=_;rw [e2];rfl,by show vrow t'.own=_;rw [e2];rfl⟩
  ·exact⟨by show t'.behind.length=_;rw [e3];rfl,by show ptrsV _ t'.behind=_;rw [e3];rfl⟩
  ·exact⟨by show t'.ahead.length=_;rw [e4];rfl,by show ptrsV _ t'.ahead=_;rw [e4];rfl⟩
 have hne:=h.row_ne hl (p:=0) (by decide)
 have:=h.setRow (p:=0) (t':=t') (v:=l.rd) (w':=w.setCell ⟨l.b,o,none⟩ v) hl ht (by decide) hb (by
   rw [(hrow 0).1,(hrow 0).2]
   exact owns_same (hA.row 0 (by decide)) (fun g hg=>heap_setCell_other _ ⟨l.b,o,none⟩ g _ (fun e=>hne (by have e':g=l.b:=e;rw [← e'];exact hg)))) (fun g hg=>.inl hg) (fun g _ hg _=>heap_setCell_other _ ⟨l.b,o,none⟩ g _ hg) ⟨rfl,rfl,rfl⟩ (by simp) (fun q _ _=>hrow q)
 rw [RTxL.setRow_id,setTx_idL hl] at this
 exact this
theorem REnAt.setTab (h:REnAt w L E) {vs':List Value} {T':Tab} (hT:RTab (L.emb E.last E.step) w' (L.R+1) L.R vs' T') (hK:KeptR L.R L.vs vs' w w') :
  REnAt w' { L with vs:=vs' } { E with T:=T' }∧KeptO L.own ({ L with vs:=vs' }:REnL).own w w':=by
 obtain⟨ρ,T⟩:=h.tag
 have K:=h.keeps T (w':=w') (fun a=>a≠.eng) (fun g hg hn=>hK.block g (h.own_lt hg) (fun e=>hn (by rw [e];exact T.eng)))
 have F:=T.fresh (n:=w.heap.size) (fun g hg=>h.own_lt hg) .tab
 have hsub:∀ g,InVs vs' g→InVs L.vs g∨w.heap.size≤g:=fun g hg=>by
  obtain⟨v,hv,hg'⟩:=hg
  have hge:=hT.row_ge hv hg'
  rcases hK.sub g (.inr ⟨v,hv,hg'⟩) with (e | h1) | h1
  ·omega
  ·exact .inl h1
  ·exact .inr h1
 refine⟨⟨hT.blk,K.kept nofun,h.knl,hT.lv,hT.own,hT.nl,K.all nofun,h.len,fun i l t=>K.txs i l t (fun _=>nofun),K.wr nofun,K.hist nofun,_,⟨F.eng,F.kept,fun g hg=>?_,F.all,F.byc,F.hist,F.txb,F.txr⟩⟩,hK.os,hK.tape,hK.output,hK.size,fun g hg hn=>hK.block g hg (fun e=>hn (.inl e)),fun g hg=>?_⟩
 ·rcases hsub g hg with h1 | h1
  ·exact F.tab g h1
  ·exact fresh_new h1
 ·rcases hg with h1 | h1 | h1 | h1
  ·exact .inl (.inl h1)
  ·exact .inl (.inr (.inl h1))
  ·exact (hsub g h1).imp (fun h2=>.inr (.inr (.inl h2))) id
  ·exact .inl (.inr (.inr (.inr h1)))
theorem REnAt.setSto (h:REnAt w L E) {lv':Value} {last':Int} {kept':List (Int × Int × Int)} (hS:Ref (L.tail E.step) w' (L.R+1) L.R last' lv' kept') (hK:KeptS L.R w w') (hsub:∀ g,lv'.ownBlock=some g→L.lv.ownBlock=some g∨w.heap.size≤g) :
  REnAt w' { L with lv:=lv' } { E with last:=last',kept:=kept' }∧KeptO L.own ({ L with lv:=lv' }:REnL).own w w':=by
 obtain⟨ρ,T⟩:=h.tag
 have K:=h.keeps T (w':=w') (fun a=>a≠.eng) (fun g hg hn=>hK.block g (h.own_lt hg) (fun e=>hn (by rw [e];exact T.eng)))
 have F:=T.fresh (n:=w.heap.size) (fun g hg=>h.own_lt hg) .kept
 refine⟨⟨hS.blk,hS.own,hS.nl,h.vl,K.rows nofun,h.rnl,K.all nofun,h.len,fun i l t=>K.txs i l t (fun _=>nofun),K.wr nofun,K.hist nofun,_,⟨F.eng,fun g hg=>?_,F.tab,F.all,F.byc,F.hist,F.txb,F.txr⟩⟩,hK.os,hK.tape,hK.output,hK.size,fun g hg hn=>hK.block g hg (fun e=>hn (.inl e)),fun g hg=>?_⟩
 ·rcases hsub g hg with h1 | h1
  ·exact F.kept g h1
  ·exact fresh_new h1
 ·rcases hg with h1 | h1 | h1
  ·exact .inl (.inl h1)
  ·exact (hsub g h1).imp (fun h2=>.inr (.inl h2)) id
  ·exact .inl (.inr (.inr h1))
theorem REnAt.setBy (h:REnAt w L E) {a x:Int} (ha:I64 a) (hn:E.nb≤1000000000) :
  ∃ w',(Instr.mapUpdate 69 (.map (some L.mb)) (.int .i64 a) (.int .i64 x)).run Tryz.prog w=.ok () w'∧REnAt w' L { E with wr:=updT E.wr a (some x),nb:=E.nb+1 }∧KeptO L.own L.own w w':=by
 obtain⟨w',hr,hI,hg⟩:=h.wr.store Tryz.underlying69 (by unfold maxLen;omega) ha (.int .i64 x)
 rw [show updT (fun k=>(E.wr k).map (Value.int .i64)) a (some (.int .i64 x))=fun k=>(updT E.wr a (some x) k).map (Value.int .i64) from (updT_map E.wr a (some x)).symm] at hI
 have hb:∀ g,g<w.heap.size→g≠L.mb→w'.heap[g]?=w.heap[g]?:=fun g hg' hne=>hg.block g hg' (fun e=>hne (by injection e))
 obtain⟨ρ,T⟩:=h.tag
 have hk:∀ g,L.own g→ρ g≠.byc→w'.heap[g]?=w.heap[g]?:=fun g hg' hn=>hb g (h.own_lt hg') (fun e=>hn (by rw [e];exact T.byc))
 have K:=h.keeps T (w':=w') (fun a=>a≠.byc) hk
 exact⟨w',hr,⟨(hk _ (.inl rfl) (by rw [T.eng];exact nofun)).trans h.blk,K.kept nofun,h.knl,h.vl,K.rows nofun,h.rnl,K.all nofun,h.len,fun i l t=>K.txs i l t (fun _=>nofun),hI,K.hist nofun,ρ,T⟩,hg.os,hg.tape,hg.output,hg.size,fun g hg' hn=>hb g hg' (fun e=>hn (e▸.inr (.inr (.inr (.inr (.inl rfl)))))),fun g hg=>.inl hg⟩
theorem REnAt.setHist (h:REnAt w L E) {v:Value} {hist':List (Int × Int × Bool × Int)} (hrow:w1.ownsRow (L.R+1) 90 4 v hist'.length (opsV hist')) (hos:w1.os=w.os∧w1.tape=w.tape∧w1.output=w.output) (hsz:w.heap.size≤w1.heap.size)
  (hb:∀ g,g<w.heap.size→L.hv.ownBlock≠some g→w1.heap[g]?=w.heap[g]?) (hsub:∀ g,v.ownBlock=some g→L.hv.ownBlock=some g∨w.heap.size≤g) :
  REnAt (w1.setCell ⟨L.R,15,none⟩ v) { L with hv:=v } { E with hist:=hist' }∧KeptO L.own ({ L with hv:=v }:REnL).own w (w1.setCell ⟨L.R,15,none⟩ v):=by
 obtain⟨ρ,T⟩:=h.tag
 have hne:L.hv.ownBlock≠some L.R:=fun e=>by have h1:=T.hist _ e;rw [T.eng] at h1;cases h1
 have hR:=h.lt
 have ho:∀ g,g≠L.R→(w1.setCell ⟨L.R,15,none⟩ v).heap[g]?=w1.heap[g]?:=fun g hg=>heap_setCell_other _ ⟨L.R,15,none⟩ g _ hg
 have K:=h.keeps T (w':=w1.setCell ⟨L.R,15,none⟩ v) (fun a=>a≠.eng∧a≠.hist) (fun g hg hn=>(ho g (fun e=>hn.1 (by rw [e];exact T.eng))).trans (hb g (h.own_lt hg) (fun e=>hn.2 (T.hist g e))))
 have F:=T.fresh (n:=w.heap.size) (fun g hg=>h.own_lt hg) .hist
 have hbk:=setCell_at (o:=15) (v:=v) ((hb L.R hR hne).trans h.blk)
 rw [fcells15 L E.last E.step h.vl] at hbk
 refine⟨⟨hbk,K.kept ⟨nofun,nofun⟩,h.knl,h.vl,K.rows ⟨nofun,nofun⟩,h.rnl,K.all ⟨nofun,nofun⟩,h.len,fun i l t=>K.txs i l t (fun _=>⟨nofun,nofun⟩),K.wr ⟨nofun,nofun⟩,?_,_,⟨F.eng,F.kept,F.tab,F.all,F.byc,fun g hg=>?_,F.txb,F.txr⟩⟩,hos.1,hos.2.1,hos.2.2,by simpa using hsz,fun g hg hn=>(ho g (fun e=>hn (.inl e))).trans (hb g hg (fun e=>hn (.inr (.inr (.inr (.inr (.inr (.inl e)))))))),fun g hg=>?_⟩
 ·refine owns_same hrow (fun g hg=>ho g (fun e=>?_))
  have:=(hrow.lt g hg).1
  omega
 ·rcases hsub g hg with h1 | h1
  ·exact F.hist g h1
  ·exact fresh_new h1
 ·rcases hg with h1 | h1 | h1 | h1 | h1 | h1 | h1
  ·exact .inl (.inl h1)
  ·exact .inl (.inr (.inl h1))
  ·exact .inl (.inr (.inr (.inl h1)))
  ·exact .inl (.inr (.inr (.inr (.inl h1))))
  ·exact .inl (.inr (.inr (.inr (.inr (.inl h1)))))
  ·exact (hsub g h1).imp (fun h2=>.inr (.inr (.inr (.inr (.inr (.inl h2)))))) id
  ·exact .inl (.inr (.inr (.inr (.inr (.inr (.inr h1))))))
end
end Go.Proofs.YtjefgmeejhakbaaGreatDoor
/- base.Open: an engine over what was committed on a disk. -/
namespace Go.Proofs.YtjefgmeejhakbaaGreatDoor
open Go.RowKit
def basCells (d s:Nat) (used torn:Int) (down:Bool):Array Value:=#[.pointer (some ⟨d,0,none⟩),.pointer (some ⟨s,0,none⟩),.int .i64 used,.int .i64 torn,.bool down]
theorem flat_nil {recs:List (List (Int × Int))} (h:∀ ws∈recs,ws≠[]):recs.length=0↔recs.flatten=[]:=by
 constructor
 ·intro h0
  rw [List.eq_nil_of_length_eq_zero h0]
  rfl
 ·intro h0
  cases recs with
  | nil=>rfl
  | cons x r =>
   rw [List.flatten_cons,List.append_eq_nil_iff] at h0
   exact (h x (List.mem_cons_self ..) h0.1).elim
theorem flat_fine {D:Dsk} {recs:List (List (Int × Int))} (h:Recs D recs):∀ p∈recs.flatten,Fine p:=fun p hp=>by
 obtain⟨ws,h1,h2⟩:=List.mem_flatten.1 hp
 exact h.fine ws h1 p h2
theorem fine_key {p:Int × Int} (h:Fine p):0≤p.1∧p.1<10:=by
 obtain⟨n,e,hn⟩:=keyB_nat h.1
 omega
set_option maxRecDepth 100000 in
set_option maxHeartbeats 1000000 in
theorem open_any' {w:World} {d:Nat} {dv:List Value} {D:Dsk} (h:DiskAt w d dv D) {recs:List (List (Int × Int))} (hr:Recs D recs) :
  Calls Tryz.prog 38 #[.pointer (some ⟨d,0,none⟩)] w fun e w'=>∃ b L,e=.returned (.tuple #[.pointer (some ⟨b,0,none⟩),.nilIface])∧w'.heap[b]?=some (.cells (basCells d L.s recs.length 0 false) 193 (0,0))∧EnAt w' L (engO recs.length recs.flatten)∧Below w.heap.size w w'∧(∀ g,L.own g→w.heap.size≤g)∧w.heap.size≤b∧¬ L.own b:=by
 have HW:=hid (written_any h hr)
 have hfl:recs.flatten.length≤100000:=by
  have:=flat_le hr.len (Nat.le_refl recs.length)
  have:=hr.lt
  omega
 have HOV:=hid (fun (v:Value) (w1:World) (hrow:w1.ownsRow w.heap.size 78 2 v recs.flatten.length (vrow recs.flatten))=>over_any recs.length recs.flatten v w1 (by have:=hr.lt;omega) (flat_nil hr.ne) hfl (flat_fine hr) hrow)
 clear h hfl
 go_enter Tryz.func38,Tryz.ntmps38
 go_wp2_with fail
 refine HW.out.mono ?_
 rintro e w1 ⟨v,rfl,hrow,hB1⟩
 have HR1:=hid hrow
 have HB1:=hid hB1
 clear hrow hB1 HW
 go_wp2_with fail
 refine (HOV.out v w1 HR1.out).mono ?_
 rintro e w2 ⟨L,rfl,hE,hB2,hO⟩
 have HE:=hid hE
 have HB2:=hid hB2
 have HO:=hid hO
 clear hE hB2 hO HOV
 go_wp2
 go_ret2
 have hs1:=HB1.out.size
 have hs2:=HB2.out.size
 have hBa:Below w2.heap.size w2 (w2.alloc (.cells (basCells d L.s recs.length 0 false) 193)):=(Below.refl _ w2).alloc (Nat.le_refl _) _
 refine⟨w2.heap.size,L,rfl,heap_alloc_new w2 _,HE.out.below hBa,HB1.out.trans ((HB2.out.mono hs1).trans (hBa.mono (by omega))),fun g hg=>Nat.le_trans hs1 (HO.out g hg),by omega,fun ho=>by have:=HE.out.own_lt ho;omega⟩
end Go.Proofs.YtjefgmeejhakbaaGreatDoor
/- engine.Ready. -/
namespace Go.Proofs.YtjefgmeejhakbaaGreatDoor
open Go.RowKit
section
variable {w w':World} {L:EnL} {E:Eng}
set_option maxRecDepth 100000 in
theorem ready_shut (h:EnAt w L E) {n c:Int} (hc:(c=7∧(n<1∨(E.txs.length:Int)<n))∨(c=6∧∃ (i:Nat) (t:Tx),n=(i:Int)+1∧E.txs[i]?=some t∧t.state≠0)) :
  Calls Tryz.prog 84 #[.pointer (some ⟨L.s,0,none⟩),.int .i64 n] w fun e w'=>e=.returned (.iface 24 (.int .i64 c))∧w'=w:=by
 have HO:Hid (Calls Tryz.prog 102 #[.pointer (some ⟨L.s,0,none⟩),.int .i64 n] w fun e w'=>e=.returned (.tuple #[.pointer none,.iface 24 (.int .i64 c)])∧w'=w):=by
  rcases hc with ⟨rfl,hn⟩ | ⟨rfl,i,t,rfl,ht,hs⟩
  ·exact open_err h hn
  ·obtain⟨l,hl,_⟩:=h.get ht
   exact open_state h hl ht hs
 have hne:∀ w,(binOp .neq 33 (.iface 24 (.int .i64 c)) .nilIface).run Tryz.prog w=.ok (.bool true) w:=fun _=>by kernel_rfl
 clear h hc
 go_enter Tryz.func84,Tryz.ntmps84
 go_wp2_with fail
 refine HO.out.mono ?_
 rintro e w1 ⟨rfl,hw1⟩
 rw [hw1]
 clear hw1 w1 HO
 go_wp2
 go_ret
 exact⟨rfl,rfl⟩
set_option maxRecDepth 100000 in
theorem ready_main (h:EnAt w L E) {i:Nat} {t:Tx} (ht:E.txs[i]?=some t) (hs:t.state=0) :
  Calls Tryz.prog 84 #[.pointer (some ⟨L.s,0,none⟩),.int .i64 ((i:Int)+1)] w fun e w'=>e=.returned (if betB t.ahead t.behind=true then .iface 24 (.int .i64 13) else .nilIface)∧w'=w:=by
 obtain⟨l,hl,hA⟩:=h.get ht
 have HO:=hid (open_ok h hl ht hs)
 have HB:=hid (between_any l.b l.ab l.hb 201 201 t.ahead t.behind w hA.c20 hA.c21 hA.ah hA.be)
 cases hb:betB t.ahead t.behind with
 | true =>
  rw [hb] at HB
  clear h hl ht hs hA hb
  go_enter Tryz.func84,Tryz.ntmps84
  go_wp2_with fail
  refine HO.out.mono ?_
  rintro e w1 ⟨rfl,hw1⟩
  rw [hw1]
  clear hw1 w1 HO
  go_wp2_with fail
  refine HB.out.mono ?_
  rintro e w1 ⟨rfl,hw1⟩
  rw [hw1]
  clear hw1 w1 HB
  go_wp2
  go_ret
  exact⟨rfl,rfl⟩
 | false =>
  rw [hb] at HB
  clear h hl ht hs hA hb
  go_enter Tryz.func84,Tryz.ntmps84
  go_wp2_with fail
  refine HO.out.mono ?_
  rintro e w1 ⟨rfl,hw1⟩
  rw [hw1]
  clear hw1 w1 HO
  go_wp2_with fail
  refine HB.out.mono ?_
  rintro e w1 ⟨rfl,hw1⟩
  rw [hw1]
  clear hw1 w1 HB
  go_wp2
  go_ret
  exact⟨rfl,rfl⟩
end
end Go.Proofs.YtjefgmeejhakbaaGreatDoor
/- A base in memory, and its small methods. -/
namespace Go.Proofs.YtjefgmeejhakbaaGreatDoor
open Go.RowKit
structure BasAt (w:World) (b d:Nat) (L:EnL) (E:Eng) (dv:List Value) (D:Dsk) (used torn:Int) (down:Bool):Prop where
 bas:w.heap[b]?=some (.cells (basCells d L.s used torn down) 193 (0,0))
 dsk:DiskAt w d dv D
 en:EnAt w L E
 sepb:¬ L.own b
 sepd:∀ g,dOwn d dv g→¬ L.own g∧g≠b
section
variable {w w':World} {b d:Nat} {L L':EnL} {E E':Eng} {dv dv':List Value} {D D':Dsk} {used torn:Int} {down:Bool}
theorem BasAt.lt (h:BasAt w b d L E dv D used torn down):b<w.heap.size:=(Array.getElem?_eq_some_iff.1 h.bas).1
theorem BasAt.cell (h:BasAt w b d L E dv D used torn down) (o:Nat):w.cell? ⟨b,o,none⟩=(basCells d L.s used torn down)[o]?:=cell_of_row w b o _ _ (0,0) h.bas
theorem BasAt.free (h:BasAt w b d L E dv D used torn down) (o:Nat):w.frozen? ⟨b,o,none⟩=false:=by simp [World.frozen?,h.bas]
theorem BasAt.below (h:BasAt w b d L E dv D used torn down) (hB:Below w.heap.size w w'):BasAt w' b d L E dv D used torn down :=
 ⟨(hB.block b h.lt).trans h.bas,h.dsk.below hB,h.en.below hB,h.sepb,h.sepd⟩
theorem BasAt.drewN (h:BasAt w b d L E dv D used torn down) (q:Nat):BasAt (w.drewN q) b d L E dv D used torn down:=h.below (below_drewN (Below.refl _ w) q)
theorem BasAt.turn (h:BasAt w b d L E dv D used torn down) (hE:EnAt w' L' E') (hK:KeptO L.own L'.own w w') (hs:L'.s=L.s):BasAt w' b d L' E' dv D used torn down:=by
 refine⟨?_,?_,hE,?_,?_⟩
 ·rw [hs];exact (hK.block b h.lt h.sepb).trans h.bas
 ·exact h.dsk.same hK.size (fun g hg=>hK.block g (h.dsk.own_lt hg) (h.sepd g hg).1)
 ·intro ho
  rcases hK.sub b ho with h1 | h1
  ·exact h.sepb h1
  ·have:=h.lt;omega
 ·intro g hg
  refine⟨fun ho=>?_,(h.sepd g hg).2⟩
  rcases hK.sub g ho with h1 | h1
  ·exact (h.sepd g hg).1 h1
  ·have:=h.dsk.own_lt hg;omega
theorem BasAt.post (h:BasAt w b d L E dv D used torn down) (hP:EnPost L E' w w'):∃ L',BasAt w' b d L' E' dv D used torn down∧KeptO L.own L'.own w w'∧L'.s=L.s:=by
 obtain⟨L',hE,hK,hs,_⟩:=hP
 exact⟨L',h.turn hE hK hs,hK,hs⟩
theorem BasAt.setOwn (h:BasAt w b d L E dv D used torn down) {o:Nat} {v:Value} {used' torn':Int} {down':Bool} (hc:(basCells d L.s used torn down).setIfInBounds o v=basCells d L.s used' torn' down'):BasAt (w.setCell ⟨b,o,none⟩ v) b d L E dv D used' torn' down':=by
 have hb:∀ k,k≠b→(w.setCell ⟨b,o,none⟩ v).heap[k]?=w.heap[k]?:=fun k hk=>heap_setCell_other _ _ _ _ hk
 refine⟨(setCell_at h.bas).trans (by rw [hc]),h.dsk.same (by simp) (fun g hg=>hb g (h.sepd g hg).2),h.en.same (fun g hg=>hb g (fun e=>h.sepb (e▸hg))),h.sepb,h.sepd⟩
theorem BasAt.setDisk (h:BasAt w b d L E dv D used torn down) (hD:DiskAt w' d dv' D') (ho:∀ g,dOwn d dv' g→dOwn d dv g∨w.heap.size≤g) (hk:∀ k,k<w.heap.size→k≠d→w'.heap[k]?=w.heap[k]?):BasAt w' b d L E dv' D' used torn down:=by
 have hbd:b≠d:=fun e=>(h.sepd d (.inl rfl)).2 e.symm
 refine⟨(hk b h.lt hbd).trans h.bas,hD,h.en.same (fun g hg=>hk g (h.en.own_lt hg) (fun e=>(h.sepd d (.inl rfl)).1 (e▸hg))),h.sepb,fun g hg=>?_⟩
 rcases ho g hg with h1 | h1
 ·exact h.sepd g h1
 ·exact⟨fun ho=>by have:=h.en.own_lt ho;omega,fun e=>by have:=h.lt;omega⟩
end
section
variable {w:World} {b d:Nat} {L:EnL} {E:Eng} {dv:List Value} {D:Dsk} {used torn:Int} {down:Bool}
set_option maxRecDepth 100000 in
theorem bengine_any (h:BasAt w b d L E dv D used torn down):Calls Tryz.prog 39 #[.pointer (some ⟨b,0,none⟩)] w fun e w'=>e=.returned (.pointer (some ⟨L.s,0,none⟩))∧w'=w:=by
 have c1:=h.cell 1
 simp only [basCells,List.getElem?_toArray,List.getElem?_cons_zero,List.getElem?_cons_succ] at c1
 clear h
 go_enter Tryz.func39,Tryz.ntmps39
 go_wp2
 go_ret
 exact⟨rfl,rfl⟩
set_option maxRecDepth 100000 in
theorem bdown_any (h:BasAt w b d L E dv D used torn down):Calls Tryz.prog 49 #[.pointer (some ⟨b,0,none⟩)] w fun e w'=>e=.returned (.bool down)∧w'=w:=by
 have c1:=h.cell 4
 simp only [basCells,List.getElem?_toArray,List.getElem?_cons_zero,List.getElem?_cons_succ] at c1
 clear h
 go_enter Tryz.func49,Tryz.ntmps49
 go_wp2
 go_ret
 exact⟨rfl,rfl⟩
set_option maxRecDepth 100000 in
theorem bused_any (h:BasAt w b d L E dv D used torn down):Calls Tryz.prog 48 #[.pointer (some ⟨b,0,none⟩)] w fun e w'=>e=.returned (.int .i64 used)∧w'=w:=by
 have c1:=h.cell 2
 simp only [basCells,List.getElem?_toArray,List.getElem?_cons_zero,List.getElem?_cons_succ] at c1
 clear h
 go_enter Tryz.func48,Tryz.ntmps48
 go_wp2
 go_ret
 exact⟨rfl,rfl⟩
set_option maxRecDepth 100000 in
theorem btorn_any (h:BasAt w b d L E dv D used torn down) (n:Int):Calls Tryz.prog 47 #[.pointer (some ⟨b,0,none⟩),.int .i64 n] w fun e w'=>e=.returned (.tuple #[])∧BasAt w' b d L E dv D used (max 0 n) down∧(w'.heap.size=w.heap.size∧w'.os=w.os∧w'.tape=w.tape∧w'.output=w.output)∧∀ k,k≠b→w'.heap[k]?=w.heap[k]?:=by
 have c1:=h.cell 3
 simp only [basCells,List.getElem?_toArray,List.getElem?_cons_zero,List.getElem?_cons_succ] at c1
 have f1:=h.free 3
 have HF:=hid h
 clear h
 go_enter Tryz.func47,Tryz.ntmps47
 go_wp2
 refine bodyPost_end (results_none rfl _ _ _) rfl ?_
 exact⟨rfl,HF.out.setOwn rfl,⟨by simp,rfl,rfl,rfl⟩,fun k hk=>heap_setCell_other _ _ _ _ hk⟩
set_option maxRecDepth 100000 in
theorem dcut_any (h:DiskAt w d dv D) (n:Int):Calls Tryz.prog 45 #[.pointer (some ⟨d,0,none⟩),.int .i64 n] w fun e w'=>e=.returned (.tuple #[])∧DiskAt w' d dv { D with cut:=decide (n≥0),left:=n }∧(w'.heap.size=w.heap.size∧w'.os=w.os∧w'.tape=w.tape∧w'.output=w.output)∧∀ k,k≠d→w'.heap[k]?=w.heap[k]?:=by
 have c1:=h.cellCut
 have f1:=h.free 250
 have h1:=h.setCut (decide (n≥0))
 have c2:=h1.cellLeft
 have f2:=h1.free 251
 have HF:=hid (h1.setLeft n)
 clear h1 h
 go_enter Tryz.func45,Tryz.ntmps45
 go_wp2
 refine bodyPost_end (results_none rfl _ _ _) rfl ?_
 exact⟨rfl,HF.out,⟨by simp,rfl,rfl,rfl⟩,fun k hk=>(heap_setCell_other _ _ _ _ hk).trans (heap_setCell_other _ _ _ _ hk)⟩
end
end Go.Proofs.YtjefgmeejhakbaaGreatDoor
/- Plain: what an engine over values keeps, whatever its transactions do. -/
namespace Go.Proofs.YtjefgmeejhakbaaGreatDoor
section
variable {a0:Int} {K0:Int→Option Int} {E:Eng} {i:Nat} {u:Tx} {n:Nat}
end
def DskOk (D:Dsk) (recs:List (List (Int × Int))):Prop:=Recs D recs∧D.pl.length=250∧(∀ (j:Nat) (l:List Int),recs.length≤j→D.pl[j]?=some l→wholeP l=false)∧(-1≤D.left∧D.left≤100)
end Go.Proofs.YtjefgmeejhakbaaGreatDoor
