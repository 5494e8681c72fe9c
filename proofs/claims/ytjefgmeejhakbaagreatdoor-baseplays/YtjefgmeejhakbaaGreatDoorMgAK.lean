/- EnPlain GsRead FtAskB FtAskC: put together for a claim. -/
import Derived.Test.YtjefgmeejhakbaaGreatDoorMgAJ
import Derived.Test.YtjefgmeejhakbaaGreatDoorGsMem
import Derived.Test.YtjefgmeejhakbaaGreatDoorMgAI
/- The engine's steps, plain. -/
namespace Go.Proofs.YtjefgmeejhakbaaGreatDoor
open Go.RowKit
def Eng.upd (E:Eng) (i:Nat) (f:Tx→Tx):Eng:=match E.txs[i]? with
 | some t=>E.setTx i (f t)
 | none=>E
theorem Eng.upd_some {E:Eng} {i:Nat} {t:Tx} (h:E.txs[i]?=some t) (f:Tx→Tx):E.upd i f=E.setTx i (f t):=by simp [Eng.upd,h]
theorem setTx_get {E:Eng} {i:Nat} {t u:Tx} (h:E.txs[i]?=some u):(E.setTx i t).txs[i]?=some t:=by
 have:=(List.getElem?_eq_some_iff.1 h).1
 simp [Eng.setTx,this]
theorem setTx_get_ne {E:Eng} {i j:Nat} {t:Tx} (h:i≠j):(E.setTx i t).txs[j]?=E.txs[j]?:=by
 simp [Eng.setTx,h]
theorem setTx_len (E:Eng) (i:Nat) (t:Tx):(E.setTx i t).txs.length=E.txs.length:=by simp [Eng.setTx]
theorem setTx_twice (E:Eng) (i:Nat) (t u:Tx):(E.setTx i t).setTx i u=E.setTx i u:=by simp [Eng.setTx]
def seesP (E:Eng) (t:Tx):Int:=if t.level=0 then E.last else t.start
def newerP (E:Eng) (key t:Int):List Int:=let l:=E.ks[key.toNat]?.getD [];(l.drop (lat l t+1).toNat).map (·.1)
def noteReadP (t:Tx) (key frm:Int):Tx:={ t with reads:=t.reads++[(key,frm)],seen:=t.seen.set key.toNat true }
noncomputable def putAheadP (E:Eng) (i j:Nat):Bool × Eng:=match E.txs[i]?,E.txs[j]? with
  | some t,some u =>
    (!stuckB t.state t.ahead (fun a=>t.behind a||a==(j:Int)+1)&&!stuckB u.state (fun a=>u.ahead a||a==(i:Int)+1) u.behind,
      (E.setTx i { t with behind:=fun a=>t.behind a||a==(j:Int)+1 }).setTx j { u with ahead:=fun a=>u.ahead a||a==(i:Int)+1 })
  | _,_=>(true,E)
noncomputable def aheadAll (f:Nat→Nat × Nat):List Nat→Eng→Bool × Eng
 | [],E=>(true,E)
 | j::r,E=>match putAheadP E (f j).1 (f j).2 with
  | (true,E')=>aheadAll f r E'
  | (false,E')=>(false,E')
noncomputable def aheadEach (i:Nat):List Nat→Eng→Eng
 | [],E=>E
 | j::r,E=>aheadEach i r (putAheadP E i j).2
def thoseP (E:Eng) (p:Nat→Tx→Bool):List Nat:=(List.range E.txs.length).filter (fun i=>match E.txs[i]? with | some t=>p i t | none=>false)
def strictOf (E:Eng) (n:Int):Option Nat:=if 1≤n∧n≤E.txs.length then (match E.txs[(n-1).toNat]? with | some t=>if t.level=2 then some (n-1).toNat else none | none=>none) else none
def writesB (key:Int) (u:Tx):Bool:=(u.vals key).isSome&&(u.level==2&&liveB u.state)
def wasOverB (u:Tx) (n:Int):Bool:=!liveB u.state&&decide (u.bae<n)
def hasReadB (key:Int) (i:Nat) (j:Nat) (u:Tx):Bool:=u.seen[key.toNat]?.getD false&&(decide (j≠i)&&(u.level==2&&(decide (u.state≠3)&&!wasOverB u ((i:Int)+1))))
noncomputable def aheadTimes (i:Nat):List Int→Eng→Bool × Eng
 | [],E=>(true,E)
 | a::r,E=>match strictOf E ((E.wr a).getD 0) with
  | some j=>(match putAheadP E i j with
   | (true,E')=>aheadTimes i r E'
   | (false,E')=>(false,E'))
  | none=>aheadTimes i r E
noncomputable def aowP (E:Eng) (i:Nat) (key:Int):Bool × Eng:=match E.txs[i]? with
 | some t=>(match aheadTimes i (newerP E key t.start) E with
  | (true,E')=>(true,aheadEach i (thoseP E' (fun _ u=>writesB key u)) E')
  | (false,E')=>(false,E'))
 | none=>(true,E)
noncomputable def behindP (E:Eng) (i:Nat) (key:Int):Bool × Eng:=aheadAll (fun j=>(j,i)) (thoseP E (hasReadB key i)) E
noncomputable def putE (E:Eng) (i:Nat):Int × Eng:=match E.txs[i]? with
 | some t =>
  if t.level≠0∧newerP E t.wk t.start≠[] then (10,E) else
  let E1:=E.setTx i { t with vals:=updT t.vals t.wk (some t.wv) }
  if t.level=2 then (match behindP E1 i t.wk with
   | (true,E2)=>(0,E2)
   | (false,E2)=>(13,E2)) else (0,E1)
 | none=>(0,E)
def freeOf (n:Int) (t:Tx):Tx:={ t with ahead:=fun a=>t.ahead a&&a != n,behind:=fun a=>t.behind a&&a != n }
def loseE (E:Eng) (i:Nat) (why:Int):Eng:=match E.txs[i]? with
 | some t=>Eng.upd { E with txs:=(E.txs.set i { t with why:=why }).map (freeOf ((i:Int)+1)) } i (fun t=>{ t with reads:=[] })
 | none=>E
noncomputable def writeR (fin:Eng→Nat→Int→Option Eng) (E:Eng) (j:Nat):Option (Int × Eng):=match putE E j with
 | (why,E')=>if why=0 then some (0,E') else (fin (loseE E' j why) j 3).map (fun E=>(why,E))
noncomputable def goR (fin:Eng→Nat→Int→Option Eng):List (Int × Int)→Eng→Option Eng
  | [],E=>some E
  | (_,x)::r,E=>if 1≤x∧x≤E.txs.length then (match writeR fin (E.upd (x-1).toNat (fun t=>{ t with state:=0 })) (x-1).toNat with
    | some (_,E')=>goR fin r E'
    | none=>none) else goR fin r E
def overE (E:Eng) (i:Nat) (st:Int):Eng:=let E1:=E.upd i (fun t=>{ t with state:=st,bae:=E.txs.length });{ E1 with T:=dropP E1.T ((i:Int)+1) }
noncomputable def endF:Nat→Eng→Nat→Int→Option Eng
 | 0,_,_,_=>none
 | f+1,E,i,st=>goR (endF f) (outP E.T ((i:Int)+1)) (overE E i st)
end Go.Proofs.YtjefgmeejhakbaaGreatDoor
/- The document's Read at whatever its list is; Sweep; All. -/
namespace Go.Proofs.YtjefgmeejhakbaaGreatDoor.Gs
open Go.RowKit
variable {P:GTail}
set_option maxRecDepth 100000 in
set_option maxHeartbeats 2000000 in
theorem refRead_nil (base R:Nat) (k t last:Int) (w:World) (hk:inB k 0 9=true) (h:Ref P w base R last (.slice none 0 0) []) :
  Calls Tryz.prog 135 #[.pointer (some ⟨R,1,none⟩),.int .i64 k,.int .i64 t] w fun e w' =>
   e=.returned (.tuple #[.agg #[.int .i64 0,.int .i64 0],.int .i64 8])∧Below w.heap.size w w':=by
 have hc:=h.c0
 have hR:=h.lt
 go_enter Tryz.func135,Tryz.ntmps135
 go_wp2_with (go_at_call 54;refine (in_any _ _ _ _).mono ?_;rintro e w' ⟨rfl,rfl⟩)
 go_loopw [9,22] (fun sv i wr=>i=.int .i64 0∧sv=.bool false∧wr.heap[w.heap.size]?=some (.cells #[.int .i64 0,.int .i64 0] 199 (0,0))∧Below w.heap.size w wr) (fun _ _ _=>0)
 case atStart=>exact⟨rfl,rfl,(Below.heap_alloc _ _ _ (by simp)).trans (World.alloc_heap_new w _),((Below.refl _ w).alloc (Nat.le_refl _) _).alloc (by simp) _⟩
 case round =>
  obtain⟨rfl,rfl,hx,hB⟩:=hrel
  have g0:wr.cell? ⟨w.heap.size,0,none⟩=some (.int .i64 0):=(cell_of_row _ _ 0 _ 199 (0,0) hx).trans rfl
  have g1:wr.cell? ⟨w.heap.size,1,none⟩=some (.int .i64 0):=(cell_of_row _ _ 1 _ 199 (0,0) hx).trans rfl
  have f0:=frozen_of_row wr w.heap.size 0 _ 199 hx
  have f1:=frozen_of_row wr w.heap.size 1 _ 199 hx
  clear hx
  go_wp2
  refine bodyPost_ret (v:=.tuple #[.agg #[.int .i64 0,.int .i64 0],.int .i64 8]) (by simp [results,Tryz.results135,go_sem,g0,g1]) rfl ⟨rfl,?_⟩
  exact (hB.setCell (p:=⟨w.heap.size,0,none⟩) (by simp) _).setCell (p:=⟨w.heap.size,1,none⟩) (by simp) _
theorem refRead_any (base R:Nat) (k t last:Int) (lv:Value) (L:List (Int × Int × Int)) (w:World) (hk:inB k 0 9=true) (hlen:L.length≤100000) (h:Ref P w base R last lv L) :
  Calls Tryz.prog 135 #[.pointer (some ⟨R,1,none⟩),.int .i64 k,.int .i64 t] w fun e w' =>
   e=.returned (.tuple #[.agg #[.int .i64 ((best k t L).getD (0,0)).1,.int .i64 ((best k t L).getD (0,0)).2],.int .i64 (errOf (best k t L))])∧Below w.heap.size w w':=by
 rcases h.slice with ⟨rfl,rfl⟩ | ⟨g,cap,rfl,_⟩
 ·exact refRead_nil base R k t last w hk h
 ·exact refRead_walk base R g cap k t last L w hk hlen h
end Go.Proofs.YtjefgmeejhakbaaGreatDoor.Gs
/- (*interleafref.Table).Ask where the key is held by another. -/
namespace Go.Proofs.YtjefgmeejhakbaaGreatDoor
open Go.RowKit
variable {F:FEmb}
def moreP (T:Tab) (tx k:Int) (A:Bool):Bool × Int × Tab:=match A with
 | true=>(false,11,T)
 | false=>(false,0,updT T k (T k++[tx]))
set_option maxRecDepth 100000 in
set_option maxHeartbeats 8000000 in
theorem rask_more (base r:Nat) (vs:List Value) (T:Tab) (q:Int→Nat) (tx:Int) (j:Nat) (w:World) (h:RTab F w base r vs T) (hT:Tidy0 T) (hq:Ranked T q) (hj:j<10) (htx:1≤tx) (hbase:base≤w.heap.size) (hlen:∀ k,(T k).length≤100000)
    (hw:waitsP T tx=-1) (hn:T j≠[]) (hne:holdsP T j≠tx) :
    Calls Tryz.prog 140 #[.pointer (some ⟨r,2,none⟩),.int .i64 tx,.int .i64 (j:Int)] w (RAskPost F base r vs (moreP T tx j (reachP T tx (q (holdsP T j)+1) (holdsP T j))) w):=by
  obtain⟨i0,hi0,hz0,hz1,hz2⟩:=info_parts info3
  have hin:inB (j:Int) 0 9=true:=by simp [inB];omega
  have hcw:=rwaits_any base r vs T tx w h hT (fun k=>by have:=hlen k;omega)
  have hch:=rholds_any base r vs T (j:Int) w h hT
  rw [hw] at hcw
  have hy1:=holds_pos hT hn
  obtain⟨y,hy⟩:∃ y,holdsP T j=y:=⟨_,rfl⟩
  rw [hy] at hch hy1 hne ⊢
  obtain⟨v,hv,ho⟩:=h.at hj
  have cv:=h.cell hv
  have hpos:0<(T j).length:=List.length_pos_iff.2 hn
  have hlj:=hlen j
  rcases row_slice ho with ⟨_,e0⟩ | ⟨gz,cz,rfl,hgz,hcz⟩
  · omega
  have fv:=h.free (2+j)
  have hr:=h.lt
  have HCW:=hid hcw
  have HCH:=hid hch
  have HR:=hid h
  have HWX:=hid (fun x=>rwaits_any base r vs T x w h hT (fun k=>by have:=hlen k;omega))
  have HHX:=hid (fun k=>rholds_any base r vs T k w h hT)
  have HQ:=hid hq
  have HT:=hid hT
  have g3:¬ tx<1:=by omega
  have e0:(y==tx)=false:=by simpa using hne
  have e1:(y==0)=false:=by simp;omega
  have hj0:(0:Int)≤(j:Int):=by omega
  have hj1:(j:Int)<10:=by omega
  obtain⟨M,hM⟩:∃ M,(T j).length=M:=⟨_,rfl⟩
  rw [hM] at cv hpos hlj
  have HML:=hid hM
  have HCZ:=hid hcz
  obtain⟨A,hA⟩:∃ A,reachP T tx (q y+1) y=A:=⟨_,rfl⟩
  rw [hA]
  have HA:=hid hA
  clear hcw hch h hT hw hn ho hv hlen hM hcz hq hy hA
  go_enter Tryz.func140,Tryz.ntmps140
  go_wp2_with (first
    | (go_at_call 54;refine (in_any _ _ _ _).mono ?_;rintro e w' ⟨rfl,hw'⟩;rw [hw'];clear hw' w')
    | (go_at_call 148;refine HCW.out.mono ?_;rintro e w' ⟨rfl,hw'⟩;rw [hw'];clear hw' w')
    | (go_at_call 147;refine HCH.out.mono ?_;rintro e w' ⟨rfl,hw'⟩;rw [hw'];clear hw' w'))
  go_loop [9] (fun v=>∃ x:Int,v=.int .i64 x∧1≤x∧Hid (∃ m,q x<m∧reachP T tx m x=A)) (fun v=>q (intOf v))
  case atStart=>exact⟨y,rfl,hy1,q y+1,by omega,HA.out⟩
  case round =>
    obtain⟨x,rfl,hx1,HM⟩:=hrel
    have ex:(x != 0)=true:=by simp;omega
    obtain⟨m,hm1,hm2⟩:=HM.out
    obtain⟨m,rfl⟩:∃ m',m=m'+1:=⟨m-1,by omega⟩
    rw [reachP] at hm2
    have hcx:=HWX.out x
    by_cases hw:waitsP T x<0
    · rw [if_pos hw] at hm2
      have hw1:waitsP T x=-1:=by rcases waits_cases T x with e | e<;>omega
      rw [hw1] at hcx
      have HCX:=hid hcx
      subst hm2
      have hO1:=hid (World.ownsRow_made (base:=w.heap.size) (e:=3) (size:=1) w #[] 0 (Nat.le_refl _) (by simp [maxLen]) rfl)
      have hO3:=hid (World.ownsRow_made (base:=w.heap.size) (e:=3) (size:=1) (w.alloc (.cells #[.int .i64 tx] 3)) #[] 0 (by simp) (by simp [maxLen]) rfl)
      have hN2:=hid (show ((w.alloc (.cells #[] 3)).alloc (.cells #[.int .i64 tx] 3)).heap[w.heap.size+1]?=some (.cells #[.int .i64 tx] 3) by have:=heap_alloc_new (w.alloc (.cells #[] 3)) (.cells #[.int .i64 tx] 3);rwa [World.size_alloc] at this)
      have hN3:=hid (show ((w.alloc (.cells #[.int .i64 tx] 3)).alloc (.cells #[] 3)).heap[w.heap.size]?=some (.cells #[.int .i64 tx] 3) from (Below.heap_alloc _ _ w.heap.size (by simp)).trans (heap_alloc_new w _))
      have hcA:=hid (fun (o:Obj) (j2:Nat) (u:Value) (hu:(intsV (T j))[j2]?=some u)=>show (w.alloc o).cell? ((⟨gz,0,none⟩:Addr).add j2)=some u by
        rw [addr_add]
        exact (World.cell?_of_block (a:=⟨gz,j2,none⟩) (Below.heap_alloc w o gz hgz)).trans (HCZ.out j2 u hu))
      have hcB:=hid (fun (o o':Obj) (j2:Nat) (u:Value) (hu:(intsV (T j))[j2]?=some u)=>show ((w.alloc o).alloc o').cell? ((⟨gz,0,none⟩:Addr).add j2)=some u by
        rw [addr_add]
        exact (World.cell?_of_block (a:=⟨gz,j2,none⟩) ((Below.heap_alloc _ o' gz (by simp;omega)).trans (Below.heap_alloc w o gz hgz))).trans (HCZ.out j2 u hu))
      have HIL:=hid (show (intsV (T j)).length=M*1 by rw [intsV_length,HML.out];omega)
      have hk1:=intsV_one (T j)
      clear hcx hw1 hw hm1 HM
      go_wp2_with (go_at_call 148;refine HCX.out.mono ?_;rintro e w' ⟨rfl,hw'⟩;rw [hw'];clear hw' w')
      go_region_law
        (first
          | (refine step_append_lies _ (by rfl) _ _ _ (by rfl) w.heap.size 3 i0 _ 1 8 Tryz.underlying29 hi0 hz0 hz1 hz2 rfl (by omega) (.slice (some ⟨w.heap.size,0,none⟩) 0 0) 0 [] (by rfl) (hO1.out.drew) ⟨gz,0,none⟩ M cz (intsV (T j)) (by rfl) HIL.out (fun j2 u hu=>hcA.out (.cells #[] 3) j2 u hu) hk1 hpos (by unfold maxLen;omega) (by omega) (by simp<;>omega) (w.heap.size+1) (by simp) ?_
             intro g1 cap1 w1 hown1 hgrow1 hat1 hlt1
             rw [Nat.zero_add] at hown1 ⊢
             rw [List.nil_append] at hown1
             have hBB1:Below w.heap.size w w1:=((((Below.refl _ w).alloc (Nat.le_refl _) _).drew)).grown hgrow1 (by simp) (fun k e=>by cases e;exact Nat.le_refl _)
             have cR1:w1.cell? ⟨r,2+j,none⟩=some (.slice (some ⟨gz,0,none⟩) M cz):=(hBB1.cell (p:=⟨r,2+j,none⟩) hr).trans cv)
          | (refine step_append_lies _ (by rfl) _ _ _ (by rfl) w.heap.size 3 i0 _ 1 8 Tryz.underlying29 hi0 hz0 hz1 hz2 rfl (by omega) (.slice (some ⟨w.heap.size,0,none⟩) 0 0) 0 [] (by rfl) ((hO1.out.alloc (.cells #[.int .i64 tx] 3)).drew) ⟨gz,0,none⟩ M cz (intsV (T j)) (by rfl) HIL.out (fun j2 u hu=>hcB.out (.cells #[] 3) (.cells #[.int .i64 tx] 3) j2 u hu) hk1 hpos (by unfold maxLen;omega) (by omega) (by simp<;>omega) (w.heap.size+1+1) (by simp) ?_
             intro g1 cap1 w1 hown1 hgrow1 hat1 hlt1
             rw [Nat.zero_add] at hown1 ⊢
             rw [List.nil_append] at hown1
             have hBB1:Below w.heap.size w w1:=(((((Below.refl _ w).alloc (Nat.le_refl _) _).alloc (by simp) _).drew)).grown hgrow1 (by simp<;>omega) (fun k e=>by cases e;exact Nat.le_refl _)
             have hsrc:w1.heap[w.heap.size+1]?=some (.cells #[.int .i64 tx] 3 (0,0)):=(hgrow1.block (w.heap.size+1) (by simp) (by simp [Value.ownBlock])).trans hN2.out
             have cR1:w1.cell? ⟨r,2+j,none⟩=some (.slice (some ⟨gz,0,none⟩) M cz):=(hBB1.cell (p:=⟨r,2+j,none⟩) hr).trans cv)
          | (refine step_append_lies _ (by rfl) _ _ _ (by rfl) w.heap.size 3 i0 _ 1 8 Tryz.underlying29 hi0 hz0 hz1 hz2 rfl (by omega) (.slice (some ⟨w.heap.size+1,0,none⟩) 0 0) 0 [] (by rfl) (by have:=hO3.out.drew;rw [World.size_alloc] at this;exact this) ⟨gz,0,none⟩ M cz (intsV (T j)) (by rfl) HIL.out (fun j2 u hu=>hcB.out (.cells #[.int .i64 tx] 3) (.cells #[] 3) j2 u hu) hk1 hpos (by unfold maxLen;omega) (by omega) (by simp<;>omega) (w.heap.size+1+1) (by simp) ?_
             intro g1 cap1 w1 hown1 hgrow1 hat1 hlt1
             rw [Nat.zero_add] at hown1 ⊢
             rw [List.nil_append] at hown1
             have hBB1:Below w.heap.size w w1:=(((((Below.refl _ w).alloc (Nat.le_refl _) _).alloc (by simp) _).drew)).grown hgrow1 (by simp<;>omega) (fun k e=>by cases e;simp)
             have hsrc:w1.heap[w.heap.size]?=some (.cells #[.int .i64 tx] 3 (0,0)):=(hgrow1.block w.heap.size (by simp<;>omega) (by simp [Value.ownBlock])).trans hN3.out
             have cR1:w1.cell? ⟨r,2+j,none⟩=some (.slice (some ⟨gz,0,none⟩) M cz):=(hBB1.cell (p:=⟨r,2+j,none⟩) hr).trans cv)
          | (refine step_append_lies _ (by rfl) _ _ _ (by rfl) w.heap.size 3 i0 _ 1 8 Tryz.underlying29 hi0 hz0 hz1 hz2 rfl (by omega) (.slice (some ⟨g1,0,none⟩) M cap1) M (intsV (T j)) (by rfl) (hown1.alloc _) ⟨w1.heap.size,0,none⟩ 1 1 [.int .i64 tx] (by rfl) (by rfl) (World.news_of_block (cs:=#[.int .i64 tx]) (t:=3) (fr:=(0,0)) (heap_alloc_new w1 _)) (by simp [Value.oneCell']) (by omega) (by unfold maxLen;omega) (by omega) (by have:=hBB1.size;simp<;>omega) (w1.heap.size+1) (by simp) ?_
             intro g2 cap2 w2 hown2 hgrow2 hat2 hlt2
             have hBB2:Below w.heap.size w w2:=(hBB1.alloc hBB1.size _).grown hgrow2 (by have:=hBB1.size;simp<;>omega) (fun k e=>(hown1.lt k e).1)
             have fR2:w2.frozen? ⟨r,2+j,none⟩=false:=(hBB2.frozen (p:=⟨r,2+j,none⟩) hr).trans fv
             have cR2:w2.cell? ⟨r,2+j,none⟩=some (.slice (some ⟨gz,0,none⟩) M cz):=(hBB2.cell (p:=⟨r,2+j,none⟩) hr).trans cv)
          | (refine step_append_lies _ (by rfl) _ _ _ (by rfl) w.heap.size 3 i0 _ 1 8 Tryz.underlying29 hi0 hz0 hz1 hz2 rfl (by omega) (.slice (some ⟨g1,0,none⟩) M cap1) M (intsV (T j)) (by rfl) hown1 ⟨_,0,none⟩ 1 1 [.int .i64 tx] (by rfl) (by rfl) (World.news_of_block (cs:=#[.int .i64 tx]) (t:=3) (fr:=(0,0)) hsrc) (by simp [Value.oneCell']) (by omega) (by unfold maxLen;omega) (by omega) hBB1.size w1.heap.size rfl ?_
             intro g2 cap2 w2 hown2 hgrow2 hat2 hlt2
             have hBB2:Below w.heap.size w w2:=hBB1.grown hgrow2 hBB1.size (fun k e=>(hown1.lt k e).1)
             have fR2:w2.frozen? ⟨r,2+j,none⟩=false:=(hBB2.frozen (p:=⟨r,2+j,none⟩) hr).trans fv
             have cR2:w2.cell? ⟨r,2+j,none⟩=some (.slice (some ⟨gz,0,none⟩) M cz):=(hBB2.cell (p:=⟨r,2+j,none⟩) hr).trans cv)
          | fail)
      all_goals
        have HF:=hid (HR.out.put (k:=j) (l:=T j++[tx]) hj hBB2 hbase (by rw [intsV_append,List.length_append,HML.out];exact hown2) (by simp))
        clear hown2 hgrow2 hat2 hBB2 fR2 cR2 cv fv hown1 hgrow1 hat1 hBB1 cR1
        go_wp2
        go_ret2
        exact⟨rfl,_,HF.out⟩
    · rw [if_neg hw] at hm2
      have hlt:=HQ.out _ _ (mem_of_waits (T:=T) (x:=x) (by omega))
      have hz1:=holds_of_waits HT.out (x:=x) (by omega)
      obtain⟨k,hk⟩:∃ k,waitsP T x=k:=⟨_,rfl⟩
      rw [hk] at hm2 hlt hz1 hcx hw
      have hcz:=HHX.out k
      obtain⟨z,hz⟩:∃ z,holdsP T k=z:=⟨_,rfl⟩
      rw [hz] at hm2 hlt hz1 hcz
      have HCX:=hid hcx
      have HZ:=hid hcz
      have ek:¬ k<0:=hw
      have HLT:=hid hlt
      by_cases hzt:z=tx
      · rw [if_pos hzt] at hm2
        subst hm2
        subst hzt
        have ez:(z==z)=true:=by simp
        have HTB:=hid HR.out
        clear hk hz hcx hcz hw hm1 HM hlt
        go_wp2_with (first
          | (go_at_call 148;refine HCX.out.mono ?_;rintro e w' ⟨rfl,hw'⟩;rw [hw'];clear hw' w')
          | (go_at_call 147;refine HZ.out.mono ?_;rintro e w' ⟨rfl,hw'⟩;rw [hw'];clear hw' w'))
        go_ret2
        exact⟨rfl,vs,HTB.out,KeptR.refl _ _ _⟩
      · rw [if_neg hzt] at hm2
        have ez:(z==tx)=false:=by simpa using hzt
        have HM2:=hid (show ∃ m,q z<m∧reachP T tx m z=A from ⟨m,by omega,hm2⟩)
        clear hk hz hcx hcz hw hm1 HM hlt hm2
        go_wp2_with (first
          | (go_at_call 148;refine HCX.out.mono ?_;rintro e w' ⟨rfl,hw'⟩;rw [hw'];clear hw' w')
          | (go_at_call 147;refine HZ.out.mono ?_;rintro e w' ⟨rfl,hw'⟩;rw [hw'];clear hw' w'))
        go_round
        case rel=>exact⟨z,rfl,hz1,HM2⟩
        case measure=>simpa [intOf] using HLT.out
end Go.Proofs.YtjefgmeejhakbaaGreatDoor
/- (*interleafref.Table).Ask, whole. -/
namespace Go.Proofs.YtjefgmeejhakbaaGreatDoor
open Go.RowKit
variable {F:FEmb}
set_option maxRecDepth 100000 in
set_option maxHeartbeats 4000000 in
theorem rask_range (r:Nat) (tx key:Int) (w:World) (hb:¬ (0≤key∧key<10∧1≤tx)) :
  Calls Tryz.prog 140 #[.pointer (some ⟨r,2,none⟩),.int .i64 tx,.int .i64 key] w fun e w'=>e=.returned (.tuple #[.bool false,.int .i64 2])∧w'=w:=by
 cases hin:inB key 0 9 with
 | false =>
  clear hb
  go_enter Tryz.func140,Tryz.ntmps140
  go_wp2_with (go_at_call 54;refine (in_any _ _ _ _).mono ?_;rintro e w' ⟨rfl,rfl⟩)
  go_ret2
  exact⟨rfl,rfl⟩
 | true =>
  have hk:0≤key∧key≤9:=by simpa [inB] using hin
  have h3:tx<1:=by omega
  clear hb
  go_enter Tryz.func140,Tryz.ntmps140
  go_wp2_with (go_at_call 54;refine (in_any _ _ _ _).mono ?_;rintro e w' ⟨rfl,rfl⟩)
  go_ret2
  exact⟨rfl,rfl⟩
set_option maxRecDepth 100000 in
set_option maxHeartbeats 4000000 in
theorem rask_state (base r:Nat) (vs:List Value) (T:Tab) (tx:Int) (j:Nat) (w:World) (h:RTab F w base r vs T) (hT:Tidy0 T) (hj:j<10) (htx:1≤tx) (hlen:∀ k,(T k).length≤100000) (hw:0≤waitsP T tx) :
  Calls Tryz.prog 140 #[.pointer (some ⟨r,2,none⟩),.int .i64 tx,.int .i64 (j:Int)] w fun e w'=>e=.returned (.tuple #[.bool false,.int .i64 6])∧w'=w:=by
 have hin:inB (j:Int) 0 9=true:=by simp [inB];omega
 have hcw:=rwaits_any base r vs T tx w h hT (fun k=>by have:=hlen k;omega)
 obtain⟨k,hk⟩:∃ k,waitsP T tx=k:=⟨_,rfl⟩
 rw [hk] at hcw hw
 have HCW:=hid hcw
 have g3:¬ tx<1:=by omega
 clear hk hcw h hlen
 go_enter Tryz.func140,Tryz.ntmps140
 go_wp2_with (first
  | (go_at_call 54;refine (in_any _ _ _ _).mono ?_;rintro e w' ⟨rfl,rfl⟩)
  | (go_at_call 148;refine HCW.out.mono ?_;rintro e w' ⟨rfl,rfl⟩))
 go_ret2
 exact⟨rfl,rfl⟩
set_option maxRecDepth 100000 in
set_option maxHeartbeats 4000000 in
theorem rask_own (base r:Nat) (vs:List Value) (T:Tab) (tx:Int) (j:Nat) (w:World) (h:RTab F w base r vs T) (hT:Tidy0 T) (hj:j<10) (htx:1≤tx) (hlen:∀ k,(T k).length≤100000) (hw:waitsP T tx=-1) (hh:holdsP T j=tx) :
  Calls Tryz.prog 140 #[.pointer (some ⟨r,2,none⟩),.int .i64 tx,.int .i64 (j:Int)] w fun e w'=>e=.returned (.tuple #[.bool true,.int .i64 0])∧w'=w:=by
 have hin:inB (j:Int) 0 9=true:=by simp [inB];omega
 have hcw:=rwaits_any base r vs T tx w h hT (fun k=>by have:=hlen k;omega)
 have hch:=rholds_any base r vs T (j:Int) w h hT
 rw [hw] at hcw
 rw [hh] at hch
 have HCW:=hid hcw
 have HCH:=hid hch
 have g3:¬ tx<1:=by omega
 have e0:(tx==tx)=true:=by simp
 clear hcw hch h hlen hw hh
 go_enter Tryz.func140,Tryz.ntmps140
 go_wp2_with (first
  | (go_at_call 54;refine (in_any _ _ _ _).mono ?_;rintro e w' ⟨rfl,rfl⟩)
  | (go_at_call 148;refine HCW.out.mono ?_;rintro e w' ⟨rfl,rfl⟩)
  | (go_at_call 147;refine HCH.out.mono ?_;rintro e w' ⟨rfl,rfl⟩))
 go_ret2
 exact⟨rfl,rfl⟩
theorem rask_any (base r:Nat) (vs:List Value) (T:Tab) (q:Int→Nat) (tx key:Int) (w:World) (h:RTab F w base r vs T) (hT:Tidy0 T) (hq:Ranked T q) (hbase:base≤w.heap.size) (hlen:∀ k,(T k).length≤100000) :
  Calls Tryz.prog 140 #[.pointer (some ⟨r,2,none⟩),.int .i64 tx,.int .i64 key] w (RAskPost F base r vs (askP T q tx key) w):=by
 unfold askP
 by_cases hb:0≤key∧key<10∧1≤tx
 ·rw [if_neg (by simpa using hb)]
  obtain⟨h1,h2,h3⟩:=hb
  obtain⟨j,rfl⟩:=Int.eq_ofNat_of_zero_le h1
  have hj:j<10:=by omega
  by_cases hw:0≤waitsP T tx
  ·rw [if_pos hw]
   refine (rask_state base r vs T tx j w h hT hj h3 hlen hw).mono ?_
   rintro e w' ⟨rfl,rfl⟩
   exact⟨rfl,vs,h,KeptR.refl _ _ _⟩
  ·rw [if_neg hw]
   have hw1:waitsP T tx=-1:=by rcases waits_cases T tx with e | e<;>omega
   by_cases hh:holdsP T j=tx
   ·rw [if_pos hh]
    refine (rask_own base r vs T tx j w h hT hj h3 hlen hw1 hh).mono ?_
    rintro e w' ⟨rfl,rfl⟩
    exact⟨rfl,vs,h,KeptR.refl _ _ _⟩
   ·rw [if_neg hh]
    by_cases hn:T j=[]
    ·rw [if_pos hn]
     exact rask_new base r vs T tx j w h hT hj h3 hbase hlen hw1 hn
    ·rw [if_neg hn]
     have hm:=rask_more base r vs T q tx j w h hT hq hj h3 hbase hlen hw1 hn hh
     by_cases hc:reachP T tx (q (holdsP T j)+1) (holdsP T j)=true
     ·rw [if_pos hc]
      rw [hc] at hm
      exact hm
     ·rw [if_neg hc]
      rw [show reachP T tx (q (holdsP T j)+1) (holdsP T j)=false by simpa using hc] at hm
      exact hm
 ·rw [if_pos (by simpa using hb)]
  refine (rask_range r tx key w hb).mono ?_
  rintro e w' ⟨rfl,rfl⟩
  exact⟨rfl,vs,h,KeptR.refl _ _ _⟩
end Go.Proofs.YtjefgmeejhakbaaGreatDoor
