/- FeWrite FePutsA FrRead FrBegin FeBegin FeRead FeOver BsCr BpDsk: put together for a claim. -/
import Derived.Test.YtjefgmeejhakbaaGreatDoorMgBA
import Derived.Test.YtjefgmeejhakbaaGreatDoorMgBB
import Derived.Deep.DeepCutAuto
import Derived.Deep.CutBlock
import Derived.Test.YtjefgmeejhakbaaGreatDoorMgAN
/- The document's engine: Abort, Write. -/
namespace Go.Proofs.YtjefgmeejhakbaaGreatDoor
open Go.RowKit
section
variable {w w':World} {L:REnL} {B:Nat} {E E':Eng} {i:Nat} {t:Tx}
def Shut (E:Eng) (n c:Int):Prop:=(c=7∧(n<1∨(E.txs.length:Int)<n))∨(c=6∧∃ (i:Nat) (t:Tx),n=(i:Int)+1∧E.txs[i]?=some t∧t.state≠0)
theorem Shut.ne {n c:Int} (h:Shut E n c):(c==0)=false∧(c != 0)=true:=by rcases h with ⟨rfl,_⟩ | ⟨rfl,_⟩<;>exact⟨rfl,rfl⟩
theorem of_miss (h:RefAt w L B E) {n:Int} (o:Bool) (hn:n<1∨(E.txs.length:Int)<n):Calls Tryz.prog 90 #[.pointer (some ⟨L.R,0,none⟩),.int .i64 n,.bool o] w fun e w'=>e=.returned (.tuple #[.pointer none,.int .i64 7])∧w'=w:=by
 obtain⟨R,hA,hRel⟩:=h
 exact rof_miss hA o (by rw [hRel.len];exact hn)
theorem of_shut (h:RefAt w L B E) {n c:Int} (hc:Shut E n c):Calls Tryz.prog 90 #[.pointer (some ⟨L.R,0,none⟩),.int .i64 n,.bool true] w fun e w'=>e=.returned (.tuple #[.pointer none,.int .i64 c])∧w'=w:=by
 rcases hc with ⟨rfl,hn⟩ | ⟨rfl,i,t,rfl,ht,hs⟩
 ·exact of_miss h true hn
 ·obtain⟨R,hA,hRel⟩:=h
  obtain⟨r,hr,hX⟩:=hRel.getR ht
  have:=hRel.le
  exact rof_shut hA hr (by rw [hX.state];exact hs) (by rw [hRel.len];omega)
theorem of_ok (h:RefAt w L B E) (o:Bool) (ht:E.txs[i]?=some t) (hs:o=true→t.state=0) {b:Nat} (hb:L.bs[i]?=some b):Calls Tryz.prog 90 #[.pointer (some ⟨L.R,0,none⟩),.int .i64 ((i:Int)+1),.bool o] w fun e w'=>e=.returned (.tuple #[.pointer (some ⟨b,0,none⟩),.int .i64 0])∧w'=w:=by
 obtain⟨R,hA,hRel⟩:=h
 obtain⟨r,hr,hX⟩:=hRel.getR ht
 have:=hRel.le
 refine (rof_ok hA o hr (fun e=>by rw [hX.state];exact hs e) (by rw [hRel.len];omega)).mono ?_
 rintro e w1 ⟨l,hl,rfl,rfl⟩
 rw [rbs_get hl] at hb
 cases hb
 exact⟨rfl,rfl⟩
theorem RefAt.alive (h:RefAt w L B E) (ht:E.txs[i]?=some t) {b:Nat} (hb:L.bs[i]?=some b):Calls Tryz.prog 133 #[.pointer (some ⟨b,0,none⟩)] w fun e w'=>e=.returned (.bool (liveB t.state))∧w'=w:=by
 obtain⟨R,hA,hRel⟩:=h
 obtain⟨r,hr,hX⟩:=hRel.getR ht
 obtain⟨l,hl,rfl⟩:=bs_getb hb
 have:=ralive_any (hA.txs i l r hl hr)
 rw [hX.state] at this
 exact this
set_option maxRecDepth 100000 in
set_option maxHeartbeats 1000000 in
theorem rabort_miss (h:RefAt w L B E) {n:Int} (hn:n<1∨(E.txs.length:Int)<n) :
  Calls Tryz.prog 81 #[.pointer (some ⟨L.R,0,none⟩),.int .i64 n] w fun e w'=>e=.returned (.int .i64 7)∧w'=w:=by
 have HF:=hid (of_miss h false hn)
 clear h
 go_enter Tryz.func81,Tryz.ntmps81
 go_wp2_with fail
 refine HF.out.mono ?_
 rintro e w1 ⟨rfl,rfl⟩
 go_wp2
 go_ret
 exact⟨rfl,rfl⟩
set_option maxRecDepth 100000 in
set_option maxHeartbeats 1000000 in
theorem rabort_over (h:RefAt w L B E) (ht:E.txs[i]?=some t) (hl:liveB t.state=false) :
  Calls Tryz.prog 81 #[.pointer (some ⟨L.R,0,none⟩),.int .i64 ((i:Int)+1)] w fun e w'=>e=.returned (.int .i64 6)∧w'=w:=by
 obtain⟨b,hb⟩:=h.place ht
 have HF:=hid (of_ok h false ht (fun e=>by cases e) hb)
 have hA:=h.alive ht hb
 rw [hl] at hA
 have HA:=hid hA
 clear h hA
 go_enter Tryz.func81,Tryz.ntmps81
 go_wp2_with fail
 refine HF.out.mono ?_
 rintro e w1 ⟨rfl,hw1⟩
 rw [hw1]
 clear hw1 w1
 go_wp2_with fail
 refine HA.out.mono ?_
 rintro e w1 ⟨rfl,hw1⟩
 rw [hw1]
 clear hw1 w1
 go_wp2
 go_ret
 exact⟨rfl,rfl⟩
set_option maxRecDepth 100000 in
set_option maxHeartbeats 1000000 in
theorem rabort_main (hg:GoneOk 7) (h:RefAt w L B E) (hB:B≤10000000) (hM:Mid2 E.ce noQ) (ht:E.txs[i]?=some t) (hl:liveB t.state=true) (hE:endF 7 (loseE E i 0) i 3=some E') :
  Calls Tryz.prog 81 #[.pointer (some ⟨L.R,0,none⟩),.int .i64 ((i:Int)+1)] w fun e w'=>e=.returned (.int .i64 0)∧RefPost L B E' w w':=by
 obtain⟨b,hb⟩:=h.place ht
 have HF:=hid (of_ok h false ht (fun e=>by cases e) hb)
 have hA:=h.alive ht hb
 rw [hl] at hA
 have HA:=hid hA
 have HG:=hid (hg w L B E E' i t 0 noQ h hB hM hM.live7 ht hl (fun h=>h) hE)
 clear h hA hM
 go_enter Tryz.func81,Tryz.ntmps81
 go_wp2_with fail
 refine HF.out.mono ?_
 rintro e w1 ⟨rfl,hw1⟩
 rw [hw1]
 clear hw1 w1
 go_wp2_with fail
 refine HA.out.mono ?_
 rintro e w1 ⟨rfl,hw1⟩
 rw [hw1]
 clear hw1 w1
 go_wp2_with fail
 refine HG.out.mono ?_
 rintro e w1 ⟨rfl,hP⟩
 have HP:=hid hP
 clear hP HG
 go_wp2
 go_ret
 exact⟨rfl,HP.out⟩
set_option maxRecDepth 100000 in
set_option maxHeartbeats 1000000 in
theorem rwrite_shut (h:RefAt w L B E) {n key val c:Int} (hc:Shut E n c) :
  Calls Tryz.prog 79 #[.pointer (some ⟨L.R,0,none⟩),.int .i64 n,.int .i64 key,.int .i64 val] w fun e w'=>e=.returned (.tuple #[.bool false,.int .i64 c])∧w'=w:=by
 have HF:=hid (of_shut h hc)
 have gc:=hc.ne.2
 clear h hc
 go_enter Tryz.func79,Tryz.ntmps79
 go_wp2_with fail
 refine HF.out.mono ?_
 rintro e w1 ⟨rfl,rfl⟩
 go_wp2
 go_ret2
 exact⟨rfl,rfl⟩
set_option maxRecDepth 100000 in
set_option maxHeartbeats 1000000 in
theorem rwrite_bad (h:RefAt w L B E) {key val c:Int} (ht:E.txs[i]?=some t) (hs:t.state=0) (hc:((key<0∨10≤key)∧c=2)∨((0≤key∧key<10)∧(val < -1099511627776∨1099511627776<val)∧c=1)) :
  Calls Tryz.prog 79 #[.pointer (some ⟨L.R,0,none⟩),.int .i64 ((i:Int)+1),.int .i64 key,.int .i64 val] w fun e w'=>e=.returned (.tuple #[.bool false,.int .i64 c])∧w'=w:=by
 obtain⟨b,hb⟩:=h.place ht
 have HF:=hid (of_ok h true ht (fun _=>hs) hb)
 have HI1:=hid (in_any key 0 9 w)
 have HI2:=hid (in_any val (-1099511627776) 1099511627776 w)
 clear h
 rcases hc with ⟨hk,rfl⟩ | ⟨hk,hv,rfl⟩
 ·rw [show inB key 0 9=false by simp only [inB,decide_eq_false_iff_not];omega] at HI1
  go_enter Tryz.func79,Tryz.ntmps79
  go_wp2_with fail
  refine HF.out.mono ?_
  rintro e w1 ⟨rfl,hw1⟩
  rw [hw1]
  clear hw1 w1
  go_wp2_with fail
  refine HI1.out.mono ?_
  rintro e w1 ⟨rfl,hw1⟩
  rw [hw1]
  clear hw1 w1
  go_wp2
  go_ret2
  exact⟨rfl,rfl⟩
 ·rw [show inB key 0 9=true by simp only [inB,decide_eq_true_eq];omega] at HI1
  rw [show inB val (-1099511627776) 1099511627776=false by simp only [inB,decide_eq_false_iff_not];omega] at HI2
  go_enter Tryz.func79,Tryz.ntmps79
  go_wp2_with fail
  refine HF.out.mono ?_
  rintro e w1 ⟨rfl,hw1⟩
  rw [hw1]
  clear hw1 w1
  go_wp2_with fail
  refine HI1.out.mono ?_
  rintro e w1 ⟨rfl,hw1⟩
  rw [hw1]
  clear hw1 w1
  go_wp2_with fail
  refine HI2.out.mono ?_
  rintro e w1 ⟨rfl,hw1⟩
  rw [hw1]
  clear hw1 w1
  go_wp2
  go_ret2
  exact⟨rfl,rfl⟩
theorem RefAt.cells (h:RefAt w L B E) (ht:E.txs[i]?=some t) {b:Nat} (hb:L.bs[i]?=some b):w.cell? ⟨b,1,none⟩=some (.int .i64 t.state)∧w.cell? ⟨b,2,none⟩=some (.int .i64 t.why)∧w.cell? ⟨b,8,none⟩=some (.int .i64 t.wk)∧w.cell? ⟨b,9,none⟩=some (.int .i64 t.wv)∧w.cell? ⟨b,0,none⟩=some (.int .i64 t.level)∧w.cell? ⟨b,3,none⟩=some (.int .i64 t.start)∧∀ o,w.frozen? ⟨b,o,none⟩=false:=by
 obtain⟨R,hA,hRel⟩:=h
 obtain⟨r,hr,hX⟩:=hRel.getR ht
 obtain⟨l,hl,rfl⟩:=bs_getb hb
 have hT:=hA.txs i l r hl hr
 exact⟨(hT.cell 1).trans (by show some (Value.int .i64 r.state)=_;rw [hX.state]),(hT.cell 2).trans (by show some (Value.int .i64 r.why)=_;rw [hX.why]),(hT.cell 8).trans (by show some (Value.int .i64 r.want.1)=_;rw [hX.want]),(hT.cell 9).trans (by show some (Value.int .i64 r.want.2)=_;rw [hX.want]),(hT.cell 0).trans (by show some (Value.int .i64 r.level)=_;rw [hX.level]),(hT.cell 3).trans (by show some (Value.int .i64 r.start)=_;rw [hX.start]),fun o=>REnAt.free (L:=L) hT o⟩
theorem RefAt.wy (h:RefAt w L B E) (ht:E.txs[i]?=some t) (h3:t.state≠3):t.why=0:=by
 obtain⟨R,hA,hRel⟩:=h
 exact hRel.wy t (List.mem_of_getElem? ht) h3
theorem RefAt.want (h:RefAt w L B E) (ht:E.txs[i]?=some t) (hs:t.state=0) {b:Nat} (hb:L.bs[i]?=some b) (key val:Int) :
  RefAt ((w.setCell ⟨b,8,none⟩ (.int .i64 key)).setCell ⟨b,9,none⟩ (.int .i64 val)) L (B+1) (E.setTx i { t with wk:=key,wv:=val })∧KeptO L.own L.own w ((w.setCell ⟨b,8,none⟩ (.int .i64 key)).setCell ⟨b,9,none⟩ (.int .i64 val)):=by
 obtain⟨R,hA,hRel⟩:=h
 obtain⟨r,hr,hX⟩:=hRel.getR ht
 obtain⟨l,hl,rfl⟩:=bs_getb hb
 obtain⟨h1,k1⟩:=hA.setCell (o:=8) (v:=.int .i64 key) (t':={ r with want:=(key,r.want.2) }) hl hr rfl rfl rfl rfl rfl
 obtain⟨h2,k2⟩:=h1.setCell (o:=9) (v:=.int .i64 val) (t':={ r with want:=(key,val) }) hl (rsetTx_get hr) rfl rfl rfl rfl rfl
 rw [rsetTx_twice] at h2
 exact⟨⟨_,h2,hRel.want ht hr hs key val⟩,k1.trans k2⟩
theorem RefAt.stand (h:RefAt w L B E) (ht:E.txs[i]?=some t) (hs:t.state=0) {b:Nat} (hb:L.bs[i]?=some b) :
  RefAt (w.setCell ⟨b,1,none⟩ (.int .i64 1)) L (B+1001) (E.setTx i { t with state:=1 })∧KeptO L.own L.own w (w.setCell ⟨b,1,none⟩ (.int .i64 1)):=by
 obtain⟨R,hA,hRel⟩:=h
 obtain⟨r,hr,hX⟩:=hRel.getR ht
 obtain⟨l,hl,rfl⟩:=bs_getb hb
 obtain⟨h1,k1⟩:=hA.setCell (o:=1) (v:=.int .i64 1) (t':={ r with state:=1 }) hl hr rfl rfl rfl rfl rfl
 exact⟨⟨_,h1,hRel.stand ht hr hs⟩,k1⟩
theorem RefAt.ask (h:RefAt w L B E) {q:Int→Nat} (hq:Ranked E.T q) (hi:i<E.txs.length) (key:Int) :
  Calls Tryz.prog 140 #[.pointer (some ⟨L.R,2,none⟩),.int .i64 ((i:Int)+1),.int .i64 key] w fun e w'=>e=.returned (.tuple #[.bool (askP E.T q ((i:Int)+1) key).1,.int .i64 (askP E.T q ((i:Int)+1) key).2.1])∧RefPost L B { E with T:=(askP E.T q ((i:Int)+1) key).2.2 } w w':=by
 obtain⟨R,hA,hRel⟩:=h
 have hle:=hRel.le
 have:=rask_any (F:=L.emb R.last R.step) (L.R+1) L.R L.vs R.T q ((i:Int)+1) key w hA.tab (by rw [hRel.T];exact hRel.good.tidy) (by rw [hRel.T];exact hq) hA.lt (fun k=>by rw [hRel.T];have:=hRel.tlen k;omega)
 rw [hRel.T] at this
 refine this.mono ?_
 rintro e w1 ⟨rfl,vs',hT,hK⟩
 obtain⟨h1,h2⟩:=hA.setTab hT hK
 refine⟨rfl,_,⟨_,h1,hRel.setT (hRel.good.ask hq ((i:Int)+1) key (by omega)) (fun k x hx=>?_)⟩,h2,⟨rfl,rfl⟩,rfl⟩
 rcases mem_ask hx with h3 | h3
 ·exact hRel.mem k x h3
 ·omega
end
end Go.Proofs.YtjefgmeejhakbaaGreatDoor
/- The document's engine: what puts is made of. -/
namespace Go.Proofs.YtjefgmeejhakbaaGreatDoor
open Go.RowKit
section
variable {w w0 w1 w':World} {L:REnL} {B:Nat} {E E':Eng} {R:REng} {i j:Nat} {t u:Tx} {l:RTxL} {r s:RTx}
theorem RefAt.newer (h:RefAt w L B E) (hB:B≤10000000) {k:Nat} (hk:k<10) (c:Int) :
  Calls Tryz.prog 136 #[.pointer (some ⟨L.R,0,none⟩),.int .i64 (k:Int),.int .i64 c] w fun e w'=>∃ tv,e=.returned (.tuple #[tv,.int .i64 0])∧w'.ownsRow w.heap.size 3 1 tv (newerP E (k:Int) c).length (intsV (newerP E (k:Int) c))∧Below w.heap.size w w':=by
 obtain⟨R,hA,hRel⟩:=h
 have hkb:=hRel.keptB
 have:=refNewer_any (P:=L.tail R.step) (L.R+1) L.R (k:Int) c R.last L.lv R.kept w (by simp [inB];omega) (by omega) (hRel.newerR (k:Int) c) hA.sto
 rw [hRel.newer hk c] at this
 exact this
theorem putsA (h:REnAt w L R) (hl:L.txs[i]?=some l) (hr:R.txs[i]?=some r) {ad:Option Addr} {n cap:Nat} (hf:l.ow=.slice ad n cap) (hn:r.own.length=n) (hB:Below w.heap.size w w0) {kx vx:Int} {gg cap':Nat}
  (ho:w1.ownsRow 0 78 2 (.slice (some ⟨gg,0,none⟩) (n+1) cap') (n+1) (vrow r.own++[.int .i64 kx,.int .i64 vx])) (hg:w0.grownBy w1 (Value.slice ad n cap).ownBlock) (hat:(Value.slice ad n cap).ownBlock=some gg∨w.heap.size≤gg) :
  w1.cell? ⟨l.b,7,none⟩=some (.slice ad n cap)∧w1.frozen? ⟨l.b,7,none⟩=false∧w1.cell? ⟨l.b,0,none⟩=some (.int .i64 r.level) ∧
   ∃ L1,REnAt (w1.setCell ⟨l.b,7,none⟩ (.slice (some ⟨gg,0,none⟩) (n+1) cap')) L1 (R.setTx i { r with own:=r.own++[(kx,vx)] })∧KeptO L.own L1.own w (w1.setCell ⟨l.b,7,none⟩ (.slice (some ⟨gg,0,none⟩) (n+1) cap'))∧HdE L1 L∧L1.bs=L.bs:=by
 have hA:=h.txs i l r hl hr
 have hbl:=hA.lt
 have e1:(Value.slice ad n cap).ownBlock≠some l.b:=by have:=h.row_ne hl (p:=1) (by decide);rw [show l.row 1=l.ow from rfl,hf] at this;exact this
 have hs0:=hB.size
 have hbk:w1.heap[l.b]?=w.heap[l.b]?:=(hg.block l.b (by omega) (fun e=>e1 e.symm)).trans (hB.block l.b hbl)
 have c7:w.cell? ⟨l.b,7,none⟩=some (.slice ad n cap):=by rw [← hf];exact (hA.cell 7).trans rfl
 have hx:REnAt (w1.setCell ⟨l.b,7,none⟩ (.slice (some ⟨gg,0,none⟩) (n+1) cap')) (L.setTx i { l with ow:=.slice (some ⟨gg,0,none⟩) (n+1) cap' }) (R.setTx i { r with own:=r.own++[(kx,vx)] })∧KeptO L.own (L.setTx i { l with ow:=.slice (some ⟨gg,0,none⟩) (n+1) cap' }).own w (w1.setCell ⟨l.b,7,none⟩ (.slice (some ⟨gg,0,none⟩) (n+1) cap')) :=
  h.appended (p:=1) (t':={ r with own:=r.own++[(kx,vx)] }) (gg:=gg) (m:=n+1) (cap:=cap') hl hr (by decide) hB (by show World.grownBy _ _ l.ow.ownBlock;rw [hf];exact hg) (by show l.ow.ownBlock=some gg∨_;rw [hf];exact hat)
   (by show w1.ownsRow 0 78 2 _ (r.own++[(kx,vx)]).length (vrow (r.own++[(kx,vx)]));rw [vrow_append,List.length_append,hn];exact ho) (by rfl) (fun q hq hne=>by rcases q with _ | _ | _ | _ | q<;>first | exact⟨rfl,rfl⟩ | exact (hne rfl).elim | omega)
 exact⟨(World.cell?_of_block (a:=⟨l.b,7,none⟩) hbk).trans c7,(World.frozen?_of_block (a:=⟨l.b,7,none⟩) hbk).trans (REnAt.free (L:=L) hA 7),(World.cell?_of_block (a:=⟨l.b,0,none⟩) hbk).trans ((hA.cell 0).trans rfl),_,hx.1,hx.2,⟨rfl,rfl⟩,bs_set hl rfl⟩
end
end Go.Proofs.YtjefgmeejhakbaaGreatDoor
/- The document's engine and the landed one: what a read is made of. -/
namespace Go.Proofs.YtjefgmeejhakbaaGreatDoor
open Go.RowKit
section
variable {w w0 w1 w':World} {L:REnL} {B:Nat} {E E':Eng} {R:REng} {i j:Nat} {t u:Tx} {l:RTxL} {r s:RTx}
theorem Rel.note (h:Rel B E R) (ht:E.txs[i]?=some t) (hr:R.txs[i]?=some r) (hs:t.state=0) {k:Nat} (frm:Int):Rel (B+1) (E.setTx i (noteReadP t (k:Int) frm)) (R.setTx i { r with reads:=r.reads++[((i:Int)+1,(k:Int),false,frm)] }):=by
 have hx:=h.tx i t r ht hr
 have h3:t.state≠3:=by omega
 refine h.setTx ht hr h3 (.inl rfl) ⟨hx.level,hx.state,hx.why,hx.start,hx.want,hx.own,fun _=>?_,fun _ k' hk'=>?_,hx.be,hx.ah,hx.bl,hx.al,hx.non⟩ (fun e=>by omega) ⟨rfl,rfl⟩ rfl rfl ⟨by simp,by simp,by simp,by simp⟩ (by show B+1+1000*potT t≤_;omega)
 ·show r.reads++_=readOps _ (t.reads++[((k:Int),frm)])
  rw [hx.reads h3]
  simp [readOps]
 ·show (t.seen.set (k:Int).toNat true)[k']?=some ((r.reads++[((i:Int)+1,(k:Int),false,frm)]).any _)
  rw [Int.toNat_natCast,List.any_append,List.getElem?_set]
  have h1:=hx.seen h3 k' hk'
  have h2:=(List.getElem?_eq_some_iff.1 h1).1
  by_cases e:k=k'
  ·subst e
   rw [if_pos rfl,if_pos h2]
   simp
  ·rw [if_neg e,h1]
   have:((k:Int)==(k':Int))=false:=by simp;omega
   simp [this]
theorem RefAt.by (h:RefAt w L B E) {a:Int} (ha:0≤a∧a≤E.last):(∃ mb,w.cell? ⟨L.R,14,none⟩=some (.map (some mb))∧(Instr.lookup 69 (.map (some mb)) (.int .i64 a) false).run Tryz.prog w=.ok (.int .i64 ((E.wr a).getD 0)) w):=by
 obtain⟨R,hA,hRel⟩:=h
 refine⟨L.mb,hA.c14,?_⟩
 have hl:=hRel.lb
 have:=hA.wr.look1 Tryz.underlying69 (zeroI w) (a:=a) (by unfold I64;omega)
 rw [hRel.wr a ha.2,getD_int] at this
 exact this
theorem RefAt.wrc (h:RefAt w L B E) {a x:Int} (ha:E.wr a=some x):∃ (m:Nat) (u:Tx),x=(m:Int)+1∧E.txs[m]?=some u∧u.state=2:=by
 obtain⟨R,hA,hRel⟩:=h
 obtain⟨m,e,hm⟩:=hRel.wrc a x ha
 obtain⟨u,hu,hs⟩:=stE_get (E:=E) (j:=m) (by omega)
 exact⟨m,u,e,hu,hs.trans hm⟩
theorem RefAt.place2 (h:RefAt w L B E) (ht:E.txs[i]?=some t) {b:Nat} (hb:L.bs[i]?=some b):∃ g cap,L.av=.slice (some ⟨g,0,none⟩) E.txs.length cap∧w.cell? ⟨g,i,none⟩=some (.pointer (some ⟨b,0,none⟩))∧w.cell? ⟨L.R,12,none⟩=some L.av∧E.txs.length≤200:=by
 obtain⟨R,hA,hRel⟩:=h
 obtain⟨r,hr,hX⟩:=hRel.getR ht
 obtain⟨l,g,cap,hl,hT,hav,hcp⟩:=hA.place hr
 rw [rbs_get hl] at hb
 cases hb
 exact⟨g,cap,by rw [hav,hRel.len],hcp,hA.c12,hRel.le⟩
theorem RefAt.av (h:RefAt w L B E):∃ ad cap,L.av=.slice ad E.txs.length cap∧w.cell? ⟨L.R,12,none⟩=some L.av∧E.txs.length≤200:=by
 obtain⟨R,hA,hRel⟩:=h
 obtain⟨ad,cap,e⟩:=row_form hA.all
 exact⟨ad,cap,by rw [e,hRel.len],hA.c12,hRel.le⟩
theorem RefAt.strict (h:RefAt w L B E) (ht:E.txs[i]?=some t) {b:Nat} (hb:L.bs[i]?=some b):Calls Tryz.prog 137 #[.pointer (some ⟨b,0,none⟩)] w fun e w'=>e=.returned (.bool (t.level==2&&t.state != 3))∧w'=w:=by
 obtain⟨R,hA,hRel⟩:=h
 obtain⟨r,hr,hX⟩:=hRel.getR ht
 obtain⟨l,hl,rfl⟩:=bs_getb hb
 have:=rstrict_any (hA.txs i l r hl hr)
 rw [hX.state,hX.level] at this
 exact this
theorem RefAt.owns (h:RefAt w L B E) (hB:B≤10000000) (ht:E.txs[i]?=some t) {b:Nat} (hb:L.bs[i]?=some b) (k:Int):Calls Tryz.prog 134 #[.pointer (some ⟨b,0,none⟩),.int .i64 k] w fun e w'=>e=.returned (.tuple #[.int .i64 ((t.vals k).getD 0),.bool (t.vals k).isSome])∧w'=w:=by
 obtain⟨R,hA,hRel⟩:=h
 obtain⟨r,hr,hX⟩:=hRel.getR ht
 obtain⟨l,hl,rfl⟩:=bs_getb hb
 have:=rown_any (hA.txs i l r hl hr) k (by have:=(hRel.szR hr).2.1;omega)
 rw [hX.own k] at this
 exact this
theorem RefAt.read (h:RefAt w L B E) (hB:B≤10000000) {k:Nat} (hk:k<10) (c:Int) :
  Calls Tryz.prog 135 #[.pointer (some ⟨L.R,0,none⟩),.int .i64 (k:Int),.int .i64 c] w fun e w'=>e=.returned (.tuple #[.agg #[.int .i64 (verP E (k:Int) c).1.1,.int .i64 (verP E (k:Int) c).1.2],.int .i64 (verP E (k:Int) c).2])∧Below w.heap.size w w':=by
 obtain⟨R,hA,hRel⟩:=h
 have hkb:=hRel.keptB
 have:=refRead_any (P:=L.tail R.step) (L.R+1) L.R (k:Int) c R.last L.lv R.kept w (by simp [inB];omega) (by omega) hA.sto
 rw [hRel.ver hk c]
 exact this
theorem RefAt.lastc (h:RefAt w L B E):w.cell? ⟨L.R,1,none⟩=some (.int .i64 E.last)∧0≤E.last∧E.last≤1099511627776:=by
 obtain⟨R,hA,hRel⟩:=h
 exact⟨by rw [hA.sto.c1,hRel.last],hRel.lb⟩
theorem RefAt.ver_le (h:RefAt w L B E) {k:Nat} (hk:k<10) (c:Int):0≤(verP E (k:Int) c).1.1∧(verP E (k:Int) c).1.1≤E.last:=by
 obtain⟨R,hA,hRel⟩:=h
 exact hRel.ver_le hk c
theorem RefAt.newer_le (h:RefAt w L B E) {k:Nat} (hk:k<10) {c a:Int} (ha:a∈newerP E (k:Int) c):0≤a∧a≤E.last:=by
 obtain⟨R,hA,hRel⟩:=h
 exact hRel.newer_le hk ha
theorem RefAt.newer_len (h:RefAt w L B E) {k:Nat} (hk:k<10) (c:Int):1000*(newerP E (k:Int) c).length≤B:=by
 obtain⟨R,hA,hRel⟩:=h
 rw [← hRel.newer hk c]
 have:=newsR_length (k:Int) c R.kept
 have:=hRel.keptB
 omega
theorem readsA (h:RefAt w L B E) (ht:E.txs[i]?=some t) (hs:t.state=0) {b:Nat} (hb:L.bs[i]?=some b) (hBB:B≤10000000) {k:Nat} (frm:Int) :
  ∃ ad n cap xs,n≤10000000∧w.cell? ⟨b,6,none⟩=some (.slice ad n cap)∧w.frozen? ⟨b,6,none⟩=false∧b<w.heap.size∧w.ownsRow 0 90 4 (.slice ad n cap) n xs ∧
   ∀ (w0 w1:World) (gg cap':Nat),Below w.heap.size w w0→w1.ownsRow 0 90 4 (.slice (some ⟨gg,0,none⟩) (n+1) cap') (n+1) (xs++[.int .i64 ((i:Int)+1),.int .i64 (k:Int),.bool false,.int .i64 frm])→w0.grownBy w1 (Value.slice ad n cap).ownBlock→((Value.slice ad n cap).ownBlock=some gg∨w.heap.size≤gg) →
    w1.cell? ⟨b,6,none⟩=some (.slice ad n cap)∧w1.frozen? ⟨b,6,none⟩=false ∧
    RefPost L (B+1) (E.setTx i (noteReadP t (k:Int) frm)) w (w1.setCell ⟨b,6,none⟩ (.slice (some ⟨gg,0,none⟩) (n+1) cap')):=by
 obtain⟨R,hA0,hRel⟩:=h
 obtain⟨r,hr,hX⟩:=hRel.getR ht
 obtain⟨l,hl,rfl⟩:=bs_getb hb
 have hA:=hA0.txs i l r hl hr
 obtain⟨ad,cap,hf⟩:=row_form hA.rd
 have hrow:=hA.rd
 rw [hf] at hrow
 have c6:w.cell? ⟨l.b,6,none⟩=some (.slice ad r.reads.length cap):=by rw [← hf];exact (hA.cell 6).trans rfl
 have hbl:=hA.lt
 have e1:(Value.slice ad r.reads.length cap).ownBlock≠some l.b:=by have:=hA0.row_ne hl (p:=0) (by decide);rw [show l.row 0=l.rd from rfl,hf] at this;exact this
 refine⟨ad,r.reads.length,cap,opsV r.reads,Nat.le_trans (hRel.szR hr).1 hBB,c6,REnAt.free (L:=L) hA 6,hbl,hrow,fun w0 w1 gg cap' hB ho hg hat=>?_⟩
 have hs0:=hB.size
 have hbk:w1.heap[l.b]?=w.heap[l.b]?:=(hg.block l.b (by omega) (fun e=>e1 e.symm)).trans (hB.block l.b hbl)
 have hx:=hA0.appended (p:=0) (t':={ r with reads:=r.reads++[((i:Int)+1,(k:Int),false,frm)] }) (gg:=gg) (m:=r.reads.length+1) (cap:=cap') hl hr (by decide) hB (by show World.grownBy _ _ l.rd.ownBlock;rw [hf];exact hg) (by show l.rd.ownBlock=some gg∨_;rw [hf];exact hat)
   (by show w1.ownsRow 0 90 4 _ (r.reads++[((i:Int)+1,(k:Int),false,frm)]).length (opsV (r.reads++[((i:Int)+1,(k:Int),false,frm)]));rw [opsV_append,List.length_append];exact ho) (by rfl) (fun q hq hne=>by rcases q with _ | _ | _ | _ | q<;>first | exact⟨rfl,rfl⟩ | exact (hne rfl).elim | omega)
 exact⟨(World.cell?_of_block (a:=⟨l.b,6,none⟩) hbk).trans c6,(World.frozen?_of_block (a:=⟨l.b,6,none⟩) hbk).trans (REnAt.free (L:=L) hA 6),_,⟨_,hx.1,hRel.note ht hr hs frm⟩,hx.2,⟨rfl,rfl⟩,bs_set hl (RTxL.setRow_b l 0 _)⟩
end
end Go.Proofs.YtjefgmeejhakbaaGreatDoor
/- The document's engine and the landed one: one more transaction. -/
namespace Go.Proofs.YtjefgmeejhakbaaGreatDoor
open Go.RowKit
def newR (level start begun:Int):RTx:=⟨level,0,0,start,begun,0,[],[],(0,0),[],[]⟩
def newRL (nb:Nat):RTxL:=⟨nb,.slice none 0 0,.slice none 0 0,.slice none 0 0,.slice none 0 0⟩
theorem newRL_row (nb p:Nat):((newRL nb).row p).ownBlock=none:=by rcases p with _ | _ | _ | p<;>rfl
section
variable {w w1 w':World} {L:REnL} {B:Nat} {E:Eng} {R:REng} {i:Nat} {t:Tx} {r:RTx}
theorem ptrsV_more {bs:List Nat} {nb:Nat} {l:List Nat} (h:∀ x∈l,x<bs.length):ptrsV (bs++[nb]) l=ptrsV bs l:=by
 unfold ptrsV
 refine List.map_congr_left (fun x hx=>?_)
 rw [List.getElem?_append_left (h x hx)]
theorem RTxAt.more {bs:List Nat} {nb:Nat} {l:RTxL} (h:RTxAt w bs l r) (h1:∀ x∈r.behind,x<bs.length) (h2:∀ x∈r.ahead,x<bs.length):RTxAt w (bs++[nb]) l r:=by
 refine⟨h.blk,fun p hp=>?_⟩
 have h3:=h.row p hp
 rcases p with _ | _ | _ | p
 ·exact h3
 ·exact h3
 ·show w.ownsRow 0 _ _ _ _ (ptrsV (bs++[nb]) r.behind)
  rw [ptrsV_more h1]
  exact h3
 ·show w.ownsRow 0 _ _ _ _ (ptrsV (bs++[nb]) r.ahead)
  rw [ptrsV_more h2]
  exact h3
theorem REnAt.addTx (h:REnAt w L R) {nb gg n cap:Nat} {level start begun:Int} (hn:R.txs.length=n) (hin:∀ (i:Nat) (r:RTx),R.txs[i]?=some r→(∀ x∈r.behind,x<R.txs.length)∧(∀ x∈r.ahead,x<R.txs.length))
  (hnb:w.heap.size≤nb) (hblk:w1.heap[nb]?=some (.cells (rtxCells (newRL nb) (newR level start begun)) 177 (0,0)))
  (hrow:w1.ownsRow (L.R+1) 171 1 (.slice (some ⟨gg,0,none⟩) (n+1) cap) (n+1) (L.bs.map ptrV++[.pointer (some ⟨nb,0,none⟩)])) (hat:L.av.ownBlock=some gg∨(w.heap.size≤gg∧gg≠nb))
  (hoth:∀ g,g<w.heap.size→L.av.ownBlock≠some g→w1.heap[g]?=w.heap[g]?) (hos:w1.os=w.os∧w1.tape=w.tape∧w1.output=w.output) (hsz:w.heap.size≤w1.heap.size) :
  w1.cell? ⟨L.R,12,none⟩=some L.av∧w1.frozen? ⟨L.R,12,none⟩=false∧w1.cell? ⟨L.R,1,none⟩=some (.int .i64 R.last)∧w1.cell? ⟨L.R,13,none⟩=some (.int .i64 R.step) ∧
  REnAt (w1.setCell ⟨L.R,12,none⟩ (.slice (some ⟨gg,0,none⟩) (n+1) cap)) { L with av:=.slice (some ⟨gg,0,none⟩) (n+1) cap,txs:=L.txs++[newRL nb] } { R with txs:=R.txs++[newR level start begun] } ∧
   KeptO L.own ({ L with av:=.slice (some ⟨gg,0,none⟩) (n+1) cap,txs:=L.txs++[newRL nb] }:REnL).own w (w1.setCell ⟨L.R,12,none⟩ (.slice (some ⟨gg,0,none⟩) (n+1) cap)):=by
 obtain⟨ρ,T⟩:=h.tag
 have hlen:=h.len
 have hne:L.av.ownBlock≠some L.R:=fun e=>by have h1:=T.all _ e;rw [T.eng] at h1;cases h1
 have hR:=h.lt
 have hRb:=hoth L.R hR hne
 have ho:∀ g,g≠L.R→(w1.setCell ⟨L.R,12,none⟩ (.slice (some ⟨gg,0,none⟩) (n+1) cap)).heap[g]?=w1.heap[g]?:=fun g hg=>heap_setCell_other _ ⟨L.R,12,none⟩ g _ hg
 have K:=h.keeps T (w':=w1.setCell ⟨L.R,12,none⟩ (.slice (some ⟨gg,0,none⟩) (n+1) cap)) (fun a=>a≠.eng∧a≠.all) (fun g hg hn=>(ho g (fun e=>hn.1 (by rw [e];exact T.eng))).trans (hoth g (h.own_lt hg) (fun e=>hn.2 (T.all g e))))
 have hbk:=setCell_at (o:=12) (v:=.slice (some ⟨gg,0,none⟩) (n+1) cap) (hRb.trans h.blk)
 rw [fcells12 L R.last R.step h.vl] at hbk
 have hbs:({ L with av:=.slice (some ⟨gg,0,none⟩) (n+1) cap,txs:=L.txs++[newRL nb] }:REnL).bs=L.bs++[nb]:=by simp [REnL.bs,newRL]
 have hbl:L.bs.length=R.txs.length:=by simp [REnL.bs,hlen]
 have hgR:gg≠L.R:=by
  rcases hat with e | e
  ·exact fun e'=>hne (e'▸e)
  ·omega
 have hnR:nb≠L.R:=by omega
 have hlt:∀ g,L.own g→g<w.heap.size:=fun g hg=>h.own_lt hg
 have hρ:∀ g,L.own g→(if g<w.heap.size then ρ g else if g=nb then RTag.tx n 4 else .all)=ρ g:=fun g hg=>if_pos (hlt g hg)
 refine⟨(World.cell?_of_block (a:=⟨L.R,12,none⟩) hRb).trans h.c12,(World.frozen?_of_block (a:=⟨L.R,12,none⟩) hRb).trans (h.freeR 12),(World.cell?_of_block (a:=⟨L.R,1,none⟩) hRb).trans h.sto.c1,(World.cell?_of_block (a:=⟨L.R,13,none⟩) hRb).trans h.c13,
  ⟨hbk,K.kept ⟨nofun,nofun⟩,h.knl,h.vl,K.rows ⟨nofun,nofun⟩,h.rnl,?_,?_,fun i l t hl ht=>?_,K.wr ⟨nofun,nofun⟩,K.hist ⟨nofun,nofun⟩,(fun g=>if g<w.heap.size then ρ g else if g=nb then RTag.tx n 4 else .all),⟨(hρ _ (.inl rfl)).trans T.eng,fun g hg=>(hρ g (.inr (.inl hg))).trans (T.kept g hg),fun g hg=>(hρ g (.inr (.inr (.inl hg)))).trans (T.tab g hg),fun g hg=>?_,(hρ _ (.inr (.inr (.inr (.inr (.inl rfl)))))).trans T.byc,fun g hg=>(hρ g (.inr (.inr (.inr (.inr (.inr (.inl hg))))))).trans (T.hist g hg),fun i l hl=>?_,fun i l p g hl hp hg=>?_⟩⟩,
  hos.1,hos.2.1,hos.2.2,by simpa using hsz,fun g hg hn'=>(ho g (fun e=>hn' (.inl e))).trans (hoth g hg (fun e=>hn' (.inr (.inr (.inr (.inl e)))))),fun g hg=>?_⟩
 ·rw [hbs,List.map_append]
  show (w1.setCell _ _).ownsRow (L.R+1) _ _ _ (R.txs++[_]).length _
  rw [List.length_append,List.length_singleton,hn]
  exact owns_same hrow (fun g hg=>ho g (by
   have:gg=g:=by simpa [Value.ownBlock] using hg
   rw [← this];exact hgR))
 ·simp [hlen]
 ·rw [hbs]
  simp only [List.getElem?_append] at hl ht
  rw [hlen] at hl
  split at hl
  ·rename_i hi
   rw [if_pos hi] at ht
   obtain⟨b1,b2⟩:=hin i t ht
   exact (K.txs i l t (fun _=>⟨nofun,nofun⟩) hl ht).more (by rw [hbl];exact b1) (by rw [hbl];exact b2)
  ·rename_i hi
   rw [if_neg hi] at ht
   have e0:i-R.txs.length=0:=by
    rcases Nat.eq_zero_or_pos (i-R.txs.length) with e | e
    ·exact e
    ·rw [List.getElem?_eq_none (by simp;omega)] at hl;cases hl
   rw [e0] at hl ht
   simp only [List.getElem?_cons_zero,Option.some.injEq] at hl ht
   subst hl ht
   refine⟨(ho nb hnR).trans hblk,fun p hp=>?_⟩
   rcases p with _ | _ | _ | p<;>exact World.ownsRow_nil _ _ _ _
 ·have:gg=g:=by simpa [Value.ownBlock] using hg
  subst this
  rcases hat with e | ⟨e1,e2⟩
  ·exact (hρ gg (.inr (.inr (.inr (.inl e))))).trans (T.all gg e)
  ·show (if gg<w.heap.size then ρ gg else if gg=nb then RTag.tx n 4 else .all)=.all
   rw [if_neg (by omega),if_neg e2]
 ·simp only [List.getElem?_append] at hl
  rw [hlen] at hl
  split at hl
  ·exact (hρ l.b (RTxL.own_in hl (.inl rfl))).trans (T.txb i l hl)
  ·rename_i hi
   have e0:i-R.txs.length=0:=by
    rcases Nat.eq_zero_or_pos (i-R.txs.length) with e | e
    ·exact e
    ·rw [List.getElem?_eq_none (by simp;omega)] at hl;cases hl
   rw [e0] at hl
   simp only [List.getElem?_cons_zero,Option.some.injEq] at hl
   subst hl
   show (if nb<w.heap.size then ρ nb else if nb=nb then RTag.tx n 4 else .all)=.tx i 4
   rw [if_neg (by omega),if_pos rfl,show i=n by omega]
 ·simp only [List.getElem?_append] at hl
  rw [hlen] at hl
  split at hl
  ·exact (hρ g (RTxL.own_in hl (.inr ⟨p,hp,hg⟩))).trans (T.txr i l p g hl hp hg)
  ·rename_i hi
   have e0:i-R.txs.length=0:=by
    rcases Nat.eq_zero_or_pos (i-R.txs.length) with e | e
    ·exact e
    ·rw [List.getElem?_eq_none (by simp;omega)] at hl;cases hl
   rw [e0] at hl
   simp only [List.getElem?_cons_zero,Option.some.injEq] at hl
   subst hl
   rw [newRL_row] at hg
   cases hg
 ·rcases hg with h1 | h1 | h1 | h1 | h1 | h1 | ⟨l,hl,h1⟩
  ·exact .inl (.inl h1)
  ·exact .inl (.inr (.inl h1))
  ·exact .inl (.inr (.inr (.inl h1)))
  ·have:gg=g:=by simpa [Value.ownBlock] using h1
   subst this
   rcases hat with e | ⟨e1,_⟩
   ·exact .inl (.inr (.inr (.inr (.inl e))))
   ·exact .inr e1
  ·exact .inl (.inr (.inr (.inr (.inr (.inl h1)))))
  ·exact .inl (.inr (.inr (.inr (.inr (.inr (.inl h1))))))
  ·rcases List.mem_append.1 hl with hl | hl
   ·exact .inl (.inr (.inr (.inr (.inr (.inr (.inr ⟨l,hl,h1⟩))))))
   ·rw [List.mem_singleton] at hl
    subst hl
    rcases h1 with h1 | ⟨p,hp,h1⟩
    ·exact .inr (by rw [h1];exact hnb)
    ·rw [newRL_row] at h1;cases h1
theorem snoc_get {α:Type} {l:List α} {x y:α} {i:Nat} (h:(l++[x])[i]?=some y):(l[i]?=some y)∨(i=l.length∧y=x):=by
 rw [List.getElem?_append] at h
 split at h
 ·exact .inl h
 ·rename_i hi
  rw [List.getElem?_singleton] at h
  split at h
  ·rename_i e
   injection h with h
   exact .inr ⟨by omega,h.symm⟩
  ·cases h
theorem Rel.begin (h:Rel B E R) (level:Int) (hl:E.txs.length<200):Rel (B+1001) { E with txs:=E.txs++[newTx level E.last] } { R with step:=R.step+1,txs:=R.txs++[newR level E.last (R.step+1)] }:=by
 have hst:∀ j,j<E.txs.length→stE ({ E with txs:=E.txs++[newTx level E.last] }:Eng) j=stE E j:=fun j hj=>by
  unfold stE
  show ((E.txs++[_])[j]?.map _).getD 3=_
  rw [List.getElem?_append_left hj]
 have hst2:∀ j,stE E j=2→stE ({ E with txs:=E.txs++[newTx level E.last] }:Eng) j=2:=fun j hj=>by
  obtain⟨u,hu,_⟩:=stE_get (E:=E) (j:=j) (by omega)
  rw [hst j (List.getElem?_eq_some_iff.1 hu).1]
  exact hj
 have hlen:=h.len
 obtain⟨N,z1,z2,z3,z4⟩:=h.sz
 have hs0:=h.s0
 have hpot:pot ({ E with txs:=E.txs++[newTx level E.last] }:Eng)=pot E+1:=by
  unfold pot potL
  rw [List.map_append,List.sum_append]
  rfl
 refine⟨by simp [hlen],by simp;omega,fun i a b ha hb=>?_,h.last,h.T,h.good,fun k x hx=>?_,h.doc,h.lb,h.tim,h.wr,fun c x hc=>?_,h.nw,fun j hj=>hst2 j (h.coms j hj),h.comn,?_,fun b hb=>?_,fun a ha=>?_,fun a b ra rb tb hra hrb htb hlb=>?_,by show 0≤R.step+1;omega,fun a ha h3a=>?_,N+1,fun b hb=>?_,by show R.step+1≤_;omega,by show R.nb≤_;omega,by rw [hpot];show N+1+1000*(pot E+1)+1000*R.kept.length≤_;omega⟩
 ·rw [show ({ E with txs:=E.txs++[newTx level E.last] }:Eng).txs.length=E.txs.length+1 by simp]
  rcases snoc_get ha with ha | ⟨rfl,rfl⟩
  ·have hi:=(List.getElem?_eq_some_iff.1 ha).1
   rcases snoc_get hb with hb | ⟨e,_⟩
   ·have hx:=h.tx i a b ha hb
    refine⟨hx.level,hx.state,hx.why,hx.start,hx.want,hx.own,hx.reads,hx.seen,fun x=>?_,fun x=>?_,fun x hx'=>Nat.lt_succ_of_lt (hx.bl x hx'),fun x hx'=>Nat.lt_succ_of_lt (hx.al x hx'),hx.non⟩
    ·rw [hx.be x]
     constructor
     ·rintro⟨j,e,h1,h2⟩
      exact⟨j,e,h1,by rw [hst j (hx.bl j h1)];exact h2⟩
     ·rintro⟨j,e,h1,h2⟩
      exact⟨j,e,h1,by rw [← hst j (hx.bl j h1)];exact h2⟩
    ·rw [hx.ah x]
     constructor
     ·rintro⟨j,e,h1,h2⟩
      exact⟨j,e,h1,by rw [hst j (hx.al j h1)];exact h2⟩
     ·rintro⟨j,e,h1,h2⟩
      exact⟨j,e,h1,by rw [← hst j (hx.al j h1)];exact h2⟩
   ·omega
  ·rcases snoc_get hb with hb | ⟨_,rfl⟩
   ·have:=(List.getElem?_eq_some_iff.1 hb).1
    omega
   ·refine⟨rfl,rfl,rfl,rfl,rfl,fun k=>rfl,fun _=>rfl,fun _ k hk=>?_,fun x=>?_,fun x=>?_,fun x hx'=>(by cases hx'),fun x hx'=>(by cases hx'),fun _=>⟨rfl,rfl⟩⟩
    ·show (List.replicate 10 false)[k]?=some false
     rw [List.getElem?_replicate,if_pos hk]
    ·constructor
     ·intro e;cases e
     ·rintro⟨j,_,h1,_⟩;cases h1
    ·constructor
     ·intro e;cases e
     ·rintro⟨j,_,h1,_⟩;cases h1
 ·have:=h.mem k x hx
  simp
  omega
 ·obtain⟨m,e,hm⟩:=h.wrc c x hc
  exact⟨m,e,hst2 m hm⟩
 ·refine h.hist.trans (hist_congr (E:=E) (E':={ E with txs:=E.txs++[newTx level E.last] }) rfl (fun j hj a ha=>⟨a,by show (E.txs++[_])[j]?=_;rw [List.getElem?_append_left (List.getElem?_eq_some_iff.1 ha).1];exact ha,rfl,rfl⟩) (fun j hj=>by obtain⟨u,hu,_⟩:=h.comE hj;exact⟨u,hu⟩)).symm
 ·show b.begun≤R.step+1∧b.over≤R.step+1
  rcases List.mem_append.1 hb with hb | hb
  ·have:=h.bg b hb;omega
  ·rw [List.mem_singleton] at hb
   subst hb
   show R.step+1≤R.step+1∧(0:Int)≤R.step+1
   omega
 ·rw [show ({ E with txs:=E.txs++[newTx level E.last] }:Eng).txs.length=E.txs.length+1 by simp]
  rcases List.mem_append.1 ha with ha | ha
  ·have:=h.bae a ha;omega
  ·rw [List.mem_singleton] at ha
   subst ha
   show (0:Int)≤_
   omega
 ·rcases snoc_get htb with htb | ⟨_,rfl⟩
  ·rcases snoc_get hrb with hrb | ⟨e,_⟩
   ·rcases snoc_get hra with hra | ⟨e,rfl⟩
    ·exact h.ord a b ra rb tb hra hrb htb hlb
    ·have h1:=h.bg rb (List.mem_of_getElem? hrb)
     have h2:=h.bae tb (List.mem_of_getElem? htb)
     show R.step+1<rb.over↔_
     constructor
     ·intro _;omega
     ·intro _;omega
   ·have:=(List.getElem?_eq_some_iff.1 htb).1
    omega
  ·cases hlb
 ·rcases List.mem_append.1 ha with ha | ha
  ·exact h.wy a ha h3a
  ·rw [List.mem_singleton] at ha
   subst ha
   rfl
 ·rcases List.mem_append.1 hb with hb | hb
  ·exact (z1 b hb).mono (by omega)
  ·rw [List.mem_singleton] at hb
   subst hb
   exact⟨Nat.zero_le _,Nat.zero_le _,Nat.zero_le _,Nat.zero_le _⟩
end
end Go.Proofs.YtjefgmeejhakbaaGreatDoor
/- The document's engine: Begin. -/
namespace Go.Proofs.YtjefgmeejhakbaaGreatDoor
open Go.RowKit
def cntL (E:Eng) (j:Nat):Nat:=(E.txs.take j).countP (fun t=>liveB t.state)
theorem cntL_step {E:Eng} {j:Nat} {t:Tx} (h:E.txs[j]?=some t):cntL E (j+1)=cntL E j+(if liveB t.state=true then 1 else 0):=by
 unfold cntL
 rw [List.take_add_one,h,Option.toList_some,List.countP_append]
 simp [List.countP_cons]
theorem cntL_le (E:Eng) (j:Nat):cntL E j≤j:=by
 unfold cntL
 exact Nat.le_trans List.countP_le_length (by simp;omega)
theorem cntL_all (E:Eng):cntL E E.txs.length=E.ce.live:=by
 unfold cntL CE.live Eng.ce
 rw [List.take_length,List.countP_map]
 rfl
theorem alloc3_new (W:World) (o o':Obj):((W.drew.alloc o).alloc o').heap[W.heap.size+1]?=some o'∧((W.drew.alloc o).alloc o').heap[W.heap.size]?=some o:=by
 have h1:=heap_alloc_new (W.drew.alloc o) o'
 have h2:=heap_alloc_new W.drew o
 refine⟨by simpa using h1,?_⟩
 rw [Below.heap_alloc _ _ _ (by simp)]
 simpa using h2
section
variable {w w':World} {L:REnL} {B:Nat} {E E':Eng} {i:Nat} {t:Tx}
def begC (E:Eng) (level:Int):Int:=if level≠0∧level≠1∧level≠2 then 1 else if 200≤E.txs.length then 12 else if 6≤E.ce.live then 4 else 0
set_option maxRecDepth 100000 in
set_option maxHeartbeats 4000000 in
theorem rbegin_no (h:RefAt w L B E) {level c:Int} (hc:begC E level=c) (h0:c≠0) :
  Calls Tryz.prog 77 #[.pointer (some ⟨L.R,0,none⟩),.int .i64 level] w fun e w'=>e=.returned (.tuple #[.int .i64 0,.int .i64 c])∧w'=w:=by
 obtain⟨ad,cap,hav,c12,hl200⟩:=h.av
 obtain⟨n,hn⟩:∃ n,E.txs.length=n:=⟨_,rfl⟩
 rw [hav,hn] at c12
 rw [hn] at hl200
 have hI:=in_any level 0 2 w
 have HRF:=hid h
 have HN:=hid hn
 have HAV:=hid hav
 have HC:=hid hc
 have HI:=hid hI
 clear h hav hn hI hc
 go_enter Tryz.func77,Tryz.ntmps77
 go_wp2
 go_loop [6,14] (fun nv iv=>∃ j:Nat,j≤n∧iv=.int .i64 j∧nv=.int .i64 (cntL E j:Nat)) (fun _ iv=>n-(intOf iv).toNat)
 case atStart=>exact⟨0,by omega,rfl,rfl⟩
 case round =>
  obtain⟨j,hj,rfl,rfl⟩:=hrel
  have hcl:=cntL_le E j
  by_cases hlt:j<n
  ·obtain⟨u,hu⟩:∃ u,E.txs[j]?=some u:=⟨E.txs[j]'(by rw [HN.out];exact hlt),List.getElem?_eq_getElem _⟩
   obtain⟨bj,hbj⟩:=HRF.out.place hu
   obtain⟨g,cap2,hav2,hcj,_,_⟩:=HRF.out.place2 hu hbj
   rw [HAV.out] at hav2
   have e1:ad=some ⟨g,0,none⟩:=by injection hav2
   subst e1
   have hac:=HRF.out.alive hu hbj
   have hst:=cntL_step hu
   have hj0:(0:Int)≤(j:Int):=by omega
   have hj1:(j:Int)<(n:Int):=by omega
   obtain⟨al,hal⟩:∃ al,liveB u.state=al:=⟨_,rfl⟩
   rw [hal] at hac hst
   have HAC:=hid hac
   have HST:=hid hst
   clear hu hbj hav2 hac hst hal
   cases al with
   | true =>
    go_wp2_with fail
    refine HAC.out.mono ?_
    rintro e w5 ⟨rfl,hw5⟩
    rw [hw5]
    clear hw5 w5
    go_wp2
    go_round
    case rel=>exact⟨j+1,by omega,by go_num,by rw [HST.out];go_num⟩
    case measure=>simp [intOf];omega
   | false =>
    go_wp2_with fail
    refine HAC.out.mono ?_
    rintro e w5 ⟨rfl,hw5⟩
    rw [hw5]
    clear hw5 w5
    go_wp2
    go_round
    case rel=>exact⟨j+1,by omega,by go_num,by rw [HST.out];rfl⟩
    case measure=>simp [intOf];omega
  ·have hjn:j=n:=by omega
   subst hjn
   have hj1:¬ (j:Int)<(j:Int):=by omega
   have hcv:=HC.out
   unfold begC at hcv
   rw [HN.out] at hcv
   have hcnt:cntL E j=E.ce.live:=by rw [← HN.out];exact cntL_all E
   by_cases h1:level≠0∧level≠1∧level≠2
   ·rw [if_pos h1] at hcv
    subst hcv
    rw [show inB level 0 2=false by simp only [inB,decide_eq_false_iff_not];omega] at HI
    clear h1 hcnt
    go_wp2_with fail
    refine HI.out.mono ?_
    rintro e w5 ⟨rfl,hw5⟩
    rw [hw5]
    clear hw5 w5
    go_wp2
    go_ret2
    exact⟨rfl,rfl⟩
   ·rw [if_neg h1] at hcv
    rw [show inB level 0 2=true by simp only [inB,decide_eq_true_eq];omega] at HI
    clear h1
    by_cases h2:200≤j
    ·rw [if_pos h2] at hcv
     subst hcv
     have gl:(200:Int)≤(j:Int):=by omega
     clear hcnt
     go_wp2_with fail
     refine HI.out.mono ?_
     rintro e w5 ⟨rfl,hw5⟩
     rw [hw5]
     clear hw5 w5
     go_wp2
     go_ret2
     exact⟨rfl,rfl⟩
    ·rw [if_neg h2] at hcv
     by_cases h3:6≤E.ce.live
     ·rw [if_pos h3] at hcv
      subst hcv
      have gl:¬ (200:Int)≤(j:Int):=by omega
      have gn:(6:Int)≤((cntL E j:Nat):Int):=by omega
      clear hcnt h3
      go_wp2_with fail
      refine HI.out.mono ?_
      rintro e w5 ⟨rfl,hw5⟩
      rw [hw5]
      clear hw5 w5
      go_wp2
      go_ret2
      exact⟨rfl,rfl⟩
     ·rw [if_neg h3] at hcv
      exact (h0 hcv.symm).elim
theorem begin_facts (h:RefAt w L B E) (hl:E.txs.length<200) (level:Int) :
    ∃ (ad:Option Addr) (n cap:Nat) (sp la:Int),E.txs.length=n∧E.last=la∧0≤sp∧sp≤B∧w.cell? ⟨L.R,12,none⟩=some (.slice ad n cap)∧w.cell? ⟨L.R,13,none⟩=some (.int .i64 sp)∧w.frozen? ⟨L.R,13,none⟩=false∧w.cell? ⟨L.R,1,none⟩=some (.int .i64 la)∧L.R<w.heap.size ∧
      (w.setCell ⟨L.R,13,none⟩ (.int .i64 (sp+1))).ownsRow (L.R+1) 171 1 (.slice ad n cap) n (L.bs.map ptrV) ∧
      ∀ (w1:World) (gg cap':Nat),w1.ownsRow (L.R+1) 171 1 (.slice (some ⟨gg,0,none⟩) (n+1) cap') (n+1) (L.bs.map ptrV++[.pointer (some ⟨w.heap.size,0,none⟩)]) →
        (((w.setCell ⟨L.R,13,none⟩ (.int .i64 (sp+1))).drew.alloc (.cells (rtxCells (newRL w.heap.size) (newR level la (sp+1))) 177)).alloc (.cells #[.pointer (some ⟨w.heap.size,0,none⟩)] 171)).grownBy w1 (Value.slice ad n cap).ownBlock→((Value.slice ad n cap).ownBlock=some gg∨gg=w.heap.size+2) →
        w1.cell? ⟨L.R,12,none⟩=some (.slice ad n cap)∧w1.frozen? ⟨L.R,12,none⟩=false ∧
        ∃ L' b,RefAt (w1.setCell ⟨L.R,12,none⟩ (.slice (some ⟨gg,0,none⟩) (n+1) cap')) L' (B+1001) { E with txs:=E.txs++[newTx level E.last] }∧KeptO L.own L'.own w (w1.setCell ⟨L.R,12,none⟩ (.slice (some ⟨gg,0,none⟩) (n+1) cap'))∧L'.R=L.R∧L'.bs=L.bs++[b]:=by
  obtain⟨R,hA,hRel⟩:=h
  obtain⟨ad,cap,hav⟩:=row_form hA.all
  obtain⟨h0,k0⟩:=hA.setStep (R.step+1)
  have hrow:=h0.all
  have hlen:=hRel.len
  have hbeg:=hRel.begin level hl
  rw [show ({ R with step:=R.step+1 }:REng).txs.length=R.txs.length from rfl,hav] at hrow
  refine⟨ad,R.txs.length,cap,R.step,R.last,hlen.symm,hRel.last.symm,hRel.s0,hRel.stepB,by rw [← hav];exact hA.c12,hA.c13,hA.freeR 13,hA.sto.c1,hA.lt,hrow,fun w1 gg cap' ho hg hat=>?_⟩
  have hsz:(w.setCell ⟨L.R,13,none⟩ (.int .i64 (R.step+1))).heap.size=w.heap.size:=by simp
  obtain⟨a1,a2⟩:=alloc3_new (w.setCell ⟨L.R,13,none⟩ (.int .i64 (R.step+1))) (.cells (rtxCells (newRL w.heap.size) (newR level R.last (R.step+1))) 177) (.cells #[.pointer (some ⟨w.heap.size,0,none⟩)] 171)
  rw [hsz] at a1 a2
  have hown:∀ g,(Value.slice ad R.txs.length cap).ownBlock=some g→g<w.heap.size:=fun g hg'=>by
    have:=(hrow.lt g hg').2
    rw [hsz] at this
    exact this
  have hnb:w1.heap[w.heap.size]?=some (.cells (rtxCells (newRL w.heap.size) (newR level R.last (R.step+1))) 177 (0,0)):=by
    rw [hg.block w.heap.size (by simp;omega) (fun e=>by have:=hown _ e.symm;omega)]
    exact a2
  have:=h0.addTx (nb:=w.heap.size) (gg:=gg) (cap:=cap') (level:=level) (start:=R.last) (begun:=R.step+1) (w1:=w1) rfl (fun i r hr=>hRel.bl hr) (by rw [hsz];exact Nat.le_refl _) hnb ho (by rw [hav,hsz];exact hat.imp id (fun e=>by omega))
    (fun g hg1 hg2=>by
      rw [hsz] at hg1
      rw [hav] at hg2
      rw [hg.block g (by simp;omega) (fun e=>hg2 e.symm),Below.heap_alloc _ _ _ (by simp;omega),Below.heap_alloc _ _ _ (by simp;omega)]
      rfl) ⟨hg.os,hg.tape,hg.output⟩ (by have:=hg.size;simp at this ⊢;omega)
  rw [hav] at this
  obtain⟨q1,q2,_,_,q3,q4⟩:=this
  have hbeg2:Rel (B+1001) { E with txs:=E.txs++[newTx level E.last] } { R with step:=R.step+1,txs:=R.txs++[newR level R.last (R.step+1)] }:=by
    rw [show newR level R.last (R.step+1)=newR level E.last (R.step+1) by rw [hRel.last]]
    exact hbeg
  refine⟨q1,q2,_,w.heap.size,⟨_,q3,hbeg2⟩,k0.trans q4,rfl,by simp [REnL.bs,newRL]⟩
end
end Go.Proofs.YtjefgmeejhakbaaGreatDoor
/- The document's engine: Read, as long as none is ahead. -/
namespace Go.Proofs.YtjefgmeejhakbaaGreatDoor
open Go.RowKit
section
variable {w w':World} {L:REnL} {B:Nat} {E E':Eng} {i:Nat} {t:Tx}
set_option maxRecDepth 100000 in
set_option maxHeartbeats 1000000 in
theorem rread_shut (h:RefAt w L B E) {n key c:Int} (hc:Shut E n c) :
  Calls Tryz.prog 78 #[.pointer (some ⟨L.R,0,none⟩),.int .i64 n,.int .i64 key] w fun e w'=>e=.returned (.tuple #[.int .i64 0,.int .i64 c])∧w'=w:=by
 have HF:=hid (of_shut h hc)
 have gc:=hc.ne.2
 clear h hc
 go_enter Tryz.func78,Tryz.ntmps78
 go_wp2_with fail
 refine HF.out.mono ?_
 rintro e w1 ⟨rfl,rfl⟩
 go_wp2
 go_ret2
 exact⟨rfl,rfl⟩
set_option maxRecDepth 100000 in
set_option maxHeartbeats 1000000 in
theorem rread_own (h:RefAt w L B E) (hB:B≤10000000) (ht:E.txs[i]?=some t) (hs:t.state=0) {key v:Int} (hv:t.vals key=some v) :
  Calls Tryz.prog 78 #[.pointer (some ⟨L.R,0,none⟩),.int .i64 ((i:Int)+1),.int .i64 key] w fun e w'=>e=.returned (.tuple #[.int .i64 v,.int .i64 0])∧w'=w:=by
 obtain⟨b,hb⟩:=h.place ht
 have HF:=hid (of_ok h true ht (fun _=>hs) hb)
 have hO:=h.owns hB ht hb key
 rw [hv] at hO
 simp only [Option.getD_some,Option.isSome_some] at hO
 have HO:=hid hO
 clear h hO
 go_enter Tryz.func78,Tryz.ntmps78
 go_wp2_with fail
 refine HF.out.mono ?_
 rintro e w1 ⟨rfl,hw1⟩
 rw [hw1]
 clear hw1 w1
 go_wp2_with fail
 refine HO.out.mono ?_
 rintro e w1 ⟨rfl,hw1⟩
 rw [hw1]
 clear hw1 w1
 go_wp2
 go_ret2
 exact⟨rfl,rfl⟩
set_option maxRecDepth 100000 in
set_option maxHeartbeats 1000000 in
theorem rread_bad (h:RefAt w L B E) (hB:B≤10000000) (ht:E.txs[i]?=some t) (hs:t.state=0) {key:Int} (hv:t.vals key=none) (hk:keyB key=false) :
  Calls Tryz.prog 78 #[.pointer (some ⟨L.R,0,none⟩),.int .i64 ((i:Int)+1),.int .i64 key] w fun e w'=>e=.returned (.tuple #[.int .i64 0,.int .i64 2])∧w'=w:=by
 obtain⟨b,hb⟩:=h.place ht
 have HF:=hid (of_ok h true ht (fun _=>hs) hb)
 have hO:=h.owns hB ht hb key
 rw [hv] at hO
 simp only [Option.getD_none,Option.isSome_none] at hO
 have HO:=hid hO
 have hI:=in_any key 0 9 w
 rw [show inB key 0 9=false by simp only [keyB,decide_eq_false_iff_not] at hk;simp only [inB,decide_eq_false_iff_not];omega] at hI
 have HI:=hid hI
 clear h hO hI
 go_enter Tryz.func78,Tryz.ntmps78
 go_wp2_with fail
 refine HF.out.mono ?_
 rintro e w1 ⟨rfl,hw1⟩
 rw [hw1]
 clear hw1 w1
 go_wp2_with fail
 refine HO.out.mono ?_
 rintro e w1 ⟨rfl,hw1⟩
 rw [hw1]
 clear hw1 w1
 go_wp2_with fail
 refine HI.out.mono ?_
 rintro e w1 ⟨rfl,hw1⟩
 rw [hw1]
 clear hw1 w1
 go_wp2
 go_ret2
 exact⟨rfl,rfl⟩
end
end Go.Proofs.YtjefgmeejhakbaaGreatDoor
/- interleafref.Over and engine.Over, at every number and list. -/
namespace Go.Proofs.YtjefgmeejhakbaaGreatDoor
open Go.RowKit
section
variable {w w1 w2 w3:World} {M:REnL} {R:REng}
theorem rover_end (hB:Below (w.heap.size+1) (w.alloc (.cells #[.int .i64 0,.int .i64 0] 26)) w3) (c p:Int) :
  w3.cell? ⟨w.heap.size,0,none⟩=some (.int .i64 0)∧w3.cell? ⟨w.heap.size,1,none⟩=some (.int .i64 0)∧w3.frozen? ⟨w.heap.size,0,none⟩=false∧w3.frozen? ⟨w.heap.size,1,none⟩=false ∧
  ((w3.setCell ⟨w.heap.size,0,none⟩ (.int .i64 c)).setCell ⟨w.heap.size,1,none⟩ (.int .i64 p)).cell? ⟨w.heap.size,0,none⟩=some (.int .i64 c) ∧
  ((w3.setCell ⟨w.heap.size,0,none⟩ (.int .i64 c)).setCell ⟨w.heap.size,1,none⟩ (.int .i64 p)).cell? ⟨w.heap.size,1,none⟩=some (.int .i64 p) ∧
  Below w.heap.size w ((w3.setCell ⟨w.heap.size,0,none⟩ (.int .i64 c)).setCell ⟨w.heap.size,1,none⟩ (.int .i64 p)) ∧
  (∀ M R,REnAt w3 M R→(∀ g,M.own g→w.heap.size+1≤g)→REnAt ((w3.setCell ⟨w.heap.size,0,none⟩ (.int .i64 c)).setCell ⟨w.heap.size,1,none⟩ (.int .i64 p)) M R):=by
 have hx3:w3.heap[w.heap.size]?=some (.cells #[.int .i64 0,.int .i64 0] 26 (0,0)):=(hB.block w.heap.size (Nat.lt_succ_self _)).trans (World.alloc_heap_new w _)
 refine⟨(cell_of_row _ _ 0 _ 26 (0,0) hx3).trans rfl,(cell_of_row _ _ 1 _ 26 (0,0) hx3).trans rfl,frozen_of_row w3 w.heap.size 0 _ 26 hx3,frozen_of_row w3 w.heap.size 1 _ 26 hx3,(res_cells hx3 c p).1,(res_cells hx3 c p).2,?_,fun M R hE hO=>hE.same (fun g hg=>?_)⟩
 ·exact ((((Below.refl w.heap.size w).alloc (Nat.le_refl _) _).trans (hB.mono (Nat.le_succ _))).setCell (p:=⟨w.heap.size,0,none⟩) (Nat.le_refl _) _).setCell (p:=⟨w.heap.size,1,none⟩) (Nat.le_refl _) _
 ·have hne:g≠w.heap.size:=by have:=hO g hg;omega
  exact (heap_setCell_other _ _ _ _ hne).trans (heap_setCell_other _ _ _ _ hne)
set_option maxRecDepth 100000 in
set_option maxHeartbeats 2000000 in
theorem rover_fresh (ad:Option Addr) (cap:Nat) (w:World) :
  Calls Tryz.prog 17 #[.int .i64 0,.slice ad 0 cap] w fun e w'=>∃ M,e=.returned (.tuple #[.pointer (some ⟨M.R,0,none⟩),.agg #[.int .i64 0,.int .i64 (-1)]])∧REnAt w' M reng0∧Below w.heap.size w w'∧∀ g,M.own g→w.heap.size≤g:=by
 have HN:Hid (Calls Tryz.prog 74 #[] (w.alloc (.cells #[.int .i64 0,.int .i64 0] 26)) fun e w'=>∃ M,e=.returned (.pointer (some ⟨M.R,0,none⟩))∧REnAt w' M reng0∧Below (w.heap.size+1) (w.alloc (.cells #[.int .i64 0,.int .i64 0] 26)) w'∧∀ g,M.own g→w.heap.size+1≤g):=by
  have:=rnew_any (w.alloc (.cells #[.int .i64 0,.int .i64 0] 26))
  rw [World.size_alloc] at this
  exact this
 go_enter Tryz.func17,Tryz.ntmps17
 go_wp2_with fail
 refine HN.out.mono ?_
 rintro e w1 ⟨M,rfl,hE,hB,hO⟩
 have HE:=hid (And.intro hE (And.intro hB hO))
 clear hE hB hO HN
 go_wp2_with fail
 refine (bareF_any 0 _).mono ?_
 rintro e w3 ⟨rfl,hB3⟩
 have HB3:=hid (HE.out.2.1.trans (hB3.mono (by have:=HE.out.2.1.size;simpa using this)))
 have HE3:=hid (HE.out.1.below hB3)
 clear hB3
 obtain⟨c0,c1,f0,f1,g0,g1,gB,gE⟩:=rover_end HB3.out 0 (-1)
 have G:=hid (And.intro g0 g1)
 have G2:=hid (And.intro gB (gE M reng0 HE3.out HE.out.2.2))
 clear g0 g1 gB gE
 go_wp2
 refine bodyPost_ret (v:=.tuple #[.pointer (some ⟨M.R,0,none⟩),.agg #[.int .i64 0,.int .i64 (-1)]]) (by simp [results,Tryz.results17,go_sem,G.out.1,G.out.2]) rfl ⟨M,rfl,G2.out.2,G2.out.1,fun g hg=>by have:=HE.out.2.2 g hg;omega⟩
set_option maxRecDepth 100000 in
set_option maxHeartbeats 2000000 in
theorem rover_err (t c p:Int) (ad:Option Addr) (n cap:Nat) (w:World) (hz:¬ (t=0∧n=0)) (hc:c≠0)
  (hI:∀ w1 M,REnAt w1 M reng0→Below (w.heap.size+1) (w.alloc (.cells #[.int .i64 0,.int .i64 0] 26)) w1→Calls Tryz.prog 75 #[.pointer (some ⟨M.R,0,none⟩),.int .i64 t,.slice ad n cap] w1 fun e w2=>e=.returned (.agg #[.int .i64 c,.int .i64 p])∧Below w1.heap.size w1 w2) :
  Calls Tryz.prog 17 #[.int .i64 t,.slice ad n cap] w fun e w'=>e=.returned (.tuple #[.pointer none,.agg #[.int .i64 c,.int .i64 p]])∧Below w.heap.size w w':=by
 have HN:Hid (Calls Tryz.prog 74 #[] (w.alloc (.cells #[.int .i64 0,.int .i64 0] 26)) fun e w'=>∃ M,e=.returned (.pointer (some ⟨M.R,0,none⟩))∧REnAt w' M reng0∧Below (w.heap.size+1) (w.alloc (.cells #[.int .i64 0,.int .i64 0] 26)) w'∧∀ g,M.own g→w.heap.size+1≤g):=by
  have:=rnew_any (w.alloc (.cells #[.int .i64 0,.int .i64 0] 26))
  rw [World.size_alloc] at this
  exact this
 have HI:=hid hI
 have hcz:(c != 0)=true:=by simpa using hc
 clear hI hc
 by_cases h0:t=0
 ·subst h0
  have gn:((n:Int)==0)=false:=beq_false_of_ne (fun e=>hz ⟨rfl,by omega⟩)
  clear hz
  go_enter Tryz.func17,Tryz.ntmps17
  go_wp2_with fail
  refine HN.out.mono ?_
  rintro e w1 ⟨M,rfl,hE,hB,hO⟩
  have HE:=hid (And.intro hE (And.intro hB hO))
  have mlt:=hE.lt
  clear hE hB hO HN
  go_wp2_with fail
  refine (HI.out w1 M HE.out.1 HE.out.2.1).mono ?_
  rintro e w2 ⟨rfl,hB2⟩
  have HB2:=hid (HE.out.2.1.trans (hB2.mono (by have:=HE.out.2.1.size;simpa using this)))
  clear hB2 mlt HI
  go_wp2
  have HB5:=hid (HB2.out.alloc (by have:=HB2.out.size;simpa using this) (.cells #[.int .i64 c,.int .i64 p] 26))
  have d0:(w2.alloc (.cells #[.int .i64 c,.int .i64 p] 26)).cell? ⟨w2.heap.size,0,none⟩=some (.int .i64 c):=(cell_of_row _ _ 0 _ 26 (0,0) (heap_alloc_new w2 _)).trans rfl
  have d1:(w2.alloc (.cells #[.int .i64 c,.int .i64 p] 26)).cell? ⟨w2.heap.size,1,none⟩=some (.int .i64 p):=(cell_of_row _ _ 1 _ 26 (0,0) (heap_alloc_new w2 _)).trans rfl
  generalize w2.alloc (.cells #[.int .i64 c,.int .i64 p] 26)=w5 at HB5 d0 d1 ⊢
  obtain⟨c0,c1,f0,f1,g0,g1,gB,_⟩:=rover_end HB5.out c p
  have G:=hid (And.intro g0 (And.intro g1 gB))
  clear g0 g1 gB HB5 HB2
  go_region
  all_goals (try go_wp2)
  exact bodyPost_ret (v:=.tuple #[.pointer none,.agg #[.int .i64 c,.int .i64 p]]) (by simp [results,Tryz.results17,go_sem,G.out.1,G.out.2.1]) rfl ⟨rfl,G.out.2.2.drew⟩
 ·have gt:((t:Int)==0)=false:=beq_false_of_ne h0
  clear hz h0
  go_enter Tryz.func17,Tryz.ntmps17
  go_wp2_with fail
  refine HN.out.mono ?_
  rintro e w1 ⟨M,rfl,hE,hB,hO⟩
  have HE:=hid (And.intro hE (And.intro hB hO))
  have mlt:=hE.lt
  clear hE hB hO HN
  go_wp2_with fail
  refine (HI.out w1 M HE.out.1 HE.out.2.1).mono ?_
  rintro e w2 ⟨rfl,hB2⟩
  have HB2:=hid (HE.out.2.1.trans (hB2.mono (by have:=HE.out.2.1.size;simpa using this)))
  clear hB2 mlt HI
  go_wp2
  have HB5:=hid (HB2.out.alloc (by have:=HB2.out.size;simpa using this) (.cells #[.int .i64 c,.int .i64 p] 26))
  have d0:(w2.alloc (.cells #[.int .i64 c,.int .i64 p] 26)).cell? ⟨w2.heap.size,0,none⟩=some (.int .i64 c):=(cell_of_row _ _ 0 _ 26 (0,0) (heap_alloc_new w2 _)).trans rfl
  have d1:(w2.alloc (.cells #[.int .i64 c,.int .i64 p] 26)).cell? ⟨w2.heap.size,1,none⟩=some (.int .i64 p):=(cell_of_row _ _ 1 _ 26 (0,0) (heap_alloc_new w2 _)).trans rfl
  generalize w2.alloc (.cells #[.int .i64 c,.int .i64 p] 26)=w5 at HB5 d0 d1 ⊢
  obtain⟨c0,c1,f0,f1,g0,g1,gB,_⟩:=rover_end HB5.out c p
  have G:=hid (And.intro g0 (And.intro g1 gB))
  clear g0 g1 gB HB5 HB2
  go_region
  all_goals (try go_wp2)
  exact bodyPost_ret (v:=.tuple #[.pointer none,.agg #[.int .i64 c,.int .i64 p]]) (by simp [results,Tryz.results17,go_sem,G.out.1,G.out.2.1]) rfl ⟨rfl,G.out.2.2.drew⟩
set_option maxRecDepth 100000 in
set_option maxHeartbeats 2000000 in
theorem rover_ok (t:Int) (R':REng) (ad:Option Addr) (n cap:Nat) (w:World) (hz:¬ (t=0∧n=0))
  (hI:∀ w1 M,REnAt w1 M reng0→Below (w.heap.size+1) (w.alloc (.cells #[.int .i64 0,.int .i64 0] 26)) w1→(∀ g,M.own g→w.heap.size+1≤g)→Calls Tryz.prog 75 #[.pointer (some ⟨M.R,0,none⟩),.int .i64 t,.slice ad n cap] w1 fun e w2=>e=.returned (.agg #[.int .i64 0,.int .i64 (-1)])∧∃ M',M'.R=M.R∧REnAt w2 M' R'∧KeptO M.own M'.own w1 w2) :
  Calls Tryz.prog 17 #[.int .i64 t,.slice ad n cap] w fun e w'=>∃ M,e=.returned (.tuple #[.pointer (some ⟨M.R,0,none⟩),.agg #[.int .i64 0,.int .i64 (-1)]])∧REnAt w' M R'∧Below w.heap.size w w'∧∀ g,M.own g→w.heap.size≤g:=by
 have HN:Hid (Calls Tryz.prog 74 #[] (w.alloc (.cells #[.int .i64 0,.int .i64 0] 26)) fun e w'=>∃ M,e=.returned (.pointer (some ⟨M.R,0,none⟩))∧REnAt w' M reng0∧Below (w.heap.size+1) (w.alloc (.cells #[.int .i64 0,.int .i64 0] 26)) w'∧∀ g,M.own g→w.heap.size+1≤g):=by
  have:=rnew_any (w.alloc (.cells #[.int .i64 0,.int .i64 0] 26))
  rw [World.size_alloc] at this
  exact this
 have HI:=hid hI
 clear hI
 by_cases h0:t=0
 ·subst h0
  have gn:((n:Int)==0)=false:=beq_false_of_ne (fun e=>hz ⟨rfl,by omega⟩)
  clear hz
  go_enter Tryz.func17,Tryz.ntmps17
  go_wp2_with fail
  refine HN.out.mono ?_
  rintro e w1 ⟨M,rfl,hE,hB,hO⟩
  have HE:=hid (And.intro hE (And.intro hB hO))
  have mlt:=hE.lt
  clear hE hB hO HN
  go_wp2_with fail
  refine (HI.out w1 M HE.out.1 HE.out.2.1 HE.out.2.2).mono ?_
  rintro e w2 ⟨rfl,M',e',hE2,hK2⟩
  have HE2:=hid (And.intro e' (And.intro hE2 hK2))
  clear e' hE2 hK2 mlt HI
  have HB2:=hid (show Below (w.heap.size+1) (w.alloc (.cells #[.int .i64 0,.int .i64 0] 26)) w2 from ⟨HE2.out.2.2.os.trans HE.out.2.1.os,HE2.out.2.2.tape.trans HE.out.2.1.tape,HE2.out.2.2.output.trans HE.out.2.1.output,Nat.le_trans HE.out.2.1.size HE2.out.2.2.size,fun k hk=>(HE2.out.2.2.block k (Nat.lt_of_lt_of_le hk (by have:=HE.out.2.1.size;simpa using this)) (fun ho=>by have:=HE.out.2.2 k ho;omega)).trans (HE.out.2.1.block k hk)⟩)
  have HO2:=hid (show ∀ g,M'.own g→w.heap.size+1≤g from fun g hg=>by
   rcases HE2.out.2.2.sub g hg with h5 | h5
   ·exact HE.out.2.2 g h5
   ·have:=HE.out.2.1.size;simp at this;omega)
  go_wp2_with fail
  refine (bareF_any 0 _).mono ?_
  rintro e w3 ⟨rfl,hB3⟩
  have hB4:=(Below.refl w2.heap.size w2).alloc (Nat.le_refl _) (.cells #[.int .i64 0,.int .i64 (-1)] 26) |>.trans (hB3.mono (by simp))
  have HB3:=hid (HB2.out.trans (hB4.mono (by have:=HB2.out.size;simpa using this)))
  have HE3:=hid (HE2.out.2.1.below hB4)
  clear hB3 hB4
  obtain⟨c0,c1,f0,f1,g0,g1,gB,gE⟩:=rover_end HB3.out 0 (-1)
  have G:=hid (And.intro g0 g1)
  have G2:=hid (And.intro gB (gE M' R' HE3.out HO2.out))
  clear g0 g1 gB gE
  go_wp2
  refine bodyPost_ret (v:=.tuple #[.pointer (some ⟨M.R,0,none⟩),.agg #[.int .i64 0,.int .i64 (-1)]]) (by simp [results,Tryz.results17,go_sem,G.out.1,G.out.2]) rfl ⟨M',by rw [HE2.out.1],G2.out.2,G2.out.1,fun g hg=>by have:=HO2.out g hg;omega⟩
 ·have gt:((t:Int)==0)=false:=beq_false_of_ne h0
  clear hz h0
  go_enter Tryz.func17,Tryz.ntmps17
  go_wp2_with fail
  refine HN.out.mono ?_
  rintro e w1 ⟨M,rfl,hE,hB,hO⟩
  have HE:=hid (And.intro hE (And.intro hB hO))
  have mlt:=hE.lt
  clear hE hB hO HN
  go_wp2_with fail
  refine (HI.out w1 M HE.out.1 HE.out.2.1 HE.out.2.2).mono ?_
  rintro e w2 ⟨rfl,M',e',hE2,hK2⟩
  have HE2:=hid (And.intro e' (And.intro hE2 hK2))
  clear e' hE2 hK2 mlt HI
  have HB2:=hid (show Below (w.heap.size+1) (w.alloc (.cells #[.int .i64 0,.int .i64 0] 26)) w2 from ⟨HE2.out.2.2.os.trans HE.out.2.1.os,HE2.out.2.2.tape.trans HE.out.2.1.tape,HE2.out.2.2.output.trans HE.out.2.1.output,Nat.le_trans HE.out.2.1.size HE2.out.2.2.size,fun k hk=>(HE2.out.2.2.block k (Nat.lt_of_lt_of_le hk (by have:=HE.out.2.1.size;simpa using this)) (fun ho=>by have:=HE.out.2.2 k ho;omega)).trans (HE.out.2.1.block k hk)⟩)
  have HO2:=hid (show ∀ g,M'.own g→w.heap.size+1≤g from fun g hg=>by
   rcases HE2.out.2.2.sub g hg with h5 | h5
   ·exact HE.out.2.2 g h5
   ·have:=HE.out.2.1.size;simp at this;omega)
  go_wp2_with fail
  refine (bareF_any 0 _).mono ?_
  rintro e w3 ⟨rfl,hB3⟩
  have hB4:=(Below.refl w2.heap.size w2).alloc (Nat.le_refl _) (.cells #[.int .i64 0,.int .i64 (-1)] 26) |>.trans (hB3.mono (by simp))
  have HB3:=hid (HB2.out.trans (hB4.mono (by have:=HB2.out.size;simpa using this)))
  have HE3:=hid (HE2.out.2.1.below hB4)
  clear hB3 hB4
  obtain⟨c0,c1,f0,f1,g0,g1,gB,gE⟩:=rover_end HB3.out 0 (-1)
  have G:=hid (And.intro g0 g1)
  have G2:=hid (And.intro gB (gE M' R' HE3.out HO2.out))
  clear g0 g1 gB gE
  go_wp2
  refine bodyPost_ret (v:=.tuple #[.pointer (some ⟨M.R,0,none⟩),.agg #[.int .i64 0,.int .i64 (-1)]]) (by simp [results,Tryz.results17,go_sem,G.out.1,G.out.2]) rfl ⟨M',by rw [HE2.out.1],G2.out.2,G2.out.1,fun g hg=>by have:=HO2.out g hg;omega⟩
end
end Go.Proofs.YtjefgmeejhakbaaGreatDoor
/- A base, its disk and a map beside them, over a ground. -/
namespace Go.Proofs.YtjefgmeejhakbaaGreatDoor
open Go.RowKit
def dsk0:Dsk:=⟨List.replicate 250 [],false,0⟩
def dv0:List Value:=List.replicate 250 (.slice none 0 0)
theorem zero_disk:Tryz.zeroCells96=(dv0++[Value.bool false,Value.int .i64 0]).toArray:=by kernel_rfl
theorem disk0 (w:World):DiskAt (w.alloc (.cells Tryz.zeroCells96 96)) w.heap.size dv0 dsk0:=by
 refine⟨by rw [zero_disk];exact heap_alloc_new w _,List.length_replicate,List.length_replicate,fun i v l hv hl=>?_,fun l hl=>?_⟩
 ·have e1:v=.slice none 0 0:=List.eq_of_mem_replicate (List.mem_of_getElem? hv)
  have e2:l=[]:=List.eq_of_mem_replicate (List.mem_of_getElem? (show (List.replicate 250 [])[i]?=some l from hl))
  subst e1 e2
  exact⟨fun g hg=>(by cases hg),none,0,rfl,Nat.le_refl _,fun i x hx=>(by cases hx)⟩
 ·have e2:l=[]:=List.eq_of_mem_replicate (show l∈List.replicate 250 [] from hl)
  subst e2
  exact⟨Nat.zero_le _,fun x hx=>(by cases hx)⟩
theorem dOwn0 {d g:Nat} (h:dOwn d dv0 g):g=d:=by
 rcases h with h | ⟨i,v,hv,hg⟩
 ·exact h
 ·have e1:v=.slice none 0 0:=List.eq_of_mem_replicate (List.mem_of_getElem? hv)
  subst e1
  cases hg
theorem dskOk0:DskOk dsk0 []:=by
 have hn:∀ (j:Nat) (l:List Int),dsk0.pl[j]?=some l→wholeP l=false:=fun j l hl=>by
  have e2:l=[]:=List.eq_of_mem_replicate (List.mem_of_getElem? (show (List.replicate 250 [])[j]?=some l from hl))
  subst e2
  rfl
 exact⟨⟨fun j ws h=>(by cases h),fun ws h=>(by cases h),fun ws h=>(by cases h),fun ws h=>(by cases h),by simp,fun l hl=>hn _ l hl⟩,List.length_replicate,fun j l _ hl=>hn j l hl,by decide⟩
section
variable {w0 w w':World} {b d:Nat} {L L':EnL} {E E':Eng} {dv dv':List Value} {D D':Dsk} {used torn used' torn':Int} {down down':Bool}
end
end Go.Proofs.YtjefgmeejhakbaaGreatDoor
/- A disk, whatever is left of its power. -/
namespace Go.Proofs.YtjefgmeejhakbaaGreatDoor
open Go.RowKit
def DskG (D:Dsk) (recs:List (List (Int × Int))):Prop:=Recs D recs∧D.pl.length=250∧(∀ (j:Nat) (l:List Int),recs.length≤j→D.pl[j]?=some l→wholeP l=false)
theorem dskG0:DskG dsk0 []:=⟨dskOk0.1,dskOk0.2.1,dskOk0.2.2.1⟩
theorem DskG.write {D:Dsk} {recs:List (List (Int × Int))} (h:DskG D recs) {ws:List (Int × Int)} (hw:ws.length≤10) (hf:∀ p∈ws,Fine p) (hne:ws≠[]) (hl:recs.length<250) (torn:Int) (hp:powerB D=true):DskG (writeD D recs.length (recP ws) torn) (recs++[ws]):=by
 obtain⟨h1,h2,h3⟩:=h
 have hw0:writeD D recs.length (recP ws) torn={ pl:=D.pl.set recs.length (recP ws),cut:=D.cut,left:=if D.cut=true then D.left-1 else D.left }:=by unfold writeD;rw [if_pos hp]
 rw [hw0]
 refine⟨⟨fun j vs hj=>?_,fun vs hv=>?_,fun vs hv=>?_,fun vs hv=>?_,by simp;omega,fun l hl2=>?_⟩,by simp [h2],fun j l hj hl2=>?_⟩
 ·show (D.pl.set recs.length (recP ws))[j]?=_
  rcases Nat.lt_or_ge j recs.length with hlt | hge
  ·rw [List.getElem?_append_left hlt] at hj
   rw [List.getElem?_set_ne (by omega)]
   exact h1.at_ j vs hj
  ·have hj2:=(List.getElem?_eq_some_iff.1 hj).1
   simp at hj2
   obtain rfl:j=recs.length:=by omega
   rw [List.getElem?_append_right (Nat.le_refl _)] at hj
   simp at hj
   rw [List.getElem?_set_self (by omega),hj]
 ·rcases List.mem_append.1 hv with h | h
  ·exact h1.len vs h
  ·rw [List.mem_singleton.1 h];exact hw
 ·rcases List.mem_append.1 hv with h | h
  ·exact h1.fine vs h
  ·rw [List.mem_singleton.1 h];exact hf
 ·rcases List.mem_append.1 hv with h | h
  ·exact h1.ne vs h
  ·rw [List.mem_singleton.1 h];exact hne
 ·have hl2:(D.pl.set recs.length (recP ws))[(recs++[ws]).length]?=some l:=hl2
  simp only [List.length_append,List.length_singleton] at hl2
  rw [List.getElem?_set_ne (by omega)] at hl2
  exact h3 _ l (by omega) hl2
 ·have hl2:(D.pl.set recs.length (recP ws))[j]?=some l:=hl2
  simp only [List.length_append,List.length_singleton] at hj
  rw [List.getElem?_set_ne (by omega)] at hl2
  exact h3 j l (by omega) hl2
theorem DskG.off {D:Dsk} {recs:List (List (Int × Int))} (h:DskG D recs) (ws:List (Int × Int)) (torn:Int) (hlt:recs.length<250) (hp:powerB D=false):DskG (writeD D recs.length (recP ws) torn) recs:=by
 obtain⟨h1,h2,h3⟩:=h
 have hl:=recP_len ws
 have hw0:writeD D recs.length (recP ws) torn={ D with pl:=D.pl.set recs.length ((recP ws).take (min torn ((recP ws).length-1)).toNat) }:=by unfold writeD;rw [if_neg (by rw [hp];simp)]
 rw [hw0]
 have hnw:wholeP ((recP ws).take (min torn ((recP ws).length-1)).toNat)=false:=whole_torn ws (by omega)
 have hall:∀ (j:Nat) (l:List Int),recs.length≤j→(D.pl.set recs.length ((recP ws).take (min torn ((recP ws).length-1)).toNat))[j]?=some l→wholeP l=false:=fun j l hj hl2=>by
  by_cases e:j=recs.length
  ·subst e
   rw [List.getElem?_set_self (by omega)] at hl2
   cases hl2
   exact hnw
  ·rw [List.getElem?_set_ne (fun h=>e h.symm)] at hl2
   exact h3 j l hj hl2
 refine⟨⟨fun j vs hj=>?_,h1.len,h1.fine,h1.ne,h1.lt,fun l hl2=>hall _ l (Nat.le_refl _) hl2⟩,by simp [h2],hall⟩
 have hj2:=(List.getElem?_eq_some_iff.1 hj).1
 show (D.pl.set recs.length _)[j]?=_
 rw [List.getElem?_set_ne (by omega)]
 exact h1.at_ j vs hj
theorem DskG.cut {D:Dsk} {recs:List (List (Int × Int))} (h:DskG D recs) (b:Bool) (n:Int):DskG { D with cut:=b,left:=n } recs:=⟨⟨h.1.at_,h.1.len,h.1.fine,h.1.ne,h.1.lt,h.1.end_⟩,h.2.1,h.2.2⟩
end Go.Proofs.YtjefgmeejhakbaaGreatDoor
