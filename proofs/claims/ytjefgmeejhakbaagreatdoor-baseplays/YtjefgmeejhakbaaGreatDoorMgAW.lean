/- LawRow FxOverB EpAct BpRef BpCom BpSt BpPair BpOps FxLen: put together for a claim. -/
import Derived.Test.YtjefgmeejhakbaaGreatDoorMgAC
import Derived.Test.YtjefgmeejhakbaaGreatDoorMgBC
import Derived.Test.YtjefgmeejhakbaaGreatDoorFxAlike
import Derived.Test.YtjefgmeejhakbaaGreatDoorMgAY
import Derived.Test.YtjefgmeejhakbaaGreatDoorGsInst
import Derived.Test.YtjefgmeejhakbaaGreatDoorMgAX
import Derived.Test.YtjefgmeejhakbaaGreatDoorMgBD
/- Lists of acts, and of writes, that came in: law's. -/
namespace Go.Proofs.YtjefgmeejhakbaaGreatDoor
open Go.ChangeShapes Go.WideShapes Go.ChangeAt Go.RowKit
theorem tryd_cells_lact:Tryz.prog.cellsOf 53=4:=by kernel_rfl
section
variable {H:Type} {enc:TypeId × Value→H}
set_option maxRecDepth 100000 in
theorem open_lacts {W:World} {base:Nat} {v:Value} {d:DataW H} {p:List MemPlace} (hv:Value.okWide Tryz.prog W .any base 42 v) (h:DataW.Trod enc Tryz.prog W 0 (fun _=>true) true 42 v d p):∃ ad n cap,v=.slice ad n cap∧LActsAt W ad n:=by
 obtain⟨ad,n,cap,rfl⟩:=okWide_slice Tryz.underlying42 hv
 refine⟨ad,n,cap,rfl,?_⟩
 obtain⟨fuel,hf⟩:=h
 rcases Go.Deep.open_slice Tryz.underlying42 hf with ⟨e,_⟩ | ⟨a,len,cp,m,n',D,Pl,e,_,hl,_,hm,_,hx⟩
 ·simp [Value.cells] at e
  obtain⟨rfl,rfl,rfl⟩:=e
  intro i hi
  omega
 ·simp [Value.cells] at e
  obtain⟨rfl,rfl,rfl⟩:=e
  have hm':m=cap:=by simpa using hm
  have each:∀ i,i<m→∃ (v0 v1 v2 v3:Value),W.cell? (a.add (i*4))=some v0∧W.cell? (a.add (i*4+1))=some v1∧W.cell? (a.add (i*4+2))=some v2∧W.cell? (a.add (i*4+3))=some v3 ∧
    (∃ y,DataW.trod enc Tryz.prog W 0 (fun _=>true) true (n' - 1) 3 [v0]=some y)∧(∃ y,DataW.trod enc Tryz.prog W 0 (fun _=>true) true (n' - 1) 3 [v1]=some y)∧(∃ y,DataW.trod enc Tryz.prog W 0 (fun _=>true) true (n' - 1) 3 [v2]=some y)∧(∃ y,DataW.trod enc Tryz.prog W 0 (fun _=>true) true (n' - 1) 3 [v3]=some y):=by
   intro i hi
   obtain⟨cs',h1,h2⟩:=hx i hi
   rw [tryd_cells_lact] at h1
   obtain⟨_,hlen,hcell⟩:=World.cells?_some h1
   obtain⟨xs,k,hk,hxy,_,hxl,hf'⟩:=DataW.trod_struct Tryz.underlying53 h2
   have hk':k=n' - 1:=by omega
   subst hk'
   match xs,hxl,cs',hlen with
   | [y0,y1,y2,y3],_,[v0,v1,v2,v3],_ =>
    have g0:=hf' 0 _ rfl
    have g1:=hf' 1 _ rfl
    have g2:=hf' 2 _ rfl
    have g3:=hf' 3 _ rfl
    simp [tryd_cells3] at g0 g1 g2 g3
    have e0:=hcell 0 (by omega)
    have e1:=hcell 1 (by omega)
    have e2:=hcell 2 (by omega)
    have e3:=hcell 3 (by omega)
    rw [Go.Deep.add_add] at e0 e1 e2 e3
    exact⟨v0,v1,v2,v3,by simpa using e0,by simpa using e1,by simpa using e2,by simpa using e3,⟨y0,g0⟩,⟨y1,g1⟩,⟨y2,g2⟩,⟨y3,g3⟩⟩
  intro i hi
  obtain⟨_,_,_,_,h00,_⟩:=each 0 (by omega)
  obtain⟨b,off,rfl⟩:=addr_plain (by simpa using h00)
  obtain⟨v0,v1,v2,v3,h0,h1,h2,h3,⟨_,t0⟩,⟨_,t1⟩,⟨_,t2⟩,⟨_,t3⟩⟩:=each i (by omega)
  rw [Addr.add_mid] at h0 h1 h2 h3
  obtain⟨q0,e0,_⟩:=DataW.trod_int Tryz.underlying3 t0
  obtain⟨q1,e1,_⟩:=DataW.trod_int Tryz.underlying3 t1
  obtain⟨q2,e2,_,g2⟩:=DataW.trod_int Tryz.underlying3 t2
  obtain⟨q3,e3,_⟩:=DataW.trod_int Tryz.underlying3 t3
  rw [(List.cons.inj e0).1] at h0
  rw [(List.cons.inj e1).1] at h1
  rw [(List.cons.inj e2).1] at h2
  rw [(List.cons.inj e3).1] at h3
  exact⟨b,off,q0,q1,q2,q3,rfl,i64_of_wf g2,h0,h1,h2,h3⟩
end
end Go.Proofs.YtjefgmeejhakbaaGreatDoor
/- Over, both of them: what they tell and what they leave. -/
namespace Go.Proofs.YtjefgmeejhakbaaGreatDoor
open Go.RowKit
def rengO (t:Int) (ws:List (Int × Int)):REng:={ reng0 with last:=t,kept:=addTo t ws 10 }
theorem relO {t:Int} {ws:List (Int × Int)} (ht:0<t∧t≤1099511627776) (hf:∀ p∈ws,Fine p):Rel 10000 (engO t ws) (rengO t ws) where
 len:=rfl
 le:=by show 0≤200;omega
 tx:=fun i t r ht=>by simp [engO,eng0] at ht
 last:=rfl
 T:=rfl
 good:=good0
 mem:=fun k x hx=>by simp [engO,eng0] at hx
 doc:=by
  have:=rel0.doc.inst (t:=t) (ws:=ws) (by show (0:Int)<t;omega) hf
  exact this
 lb:=by show 0≤t∧t≤1099511627776;omega
 tim:=fun x hx=>by
  have:=mem_addTo t ws 10 x hx
  omega
 wr:=fun _ _=>rfl
 wrc:=fun c x hx=>by simp [engO,eng0] at hx
 nw:=Nat.le_refl _
 coms:=fun j hj=>by simp [engO,eng0] at hj
 comn:=List.nodup_nil
 hist:=rfl
 bg:=fun r hr=>by simp [rengO,reng0] at hr
 bae:=fun t ht=>by simp [engO,eng0] at ht
 ord:=fun i j ri rj tj h=>by simp [rengO,reng0] at h
 s0:=by show (0:Int)≤0;omega
 wy:=fun t ht=>by simp [engO,eng0] at ht
 sz:=by
  have:=addTo_length t ws 10
  refine⟨0,fun r hr=>by simp [rengO,reng0] at hr,by show (0:Int)≤0;omega,Nat.le_refl _,?_⟩
  show 0+1000*0+1000*(addTo t ws 10).length≤10000
  omega
theorem mid2O (t:Int) (ws:List (Int × Int)):Mid2 (engO t ws).ce noQ:=by
 have h0:=mid0_eng0
 exact⟨h0.loc,h0.reg⟩
theorem over_fine (t:Int) (ws:List (Int × Int)) (hn:ws.length≤20) (h:(t=0∧ws=[])∨(0<t∧t≤1099511627776∧∀ p∈ws,Fine p)) :
    (∀ w ad cap,WsAt w ad ws→(Calls Tryz.prog 17 #[.int .i64 t,.slice ad ws.length cap] w fun e w'=>∃ M,e=.returned (.tuple #[.pointer (some ⟨M.R,0,none⟩),.agg #[.int .i64 0,.int .i64 (-1)]])∧RefAt w' M 10000 (engO t ws)∧Below w.heap.size w w'∧∀ g,M.own g→w.heap.size≤g) ∧
      (Calls Tryz.prog 18 #[.int .i64 t,.slice ad ws.length cap] w fun e w'=>∃ L,e=.returned (.tuple #[.pointer (some ⟨L.s,0,none⟩),.nilIface])∧EnAt w' L (engO t ws)∧Below w.heap.size w w'∧∀ g,L.own g→w.heap.size≤g)):=by
  by_cases hz:t=0∧ws=[]
  · obtain⟨rfl,rfl⟩:=hz
    refine (fun w ad cap _=>⟨?_,?_⟩)
    · refine (rover_fresh ad cap w).mono ?_
      rintro e w' ⟨M,he,h1,h2,h3⟩
      exact⟨M,he,⟨reng0,h1,rel0.mono (by omega)⟩,h2,h3⟩
    · exact over_fresh ad cap w
  · obtain⟨h1,h2,h3⟩:=h.resolve_left hz
    have hz':¬ (t=0∧ws.length=0):=fun e=>hz ⟨e.1,List.eq_nil_of_length_eq_zero e.2⟩
    have hrel:=relO ⟨h1,h2⟩ h3
    refine (fun w ad cap hA=>⟨?_,?_⟩)
    · have key:Calls Tryz.prog 17 #[.int .i64 t,.slice ad ws.length cap] w fun e w'=>∃ M,e=.returned (.tuple #[.pointer (some ⟨M.R,0,none⟩),.agg #[.int .i64 0,.int .i64 (-1)]])∧REnAt w' M (rengO t ws)∧Below w.heap.size w w'∧∀ g,M.own g→w.heap.size≤g:=by
        refine rover_ok t (rengO t ws) ad ws.length cap w hz' (fun w1 M hE hB hO=>?_)
        by_cases hne:ws=[]
        · subst hne
          refine (refInst_empty (P:=M.tail reng0.step) (M.R+1) M.R cap ad reng0.last t M.lv reng0.kept w1 hE.sto h1 h2).mono ?_
          rintro e w2 ⟨rfl,hS,hK⟩
          have e0:addTo t [] 10=[]:=by simp [addTo,lastN]
          have hS':Ref (M.tail reng0.step) w2 (M.R+1) M.R t M.lv (addTo t [] 10):=by rw [e0];exact hS
          obtain⟨a1,a2⟩:=hE.setSto hS' hK (fun g hg=>.inl hg)
          exact⟨rfl,_,rfl,a1,a2⟩
        · obtain⟨b,off,rfl,hb,hr⟩:=hA hne
          have hs:w1.heap[b]?=w.heap[b]?:=(hB.block b (by omega)).trans (Below.heap_alloc _ _ b hb)
          have hlt:=hE.lt
          have hbR:b≠M.R:=fun e=>by have:=hO M.R (.inl rfl);omega
          refine (refInst_good (P:=M.tail reng0.step) (M.R+1) M.R b off cap reng0.last t M.lv reng0.kept ws w1 hE.sto hlt (hr.same hs) hbR (by have:=hB.size;simp at this;omega) h3 h1 h2 (by omega) (by show 0≤10000;omega)).mono ?_
          rintro e w2 ⟨rfl,lv',hS,hK,hsub⟩
          obtain⟨a1,a2⟩:=hE.setSto hS hK hsub
          exact⟨rfl,{ M with lv:=lv' },rfl,a1,a2⟩
      refine key.mono ?_
      rintro e w' ⟨M,he,k1,k2,k3⟩
      exact⟨M,he,⟨rengO t ws,k1,hrel⟩,k2,k3⟩
    · refine over_ok t (engO t ws) ad ws.length cap w hz' (fun w1 L hE hB hO=>?_)
      by_cases hne:ws=[]
      · subst hne
        refine (install_empty (L.s+1) L.s cap ad eng0.last t L.vs eng0.ks w1 hE.sto h1 h2).mono ?_
        rintro e w2 ⟨rfl,vs',hS,hK⟩
        obtain⟨a1,a2⟩:=hE.setSto hS hK
        exact⟨rfl,{ L with vs:=vs' },rfl,a1,a2⟩
      · obtain⟨b,off,rfl,hb,hr⟩:=hA hne
        refine (install_good (L.s+1) L.s b off cap 0 t L.vs (List.replicate 10 []) ws w1 hE.sto (by have:=hE.sto.lt;omega) (hr.same (hB.block b hb)) (fun hv=>by have:=hO b (.inr (.inl hv));omega) (fun e=>by have:=hO L.s (.inl rfl);omega) (Nat.lt_of_lt_of_le hb hB.size) h3 (by omega) h2 (by omega) (fun l hl=>by simp at hl;rw [hl];simp)).mono ?_
        rintro e w2 ⟨rfl,vs',hS,hK⟩
        obtain⟨a1,a2⟩:=hE.setSto hS hK
        exact⟨rfl,{ L with vs:=vs' },rfl,a1,a2⟩
end Go.Proofs.YtjefgmeejhakbaaGreatDoor
/- Both engines, one act behind the other. -/
namespace Go.Proofs.YtjefgmeejhakbaaGreatDoor
open Go.RowKit
section
variable {b0:Nat} {w0 w w':World} {L:EnL} {M:REnL} {B B':Nat} {E:Eng}
theorem DuoOk.posts (h:DuoOk b0 w L M B E):ActPost b0 L M B w w:=⟨L,M,E,h,Below.refl _ _,rfl,rfl,KeptO.refl _ _⟩
theorem ActPost.below (h:ActPost b0 L M B w0 w) (hB:Below w.heap.size w w'):ActPost b0 L M B w0 w':=by
 obtain⟨L',M',E',a,b,c,d,k⟩:=h
 have hle:=a.le
 have hsz:=hB.size
 exact⟨L',M',E',⟨a.duo.below hB,a.mid,a.low,by omega,a.pos,a.hand.below hB (by have:=a.pos;omega)⟩,b.trans (hB.mono hle),c,d,k.trans (KeptO.of_below hB)⟩
theorem ActPost.act (h:ActPost b0 L M B w0 w) (hB:B+30000≤10000000) (wh tx key val:Int) (hk:I64 key) :
  Calls Tryz.prog 20 #[.pointer (some ⟨L.s,0,none⟩),.pointer (some ⟨M.R,0,none⟩),.agg #[.int .i64 wh,.int .i64 tx,.int .i64 key,.int .i64 val]] w fun e w'=>e=.returned (.bool true)∧ActPost b0 L M (B+30000) w0 w':=by
 obtain⟨L',M',E',hD,hB1,e1,e2,k1⟩:=h
 have:=act_any hD hB wh tx key val hk
 rw [e1,e2] at this
 refine this.mono ?_
 rintro e w' ⟨he,L2,M2,E2,hD2,hB2,e3,e4,k2⟩
 exact⟨he,L2,M2,E2,hD2,hB1.trans hB2,e3.trans e1,e4.trans e2,k1.trans k2⟩
theorem ActPost.alike (h:ActPost b0 L M B w0 w) (hB:B≤10000000) :
  Calls Tryz.prog 21 #[.pointer (some ⟨L.s,0,none⟩),.pointer (some ⟨M.R,0,none⟩)] w fun e w'=>e=.returned (.bool true)∧ActPost b0 L M B w0 w':=by
 have h':=h
 obtain⟨L',M',E',hD,hB1,e1,e2,k1⟩:=h
 have:=alike_true hD hB
 rw [e1,e2] at this
 exact this.mono (fun e w' hh=>⟨hh.1,h'.below hh.2⟩)
end
end Go.Proofs.YtjefgmeejhakbaaGreatDoor
/- The document's base, in memory: Cut, Open, NewBase. -/
namespace Go.Proofs.YtjefgmeejhakbaaGreatDoor
open Go.RowKit
def rbP (R:Nat) (used:Int) (down off:Bool) (left:Int):Gs.GTail:=⟨.pointer (some ⟨R,0,none⟩),[.int .i64 used,.bool down,.bool off,.int .i64 left],107⟩
def RbAt (w:World) (c R:Nat) (lv:Value) (last:Int) (kept:List (Int × Int × Int)) (used:Int) (down off:Bool) (left:Int):Prop:=Gs.Ref (rbP R used down off left) w (c+1) c last lv kept
def oR (c:Nat) (lv:Value) (g:Nat):Prop:=g=c∨lv.ownBlock=some g
section
variable {w w':World} {c R:Nat} {lv:Value} {last:Int} {kept:List (Int × Int × Int)} {used left:Int} {down off:Bool}
theorem RbAt.own_lt (h:RbAt w c R lv last kept used down off left) {g:Nat} (hg:oR c lv g):g<w.heap.size:=by
 rcases hg with rfl | hg
 ·exact Gs.Ref.lt h
 ·exact (h.own.lt g hg).2
theorem RbAt.same (h:RbAt w c R lv last kept used down off left) (hs:∀ g,oR c lv g→w'.heap[g]?=w.heap[g]?):RbAt w' c R lv last kept used down off left :=
 Gs.Ref.kept h (hs c (.inl rfl)) (fun g hg=>hs g (.inr hg))
theorem RbAt.below (h:RbAt w c R lv last kept used down off left) (hB:Below w.heap.size w w'):RbAt w' c R lv last kept used down off left:=h.same (fun g hg=>hB.block g (h.own_lt hg))
theorem RbAt.cell (h:RbAt w c R lv last kept used down off left) (o:Nat):w.cell? ⟨c,o,none⟩=(#[Value.pointer (some ⟨R,0,none⟩),lv,.int .i64 last,.int .i64 used,.bool down,.bool off,.int .i64 left])[o]?:=cell_of_row w c o _ _ (0,0) h.blk
theorem RbAt.free (h:RbAt w c R lv last kept used down off left) (o:Nat):w.frozen? ⟨c,o,none⟩=false:=by simp [World.frozen?,h.blk]
theorem RbAt.turn {R':Nat} {used' left':Int} {down' off':Bool} (h:RbAt w c R lv last kept used down off left) {o:Nat} {v:Value} (hc:(#[Value.pointer (some ⟨R,0,none⟩),lv,.int .i64 last,.int .i64 used,.bool down,.bool off,.int .i64 left]).setIfInBounds o v=#[Value.pointer (some ⟨R',0,none⟩),lv,.int .i64 last,.int .i64 used',.bool down',.bool off',.int .i64 left']) :
  RbAt (w.setCell ⟨c,o,none⟩ v) c R' lv last kept used' down' off' left'∧KeptO (oR c lv) (oR c lv) w (w.setCell ⟨c,o,none⟩ v):=by
 refine⟨⟨(setCell_at h.blk).trans ?_,owns_same h.own (fun g hg=>heap_setCell_other _ _ _ _ (show g≠c by have:=(h.own.lt g hg).1;omega)),h.nl,h.rb⟩,rfl,rfl,rfl,by simp,fun g _ hn=>heap_setCell_other _ _ _ _ (fun e=>hn (.inl e)),fun g hg=>.inl hg⟩
 have h2:(Gs.gcells (rbP R used down off left) lv last).setIfInBounds o v=Gs.gcells (rbP R' used' down' off' left') lv last:=hc
 rw [h2]
 rfl
set_option maxRecDepth 100000 in
set_option maxHeartbeats 1000000 in
theorem rcut_any (h:RbAt w c R lv last kept used down off left) (n:Int):Calls Tryz.prog 46 #[.pointer (some ⟨c,0,none⟩),.int .i64 n] w fun e w'=>e=.returned (.tuple #[])∧RbAt w' c R lv last kept used down (decide (n≥0)) n∧KeptO (oR c lv) (oR c lv) w w':=by
 have c5:=h.cell 5
 simp only [List.getElem?_toArray,List.getElem?_cons_zero,List.getElem?_cons_succ] at c5
 have f5:=h.free 5
 obtain⟨h1,k1⟩:=h.turn (o:=5) (v:=.bool (decide (n≥0))) (R':=R) (used':=used) (down':=down) (off':=decide (n≥0)) (left':=left) rfl
 have c6:=h1.cell 6
 simp only [List.getElem?_toArray,List.getElem?_cons_zero,List.getElem?_cons_succ] at c6
 have f6:=h1.free 6
 obtain⟨h2,k2⟩:=h1.turn (o:=6) (v:=.int .i64 n) (R':=R) (used':=used) (down':=down) (off':=decide (n≥0)) (left':=n) rfl
 have HF:=hid (And.intro h2 (k1.trans k2))
 clear h h1 k1 h2 k2
 go_enter Tryz.func46,Tryz.ntmps46
 go_wp2
 refine bodyPost_end (results_none rfl _ _ _) rfl ?_
 exact⟨rfl,HF.out⟩
set_option maxRecDepth 100000 in
set_option maxHeartbeats 1000000 in
theorem newBase_any (w:World):Calls Tryz.prog 41 #[] w fun e w'=>∃ c M,e=.returned (.pointer (some ⟨c,0,none⟩))∧RbAt w' c M.R (.slice none 0 0) 0 [] 0 false false 0∧RefAt w' M 0 eng0∧Below w.heap.size w w'∧(∀ g,M.own g→w.heap.size≤g)∧w.heap.size≤c∧¬ M.own c:=by
 have HN:Hid (Calls Tryz.prog 74 #[] w fun e w'=>∃ M,e=.returned (.pointer (some ⟨M.R,0,none⟩))∧REnAt w' M reng0∧Below w.heap.size w w'∧∀ g,M.own g→w.heap.size≤g):=rnew_any w
 go_enter Tryz.func41,Tryz.ntmps41
 go_wp2_with fail
 refine HN.out.mono ?_
 rintro e w1 ⟨M,rfl,hE,hB,hO⟩
 have HE:=hid (And.intro hE (And.intro hB hO))
 clear hE hB hO HN
 go_wp2
 go_ret
 have hs:=HE.out.2.1.size
 refine⟨w1.heap.size,M,rfl,⟨heap_alloc_new w1 _,World.ownsRow_nil _ _ _ _,fun _=>rfl,Nat.lt_succ_self _⟩,⟨reng0,HE.out.1.below ((Below.refl _ w1).alloc (Nat.le_refl _) _),rel0⟩,HE.out.2.1.alloc hs _,HE.out.2.2,hs,fun ho=>by have:=HE.out.1.own_lt ho;omega⟩
set_option maxRecDepth 100000 in
set_option maxHeartbeats 4000000 in
theorem ropen_any (h:RbAt w c R lv last kept used down off left) (hl:kept.length≤10000) (ws:List (Int × Int)) (hws:allK (fun k=>best k used kept) 10=ws) (hn:ws.length≤20) (hfine:(used=0∧ws=[])∨(0<used∧used≤1099511627776∧∀ p∈ws,Fine p)) :
    Calls Tryz.prog 42 #[.pointer (some ⟨c,0,none⟩)] w fun e w'=>e=.returned (.tuple #[])∧∃ M,RbAt w' c M.R lv last kept used false off left∧RefAt w' M 10000 (engO used ws)∧KeptO (oR c lv) (oR c lv) w w'∧(∀ g,M.own g→w.heap.size≤g):=by
  have c3:=h.cell 3
  have c0:=h.cell 0
  simp only [List.getElem?_toArray,List.getElem?_cons_zero,List.getElem?_cons_succ] at c3 c0
  have f0:=h.free 0
  have f4:=h.free 4
  have hclt:=h.own_lt (.inl rfl)
  have HS:=hid (fun W (hW:Below w.heap.size w W)=>And.intro ((hW.cell (p:=⟨c,3,none⟩) hclt).trans c3) (And.intro ((hW.cell (p:=⟨c,0,none⟩) hclt).trans c0) ((hW.frozen (p:=⟨c,0,none⟩) hclt).trans f0)))
  have HA:Hid (∀ W,Below w.heap.size w W→Calls Tryz.prog 88 #[.pointer (some ⟨c,1,none⟩),.int .i64 used] W fun e w'=>∃ ad cap,e=.returned (.slice ad ws.length cap)∧WsAt w' ad ws∧Below W.heap.size W w'):=fun W hW=>by
    have:=Gs.refAll_any (c+1) c used last lv kept W (by omega) (h.below hW)
    rw [hws] at this
    refine this.mono ?_
    rintro e w' ⟨tv,rfl,ho,hb⟩
    obtain⟨ad,cap,rfl⟩:=row_form ho
    refine⟨ad,cap,rfl,fun hne=>?_,hb⟩
    rcases row_slice ho with ⟨_,e0⟩ | ⟨g,c',e,hg,hc⟩
    · exact (hne (List.eq_nil_of_length_eq_zero e0)).elim
    · injection e with e1 e2 e3
      exact⟨g,0,e1,hg,vrow_wrow hc⟩
  have HO:=hid (fun W ad cap (hA:WsAt W ad ws)=>(over_fine used ws hn hfine W ad cap hA).1)
  have HH:=hid h
  have d0:Hid (Below w.heap.size w w.drew):=below_drewN (Below.refl _ w) 1
  clear h hws hfine hl hn
  go_enter Tryz.func42,Tryz.ntmps42
  go_wp2
  go_region_held3 (fun W=>W.cell? ⟨c,3,none⟩=some (.int .i64 used))
    (first
      | go_keep
      | exact (HS.out _ d0.out).1
      | exact (HS.out _ b2.out).1
      | exact (HS.out _ b3.out).1)
    (first
      | (go_at_call 88
         refine (HA.out _ d0.out).mono ?_
         rintro e w2 ⟨ad,cap,rfl,hW2,hb2⟩
         have b2:=hid (d0.out.trans (hb2.mono d0.out.size))
         have HW2:=hid hW2
         clear hb2 hW2)
      | (go_at_call 17
         refine (HO.out _ _ _ HW2.out).mono ?_
         rintro e w3 ⟨M,rfl,hR3,hb3,hO3⟩
         have b3:=hid (b2.out.trans (hb3.mono b2.out.size))
         have HR3:=hid (And.intro hR3 hO3)
         obtain⟨_,e0,ef0⟩:=HS.out _ b3.out
         have HT:=hid ((HH.out.below b3.out).turn (o:=0) (v:=.pointer (some ⟨M.R,0,none⟩)) (R':=M.R) (used':=used) (down':=down) (off':=off) (left':=left) rfl)
         have e3:=HT.out.1.cell 3
         have e4:=HT.out.1.cell 4
         have ef4:=HT.out.1.free 4
         simp only [List.getElem?_toArray,List.getElem?_cons_zero,List.getElem?_cons_succ] at e3 e4
         clear hb3 hR3 hO3)
      | fail)
  all_goals
    obtain⟨h5,k5⟩:=HT.out.1.turn (o:=4) (v:=.bool false) (R':=M.R) (used':=used) (down':=false) (off':=off) (left':=left) rfl
    have H5:=hid (And.intro h5 (((KeptO.of_below b3.out).trans HT.out.2).trans k5))
    clear h5 k5
    go_wp2
    refine bodyPost_end (results_none rfl _ _ _) rfl ?_
    have hsz:=b2.out.size
    refine⟨rfl,M,H5.out.1,HR3.out.1.same (fun g hg=>?_),H5.out.2,fun g hg=>Nat.le_trans hsz (HR3.out.2 g hg)⟩
    have hne:g≠c:=by have:=HR3.out.2 g hg;omega
    exact (heap_setCell_other _ _ _ _ hne).trans (heap_setCell_other _ _ _ _ hne)
end
end Go.Proofs.YtjefgmeejhakbaaGreatDoor
/- The document's base: Commit. -/
namespace Go.Proofs.YtjefgmeejhakbaaGreatDoor
open Go.RowKit
section
variable {w w':World} {c:Nat} {M:REnL} {B:Nat} {E:Eng} {lv:Value} {last:Int} {kept:List (Int × Int × Int)} {used left:Int} {down off:Bool}
set_option maxRecDepth 100000 in
set_option maxHeartbeats 1000000 in
theorem rbc_miss (h:RbAt w c M.R lv last kept used down off left) (hR:RefAt w M B E) {n:Int} (hn:n<1∨(E.txs.length:Int)<n) :
  Calls Tryz.prog 44 #[.pointer (some ⟨c,0,none⟩),.int .i64 n] w fun e w'=>e=.returned (.int .i64 7)∧w'=w:=by
 have c0:=h.cell 0
 simp only [List.getElem?_toArray,List.getElem?_cons_zero] at c0
 have HW:=hid (hR.writes_miss hn)
 clear h hR hn
 go_enter Tryz.func44,Tryz.ntmps44
 go_wp2_with fail
 refine HW.out.mono ?_
 rintro e w1 ⟨rfl,hw1⟩
 rw [hw1]
 clear hw1 w1 HW
 go_wp2
 go_ret
 exact⟨rfl,rfl⟩
structure RcAsk (M:REnL) (B:Nat) (E:Eng) (n rd:Int) (ws:List (Int × Int)):Prop where
 wr:∀ W,RefAt W M B E→Calls Tryz.prog 91 #[.pointer (some ⟨M.R,0,none⟩),.int .i64 n] W fun e w'=>∃ tv,e=.returned (.tuple #[tv,.int .i64 0])∧w'.ownsRow W.heap.size 78 2 tv ws.length (vrow ws)∧Below W.heap.size W w'
 rd:∀ W,RefAt W M B E→Calls Tryz.prog 85 #[.pointer (some ⟨M.R,0,none⟩),.int .i64 n] W fun e w'=>e=.returned (.int .i64 rd)∧w'=W
set_option maxRecDepth 100000 in
set_option maxHeartbeats 1000000 in
theorem rbc_plain (h:RbAt w c M.R lv last kept used down off left) (hR:RefAt w M B E) {n rd code:Int} {ws:List (Int × Int)} (hA:RcAsk M B E n rd ws) (hp:rd≠0∨ws=[]) {Q:World→World→Prop}
  (hC:∀ W,RefAt W M B E→Calls Tryz.prog 80 #[.pointer (some ⟨M.R,0,none⟩),.int .i64 n] W fun e w'=>e=.returned (.int .i64 code)∧Q W w') :
  Calls Tryz.prog 44 #[.pointer (some ⟨c,0,none⟩),.int .i64 n] w fun e w'=>e=.returned (.int .i64 code)∧∃ w1,Below w.heap.size w w1∧Q w1 w':=by
 have c0:=h.cell 0
 simp only [List.getElem?_toArray,List.getElem?_cons_zero] at c0
 have HH:=hid (And.intro h hR)
 have HA:=hid hA
 have HC:=hid hC
 clear h hR hA hC
 go_enter Tryz.func44,Tryz.ntmps44
 go_wp2_with fail
 refine (HA.out.wr w HH.out.2).mono ?_
 rintro e w1 ⟨tv,rfl,hrow,hB1⟩
 obtain⟨ad,cap,rfl⟩:=row_form hrow
 have H1:=hid (And.intro hB1 (And.intro (HH.out.1.below hB1) (HH.out.2.below hB1)))
 have d0:=H1.out.2.1.cell 0
 simp only [List.getElem?_toArray,List.getElem?_cons_zero] at d0
 clear hrow hB1 c0
 go_wp2_with fail
 refine (HA.out.rd w1 H1.out.2.2).mono ?_
 rintro e w2 ⟨rfl,hw2⟩
 rw [hw2]
 clear hw2 w2
 by_cases hr0:rd=0
 ·subst hr0
  obtain rfl:=hp.resolve_left (fun h=>h rfl)
  clear hp
  go_wp2_with fail
  refine (HC.out w1 H1.out.2.2).mono ?_
  rintro e w3 ⟨rfl,hQ⟩
  have HQ:=hid hQ
  clear hQ
  go_wp2
  go_ret
  exact⟨rfl,w1,H1.out.1,HQ.out⟩
 ·have hz:(rd != 0)=true:=by simpa using hr0
  clear hp hr0
  go_wp2_with fail
  refine (HC.out w1 H1.out.2.2).mono ?_
  rintro e w3 ⟨rfl,hQ⟩
  have HQ:=hid hQ
  clear hQ
  go_wp2
  go_ret
  exact⟨rfl,w1,H1.out.1,HQ.out⟩
set_option maxRecDepth 100000 in
set_option maxHeartbeats 1000000 in
theorem rbc_down (h:RbAt w c M.R lv last kept used true off left) (hR:RefAt w M B E) {n:Int} {ws:List (Int × Int)} (hA:RcAsk M B E n 0 ws) (hne:ws≠[]) :
  Calls Tryz.prog 44 #[.pointer (some ⟨c,0,none⟩),.int .i64 n] w fun e w'=>e=.returned (.int .i64 6)∧Below w.heap.size w w':=by
 have c0:=h.cell 0
 simp only [List.getElem?_toArray,List.getElem?_cons_zero] at c0
 have HH:=hid (And.intro h hR)
 have HA:=hid hA
 have gl:((ws.length:Int)==0)=false:=beq_false_of_ne (fun e=>hne (List.eq_nil_of_length_eq_zero (by omega)))
 clear h hR hA hne
 go_enter Tryz.func44,Tryz.ntmps44
 go_wp2_with fail
 refine (HA.out.wr w HH.out.2).mono ?_
 rintro e w1 ⟨tv,rfl,hrow,hB1⟩
 obtain⟨ad,cap,rfl⟩:=row_form hrow
 have H1:=hid (And.intro hB1 (And.intro (HH.out.1.below hB1) (HH.out.2.below hB1)))
 have d0:=H1.out.2.1.cell 0
 have d4:=H1.out.2.1.cell 4
 simp only [List.getElem?_toArray,List.getElem?_cons_zero,List.getElem?_cons_succ] at d0 d4
 clear hrow hB1 c0
 go_wp2_with fail
 refine (HA.out.rd w1 H1.out.2.2).mono ?_
 rintro e w2 ⟨rfl,hw2⟩
 rw [hw2]
 clear hw2 w2
 go_wp2
 go_ret
 exact⟨rfl,H1.out.1⟩
set_option maxRecDepth 100000 in
set_option maxHeartbeats 1000000 in
theorem rbc_full (h:RbAt w c M.R lv last kept used false off left) (hR:RefAt w M B E) {n:Int} {ws:List (Int × Int)} (hA:RcAsk M B E n 0 ws) (hne:ws≠[]) (hu:250≤used) :
  Calls Tryz.prog 44 #[.pointer (some ⟨c,0,none⟩),.int .i64 n] w fun e w'=>e=.returned (.int .i64 4)∧Below w.heap.size w w':=by
 have c0:=h.cell 0
 simp only [List.getElem?_toArray,List.getElem?_cons_zero] at c0
 have HH:=hid (And.intro h hR)
 have HA:=hid hA
 have gl:((ws.length:Int)==0)=false:=beq_false_of_ne (fun e=>hne (List.eq_nil_of_length_eq_zero (by omega)))
 have gu:decide (used≥250)=true:=decide_eq_true hu
 clear h hR hA hne hu
 go_enter Tryz.func44,Tryz.ntmps44
 go_wp2_with fail
 refine (HA.out.wr w HH.out.2).mono ?_
 rintro e w1 ⟨tv,rfl,hrow,hB1⟩
 obtain⟨ad,cap,rfl⟩:=row_form hrow
 have H1:=hid (And.intro hB1 (And.intro (HH.out.1.below hB1) (HH.out.2.below hB1)))
 have d0:=H1.out.2.1.cell 0
 have d3:=H1.out.2.1.cell 3
 have d4:=H1.out.2.1.cell 4
 simp only [List.getElem?_toArray,List.getElem?_cons_zero,List.getElem?_cons_succ] at d0 d3 d4
 clear hrow hB1 c0
 go_wp2_with fail
 refine (HA.out.rd w1 H1.out.2.2).mono ?_
 rintro e w2 ⟨rfl,hw2⟩
 rw [hw2]
 clear hw2 w2
 go_wp2
 go_ret
 exact⟨rfl,H1.out.1⟩
set_option maxRecDepth 100000 in
set_option maxHeartbeats 1000000 in
theorem rbc_dark (h:RbAt w c M.R lv last kept used false true 0) (hR:RefAt w M B E) {n:Int} {ws:List (Int × Int)} (hA:RcAsk M B E n 0 ws) (hne:ws≠[]) (hu:used<250) :
  Calls Tryz.prog 44 #[.pointer (some ⟨c,0,none⟩),.int .i64 n] w fun e w'=>e=.returned (.int .i64 14)∧RbAt w' c M.R lv last kept used true true 0∧KeptO (oR c lv) (oR c lv) w w':=by
 have c0:=h.cell 0
 simp only [List.getElem?_toArray,List.getElem?_cons_zero] at c0
 have HH:=hid (And.intro h hR)
 have HA:=hid hA
 have gl:((ws.length:Int)==0)=false:=beq_false_of_ne (fun e=>hne (List.eq_nil_of_length_eq_zero (by omega)))
 have gu:decide (used≥250)=false:=decide_eq_false (by omega)
 clear h hR hA hne hu
 go_enter Tryz.func44,Tryz.ntmps44
 go_wp2_with fail
 refine (HA.out.wr w HH.out.2).mono ?_
 rintro e w1 ⟨tv,rfl,hrow,hB1⟩
 obtain⟨ad,cap,rfl⟩:=row_form hrow
 have H1:=hid (And.intro hB1 (And.intro (HH.out.1.below hB1) (HH.out.2.below hB1)))
 have d0:=H1.out.2.1.cell 0
 have d3:=H1.out.2.1.cell 3
 have d4:=H1.out.2.1.cell 4
 have d5:=H1.out.2.1.cell 5
 have d6:=H1.out.2.1.cell 6
 have f4:=H1.out.2.1.free 4
 simp only [List.getElem?_toArray,List.getElem?_cons_zero,List.getElem?_cons_succ] at d0 d3 d4 d5 d6
 clear hrow hB1 c0
 go_wp2_with fail
 refine (HA.out.rd w1 H1.out.2.2).mono ?_
 rintro e w2 ⟨rfl,hw2⟩
 rw [hw2]
 clear hw2 w2
 obtain⟨h5,k5⟩:=H1.out.2.1.turn (o:=4) (v:=.bool true) (R':=M.R) (used':=used) (down':=true) (off':=true) (left':=0) rfl
 have H5:=hid (And.intro h5 ((KeptO.of_below H1.out.1).trans k5))
 clear h5 k5
 go_wp2
 go_ret
 exact⟨rfl,H5.out⟩
set_option maxRecDepth 100000 in
set_option maxHeartbeats 2000000 in
theorem rbc_ok (h:RbAt w c M.R lv used kept used false off left) (hR:RefAt w M B E) (hdis:∀ g,oR c lv g→¬ M.own g) {n left':Int} {ws:List (Int × Int)} (hA:RcAsk M B E n 0 ws) (hne:ws≠[]) (hu:0≤used∧used<250) (hpw:off=true→left≠0) (hl:IntKind.i64.wrap (left-1)=left') (hf:∀ p∈ws,Fine p) (hwn:ws.length≤1000) (hkl:kept.length≤10000) {Q:World→World→Prop}
  (hC:∀ W,RefAt W M B E→Calls Tryz.prog 80 #[.pointer (some ⟨M.R,0,none⟩),.int .i64 n] W fun e w'=>e=.returned (.int .i64 0)∧Q W w') :
  Calls Tryz.prog 44 #[.pointer (some ⟨c,0,none⟩),.int .i64 n] w fun e w'=>e=.returned (.int .i64 0)∧∃ w1 lv',RbAt w1 c M.R lv' (used+1) (kept++addTo (used+1) ws 10) (used+1) false off left'∧KeptO (oR c lv) (oR c lv') w w1∧Q w1 w':=by
 have c0:=h.cell 0
 simp only [List.getElem?_toArray,List.getElem?_cons_zero] at c0
 have HH:=hid (And.intro h hR)
 have HA:=hid hA
 have HC:=hid hC
 have HD:=hid hdis
 have gl:((ws.length:Int)==0)=false:=beq_false_of_ne (fun e=>hne (List.eq_nil_of_length_eq_zero (by omega)))
 have gu:decide (used≥250)=false:=decide_eq_false (by omega)
 have gw:IntKind.i64.wrap (used+1)=used+1:=IntWalk.i64_in _ (by omega)
 have HX:=hid (And.intro hne (And.intro hf (And.intro hwn (And.intro hkl hu))))
 clear h hR hA hne hu hC hdis hf hwn hkl
 go_enter Tryz.func44,Tryz.ntmps44
 go_wp2_with fail
 refine (HA.out.wr w HH.out.2).mono ?_
 rintro e w1 ⟨tv,rfl,hrow,hB1⟩
 have HRow:=hid hrow
 obtain⟨ad,cap,rfl⟩:=row_form hrow
 have H1:=hid (And.intro hB1 (And.intro (HH.out.1.below hB1) (HH.out.2.below hB1)))
 have d0:=H1.out.2.1.cell 0
 have d3:=H1.out.2.1.cell 3
 have d4:=H1.out.2.1.cell 4
 have d5:=H1.out.2.1.cell 5
 have d6:=H1.out.2.1.cell 6
 have f6:=H1.out.2.1.free 6
 simp only [List.getElem?_toArray,List.getElem?_cons_zero,List.getElem?_cons_succ] at d0 d3 d4 d5 d6
 clear hrow hB1 c0
 go_wp2_with fail
 refine (HA.out.rd w1 H1.out.2.2).mono ?_
 rintro e w2 ⟨rfl,hw2⟩
 rw [hw2]
 clear hw2 w2
 obtain⟨h5,k5⟩:=H1.out.2.1.turn (o:=6) (v:=.int .i64 left') (R':=M.R) (used':=used) (down':=false) (off':=off) (left':=left') rfl
 have e3:=h5.cell 3
 have ef3:=h5.free 3
 simp only [List.getElem?_toArray,List.getElem?_cons_zero,List.getElem?_cons_succ] at e3
 obtain⟨h6,k6⟩:=h5.turn (o:=3) (v:=.int .i64 (used+1)) (R':=M.R) (used':=used+1) (down':=false) (off':=off) (left':=left') rfl
 have H6:=hid (And.intro h6 (k5.trans k6))
 have e3':=h6.cell 3
 simp only [List.getElem?_toArray,List.getElem?_cons_zero,List.getElem?_cons_succ] at e3'
 clear h5 k5 h6 k6
 have HIN:Hid (∀ w4:World,RbAt w4 c M.R lv used kept (used+1) false off left'→KeptO (oR c lv) (oR c lv) w1 w4→∀ q,Calls Tryz.prog 75 #[.pointer (some ⟨c,1,none⟩),.int .i64 (used+1),.slice ad ws.length cap] (w4.drewN q) fun e w5=>e=.returned (.agg #[.int .i64 0,.int .i64 (-1)])∧∃ lv',RbAt w5 c M.R lv' (used+1) (kept++addTo (used+1) ws 10) (used+1) false off left'∧KeptO (oR c lv) (oR c lv') w w5∧RefAt w5 M B E):=fun w4 h4 k4 q=>by
  obtain⟨hne,hf,hwn,hkl,hu⟩:=HX.out
  have hcl:=HH.out.1.own_lt (.inl rfl)
  have hs1:=H1.out.1.size
  have hs4:=k4.size
  rcases row_slice HRow.out with ⟨_,e0⟩ | ⟨g,cc,e,hg,hc⟩
  ·exact (hne (List.eq_nil_of_length_eq_zero e0)).elim
  ·injection e with e1 e2 e3
   subst e1
   have hgw:w.heap.size≤g:=(HRow.out.lt g rfl).1
   have hgo:¬ oR c lv g:=fun ho=>by have:=HH.out.1.own_lt ho;omega
   have hsame:(w4.drewN q).heap[g]?=w1.heap[g]?:=by
    have h9:=(below_drewN (Below.refl _ w4) q).block g (by omega)
    exact h9.trans (k4.block g hg hgo)
   have hz:=(below_drewN (Below.refl w4.heap.size w4) q).size
   refine (Gs.refInst_good (P:=rbP M.R (used+1) false off left') (c+1) c g 0 cap used (used+1) lv kept ws (w4.drewN q) (h4.below (below_drewN (Below.refl _ w4) q)) (by omega) ((vrow_wrow hc).same hsame) (by omega) (by omega) hf (by omega) (by omega) hwn hkl).mono ?_
   rintro e w5 ⟨rfl,lv',hS,hK,hsub⟩
   have hq:KeptO (oR c lv) (oR c lv) w1 (w4.drewN q):=k4.trans (KeptO.of_below (below_drewN (Below.refl _ w4) q))
   have hk5:KeptO (oR c lv) (oR c lv') (w4.drewN q) w5:=⟨hK.os,hK.tape,hK.output,hK.size,fun k hk hn=>hK.block k hk (fun e=>hn (.inl e)),fun k hk=>by
    rcases hk with hk | hk
    ·exact .inl (.inl hk)
    ·exact (hsub k hk).imp .inr id⟩
   refine⟨rfl,lv',hS,((KeptO.of_below H1.out.1).trans hq).trans hk5,H1.out.2.2.same (fun k hk=>?_)⟩
   have hko:¬ oR c lv k:=fun ho=>HD.out k ho hk
   have hkl:=H1.out.2.2.own_lt hk
   exact (hk5.block k (by have:=hq.size;omega) hko).trans (hq.block k hkl hko)
 clear HRow
 cases off with
 | true =>
  have hl0:(left==0)=false:=beq_false_of_ne (hpw rfl)
  clear hpw
  go_wp2
  generalize (w1.setCell ⟨c,6,none⟩ (.int .i64 left')).setCell ⟨c,3,none⟩ (.int .i64 (used+1))=w4 at H6 e3' ⊢
  have HI4:=hid (HIN.out w4 H6.out.1 H6.out.2)
  clear HIN d0 d3 d4 d5 d6 f6 e3 ef3
  refine region_quiet_at 8 (by kernel_rfl) (by kernel_rfl) (by kernel_rfl) (by kernel_rfl) (by kernel_rfl) (by kernel_rfl) (by kernel_rfl) ?_
  simp only [List.take_succ_cons,List.take_zero,List.drop_succ_cons,List.drop_zero]
  repeat (go_big_quiet_step (fail))
  refine wpQuiet_nil ?_
  intro _ hw'
  obtain⟨nq,hw2⟩:=hw'
  subst hw2
  go_wp2_with fail
  refine (HI4.out nq).mono ?_
  rintro e w5 ⟨rfl,lv',h7,k7,r7⟩
  have H7:=hid (And.intro h7 (And.intro k7 r7))
  have q0:=h7.cell 0
  simp only [List.getElem?_toArray,List.getElem?_cons_zero] at q0
  clear h7 k7 r7 HI4 H6
  go_wp2_with fail
  refine (HC.out w5 H7.out.2.2).mono ?_
  rintro e w6 ⟨rfl,hQ⟩
  have HQ:=hid hQ
  clear hQ
  go_wp2
  go_ret
  exact⟨rfl,w5,lv',H7.out.1,H7.out.2.1,HQ.out⟩
 | false =>
  clear hpw
  go_wp2
  generalize (w1.setCell ⟨c,6,none⟩ (.int .i64 left')).setCell ⟨c,3,none⟩ (.int .i64 (used+1))=w4 at H6 e3' ⊢
  have HI4:=hid (HIN.out w4 H6.out.1 H6.out.2)
  clear HIN d0 d3 d4 d5 d6 f6 e3 ef3
  refine region_quiet_at 8 (by kernel_rfl) (by kernel_rfl) (by kernel_rfl) (by kernel_rfl) (by kernel_rfl) (by kernel_rfl) (by kernel_rfl) ?_
  simp only [List.take_succ_cons,List.take_zero,List.drop_succ_cons,List.drop_zero]
  repeat (go_big_quiet_step (fail))
  refine wpQuiet_nil ?_
  intro _ hw'
  obtain⟨nq,hw2⟩:=hw'
  subst hw2
  go_wp2_with fail
  refine (HI4.out nq).mono ?_
  rintro e w5 ⟨rfl,lv',h7,k7,r7⟩
  have H7:=hid (And.intro h7 (And.intro k7 r7))
  have q0:=h7.cell 0
  simp only [List.getElem?_toArray,List.getElem?_cons_zero] at q0
  clear h7 k7 r7 HI4 H6
  go_wp2_with fail
  refine (HC.out w5 H7.out.2.2).mono ?_
  rintro e w6 ⟨rfl,hQ⟩
  have HQ:=hid hQ
  clear hQ
  go_wp2
  go_ret
  exact⟨rfl,w5,lv',H7.out.1,H7.out.2.1,HQ.out⟩
end
end Go.Proofs.YtjefgmeejhakbaaGreatDoor
/- Both bases in one world. -/
namespace Go.Proofs.YtjefgmeejhakbaaGreatDoor
open Go.RowKit
def oA (b d:Nat) (dv:List Value) (g:Nat):Prop:=g=b∨dOwn d dv g
structure BpSt (b0:Nat) (w:World) (b d c:Nat) (dv:List Value) (D:Dsk) (lv:Value) (kept:List (Int × Int × Int)) (L:EnL) (M:REnL) (B:Nat) (E:Eng) (recs:List (List (Int × Int))) (torn:Int) (down off:Bool) (left:Int):Prop where
 duo:DuoOk b0 w L M B E
 bas:w.heap[b]?=some (.cells (basCells d L.s recs.length torn down) 193 (0,0))
 dsk:DiskAt w d dv D
 rb:RbAt w c M.R lv recs.length kept recs.length down off left
 sA:∀ g,oA b d dv g→¬ both L M g∧¬ oR c lv g
 sR:∀ g,oR c lv g→¬ both L M g
 sd:∀ g,dOwn d dv g→g≠b
 lA:∀ g,oA b d dv g→b0≤g
 lR:∀ g,oR c lv g→b0≤g
 ok:DskG D recs
 tn:0≤torn
 cut:D.cut=off
 lft:off=true→D.left=left∧0≤left∧left≤9223372036854775807
 sav:Saved recs kept
section
variable {b0:Nat} {w w':World} {b d c:Nat} {dv:List Value} {D:Dsk} {lv:Value} {kept:List (Int × Int × Int)} {L:EnL} {M:REnL} {B B':Nat} {E:Eng} {recs:List (List (Int × Int))} {torn:Int} {down off:Bool} {left:Int}
theorem BpSt.mono (h:BpSt b0 w b d c dv D lv kept L M B E recs torn down off left) (hB:B≤B'):BpSt b0 w b d c dv D lv kept L M B' E recs torn down off left :=
 { h with duo:=⟨h.duo.duo.mono hB,h.duo.mid,h.duo.low,h.duo.le,h.duo.pos,h.duo.hand⟩ }
theorem BpSt.base (h:BpSt b0 w b d c dv D lv kept L M B E recs torn down off left):BasAt w b d L E dv D recs.length torn down :=
 ⟨h.bas,h.dsk,h.duo.duo.en,fun ho=>(h.sA b (.inl rfl)).1 (.inl ho),fun g hg=>⟨fun ho=>(h.sA g (.inr hg)).1 (.inl ho),h.sd g hg⟩⟩
theorem BpSt.lt_A (h:BpSt b0 w b d c dv D lv kept L M B E recs torn down off left) {g:Nat} (hg:oA b d dv g):g<w.heap.size:=by
 rcases hg with rfl | hg
 ·exact h.base.lt
 ·exact h.dsk.own_lt hg
theorem BpSt.below (h:BpSt b0 w b d c dv D lv kept L M B E recs torn down off left) (hB:Below w.heap.size w w'):BpSt b0 w' b d c dv D lv kept L M B E recs torn down off left:=by
 have hs:=hB.size
 have hle:=h.duo.le
 exact { h with duo:=⟨h.duo.duo.below hB,h.duo.mid,h.duo.low,by omega,h.duo.pos,h.duo.hand.below hB (by have:=h.duo.pos;omega)⟩,bas:=(hB.block b h.base.lt).trans h.bas,dsk:=h.dsk.below hB,rb:=h.rb.below hB }
theorem BpSt.act_post (h:BpSt b0 w b d c dv D lv kept L M B E recs torn down off left) (hp:ActPost b0 L M B' w w'):∃ L' M' E',BpSt b0 w' b d c dv D lv kept L' M' B' E' recs torn down off left∧L'.s=L.s∧M'.R=M.R∧Below b0 w w':=by
 obtain⟨L',M',E',hD,hB,e1,e2,hK⟩:=hp
 have new:∀ g,g<w.heap.size→¬ both L M g→¬ both L' M' g:=fun g hg hn ho=>by
  rcases hK.sub g ho with h1 | h1
  ·exact hn h1
  ·omega
 refine⟨L',M',E',⟨hD,?_,h.dsk.same hK.size (fun g hg=>hK.block g (h.dsk.own_lt hg) (h.sA g (.inr hg)).1),?_,fun g hg=>⟨new g (h.lt_A hg) (h.sA g hg).1,(h.sA g hg).2⟩,fun g hg=>new g (h.rb.own_lt hg) (h.sR g hg),h.sd,h.lA,h.lR,h.ok,h.tn,h.cut,h.lft,h.sav⟩,e1,e2,hB⟩
 ·rw [e1];exact (hK.block b h.base.lt (h.sA b (.inl rfl)).1).trans h.bas
 ·rw [e2];exact h.rb.same (fun g hg=>hK.block g (h.rb.own_lt hg) (h.sR g hg))
theorem BpSt.does (h:BpSt b0 w b d c dv D lv kept L M B E recs torn down off left) (hB:B+30000≤10000000) (wh tx key val:Int) (hk:I64 key) :
  Calls Tryz.prog 20 #[.pointer (some ⟨L.s,0,none⟩),.pointer (some ⟨M.R,0,none⟩),.agg #[.int .i64 wh,.int .i64 tx,.int .i64 key,.int .i64 val]] w fun e w'=>e=.returned (.bool true)∧∃ L' M' E',BpSt b0 w' b d c dv D lv kept L' M' (B+30000) E' recs torn down off left∧L'.s=L.s∧M'.R=M.R∧Below b0 w w' :=
 (h.duo.posts.act hB wh tx key val hk).mono (fun _ _ hh=>⟨hh.1,h.act_post hh.2⟩)
theorem BpSt.cm (h:BpSt b0 w b d c dv D lv kept L M B E recs torn down off left) (hB:B+10000≤10000000) {i:Nat} {t:Tx} (ht:E.txs[i]?=some t):CmOk E i t:=by
 have hfit:=h.duo.duo.rf.fits (by omega)
 obtain⟨hcom,hnw,hl0⟩:=h.duo.duo.rf.comNw
 refine⟨hfit,h.duo.mid.fine ht,hl0,by omega,by omega,fun l hl'=>?_,(h.duo.mid.reg.fair i _ (cs_get ht)).vk⟩
 unfold installE at hl'
 rw [ht] at hl'
 simp only at hl'
 split at hl'
 ·exact Nat.le_trans (hfit.len l hl') (by omega)
 ·obtain⟨j,hj,rfl⟩:=List.mem_iff_getElem.1 hl'
  obtain⟨R,_,hRel⟩:=h.duo.duo.rf
  have hd:=hRel.doc.inst (t:=E.last+1) (by omega) (writesP_fine (t:=t) (fun k hk=>(h.duo.mid.reg.fair i _ (cs_get ht)).vk k hk) (h.duo.mid.fine ht))
  have h1:=hd.bound _ (List.getElem_mem hj)
  have h2:=hRel.keptB
  have h3:=addTo_length (E.last+1) (writesP t.vals) 10
  rw [List.length_append] at h1
  omega
def BpCom (b0 b d c:Nat) (L:EnL) (M:REnL) (B:Nat) (torn:Int) (off:Bool) (w w':World):Prop :=
 ∃ dv' D' lv' kept' L' M' E' recs' down' left',BpSt b0 w' b d c dv' D' lv' kept' L' M' B E' recs' torn down' off left'∧L'.s=L.s∧M'.R=M.R∧Below b0 w w'
theorem BpSt.landed (h:BpSt b0 w b d c dv D lv kept L M B E recs torn down off left) {w1:World} {L1:EnL} {dv1:List Value} (hP:BPost b d L L1 dv dv1 w w1) :
  RefAt w1 M B E∧RbAt w1 c M.R lv recs.length kept recs.length down off left∧Below b0 w w1:=by
 have nb:∀ g,(M.own g∨oR c lv g)→g≠b∧g≠d∧¬ L.own g:=fun g hg=>by
  refine⟨fun e=>?_,fun e=>?_,fun ho=>?_⟩
  ·subst e
   rcases hg with hg | hg
   ·exact (h.sA _ (.inl rfl)).1 (.inr hg)
   ·exact (h.sA _ (.inl rfl)).2 hg
  ·subst e
   rcases hg with hg | hg
   ·exact (h.sA _ (.inr (.inl rfl))).1 (.inr hg)
   ·exact (h.sA _ (.inr (.inl rfl))).2 hg
  ·rcases hg with hg | hg
   ·exact h.duo.duo.dis g ho hg
   ·exact h.sR g hg (.inl ho)
 refine⟨h.duo.duo.rf.same (fun g hg=>?_),h.rb.same (fun g hg=>?_),⟨hP.os,hP.tape,hP.output,hP.size,fun k hk=>?_⟩⟩
 ·obtain⟨n1,n2,n3⟩:=nb g (.inl hg)
  exact hP.block g (h.duo.duo.rf.own_lt hg) n1 n2 n3
 ·obtain⟨n1,n2,n3⟩:=nb g (.inr hg)
  exact hP.block g (h.rb.own_lt hg) n1 n2 n3
 ·have hle:=h.duo.le
  refine hP.block k (by omega) (fun e=>?_) (fun e=>?_) (fun ho=>?_)
  ·have:=h.lA b (.inl rfl);omega
  ·have:=h.lA d (.inr (.inl rfl));omega
  ·have:=h.duo.low k (.inl ho);omega
theorem BpSt.goneOn {E1:Eng} {dv1:List Value} {D1:Dsk} {L1:EnL} {M2:REnL} {lv2:Value} {kept2:List (Int × Int × Int)} {recs1:List (List (Int × Int))} {down1:Bool} {left2:Int} {w1 w2:World}
  (h:BpSt b0 w b d c dv D lv kept L M B E recs torn down off left) (hb:BasAt w1 b d L1 E1 dv1 D1 recs1.length torn down1) (hP:BPost b d L L1 dv dv1 w w1) (es:L1.s=L.s)
  (hr:RefAt w2 M2 B' E1) (hR:RbAt w2 c M2.R lv2 recs1.length kept2 recs1.length down1 off left2) (hK:KeptO (fun g=>M.own g∨oR c lv g) (fun g=>M2.own g∨oR c lv2 g) w1 w2) (er:M2.R=M.R) (hsep:∀ g,oR c lv2 g→¬ M2.own g)
  (hM:Mid2 E1.ce noQ) (hok:DskG D1 recs1) (hcut:D1.cut=off) (hl:off=true→D1.left=left2∧0≤left2∧left2≤9223372036854775807) (hs:Saved recs1 kept2) :
  BpCom b0 b d c L M B' torn off w w2:=by
 obtain⟨r1,b1,f1⟩:=h.landed hP
 have hz:=hP.size
 have hz2:=hK.size
 have hle:=h.duo.le
 have hpos:=h.duo.pos
 -- the landed one's blocks in w1
 have A1:∀ g,(oA b d dv1 g∨L1.own g)→(oA b d dv g∨L.own g)∨w.heap.size≤g:=fun g hg=>by
  rcases hg with (hg | hg) | hg
  ·exact .inl (.inl (.inl hg))
  ·exact (hP.dsw g hg).imp (fun h1=>.inl (.inr h1)) id
  ·exact (hP.enw g hg).imp .inr id
 have lt1:∀ g,(oA b d dv1 g∨L1.own g)→g<w1.heap.size:=fun g hg=>by
  rcases hg with (rfl | hg) | hg
  ·exact hb.lt
  ·exact hb.dsk.own_lt hg
  ·exact hb.en.own_lt hg
 have ltR:∀ g,(M.own g∨oR c lv g)→g<w.heap.size:=fun g hg=>hg.elim (fun h1=>h.duo.duo.rf.own_lt h1) (fun h1=>h.rb.own_lt h1)
 have dis0:∀ g,(oA b d dv g∨L.own g)→¬ (M.own g∨oR c lv g):=fun g hg hr=>by
  rcases hg with hg | hg
  ·rcases hr with hr | hr
   ·exact (h.sA g hg).1 (.inr hr)
   ·exact (h.sA g hg).2 hr
  ·rcases hr with hr | hr
   ·exact h.duo.duo.dis g hg hr
   ·exact h.sR g hr (.inl hg)
 have dis1:∀ g,(oA b d dv1 g∨L1.own g)→¬ (M.own g∨oR c lv g):=fun g hg hr=>by
  rcases A1 g hg with h1 | h1
  ·exact dis0 g h1 hr
  ·have:=ltR g hr;omega
 have dis2:∀ g,(oA b d dv1 g∨L1.own g)→¬ (M2.own g∨oR c lv2 g):=fun g hg hr=>by
  rcases hK.sub g hr with h1 | h1
  ·exact dis1 g hg h1
  ·have:=lt1 g hg;omega
 have keep:∀ g,(oA b d dv1 g∨L1.own g)→w2.heap[g]?=w1.heap[g]?:=fun g hg=>hK.block g (lt1 g hg) (dis1 g hg)
 have lowA:∀ g,(oA b d dv1 g∨L1.own g)→b0≤g:=fun g hg=>by
  rcases A1 g hg with (h1 | h1) | h1
  ·exact h.lA g h1
  ·exact h.duo.low g (.inl h1)
  ·omega
 have lowR:∀ g,(M2.own g∨oR c lv2 g)→b0≤g:=fun g hg=>by
  rcases hK.sub g hg with (h1 | h1) | h1
  ·exact h.duo.low g (.inr h1)
  ·exact h.lR g h1
  ·omega
 have f2:Below b0 w w2:=f1.trans ⟨hK.os,hK.tape,hK.output,hK.size,fun k hk=>hK.block k (by omega) (fun ho=>by
  rcases ho with h1 | h1
  ·have:=h.duo.low k (.inr h1);omega
  ·have:=h.lR k h1;omega)⟩
 refine⟨dv1,D1,lv2,kept2,L1,M2,E1,recs1,down1,left2,⟨⟨⟨hb.en.same (fun g hg=>keep g (.inr hg)),hr,fun g h1 h2=>dis2 g (.inr h1) (.inl h2)⟩,hM,fun g hg=>hg.elim (fun h1=>lowA g (.inr h1)) (fun h1=>lowR g (.inl h1)),by omega,hpos,h.duo.hand.below f2 hpos⟩,(keep b (.inl (.inl rfl))).trans hb.bas,hb.dsk.same hz2 (fun g hg=>keep g (.inl (.inr hg))),hR,fun g hg=>⟨fun ho=>?_,fun ho=>dis2 g (.inl hg) (.inr ho)⟩,fun g hg ho=>?_,fun g hg=>(hb.sepd g hg).2,fun g hg=>lowA g (.inl hg),fun g hg=>lowR g (.inr hg),hok,h.tn,hcut,hl,hs⟩,es,er,f2⟩
 ·rcases ho with ho | ho
  ·rcases hg with rfl | hg
   ·exact hb.sepb ho
   ·exact (hb.sepd g hg).1 ho
  ·exact dis2 g (.inl hg) (.inl ho)
 ·rcases ho with ho | ho
  ·exact dis2 g (.inr ho) (.inr hg)
  ·exact hsep g hg ho
end
end Go.Proofs.YtjefgmeejhakbaaGreatDoor
/- A commit of both bases. -/
namespace Go.Proofs.YtjefgmeejhakbaaGreatDoor
open Go.RowKit
section
variable {b0:Nat} {w w' w1 w2:World} {b d c:Nat} {dv:List Value} {D:Dsk} {lv:Value} {kept:List (Int × Int × Int)} {L L1:EnL} {M:REnL} {B B':Nat} {E E1:Eng} {recs:List (List (Int × Int))} {torn:Int} {down off:Bool} {left:Int}
theorem BpSt.idle (h:BpSt b0 w b d c dv D lv kept L M B E recs torn down off left) (hB:Below w.heap.size w w2) (hBB:B≤B'):BpCom b0 b d c L M B' torn off w w2 :=
 ⟨dv,D,lv,kept,L,M,E,recs,down,left,(h.below hB).mono hBB,rfl,rfl,hB.mono h.duo.le⟩
theorem keep_or {o o' p:Nat→Prop} {W W':World} (h:KeptO o o' W W'):KeptO (fun g=>o g∨p g) (fun g=>o' g∨p g) W W' :=
 ⟨h.os,h.tape,h.output,h.size,fun g hg hn=>h.block g hg (fun e=>hn (.inl e)),fun g hg=>hg.elim (fun h1=>(h.sub g h1).imp .inl id) (fun h1=>.inl (.inr h1))⟩
theorem keep_ro {o o' p:Nat→Prop} {W W':World} (h:KeptO o o' W W'):KeptO (fun g=>p g∨o g) (fun g=>p g∨o' g) W W' :=
 ⟨h.os,h.tape,h.output,h.size,fun g hg hn=>h.block g hg (fun e=>hn (.inr e)),fun g hg=>hg.elim (fun h1=>.inl (.inl h1)) (fun h1=>(h.sub g h1).imp .inr id)⟩
theorem BpSt.engines (h:BpSt b0 w b d c dv D lv kept L M B E recs torn down off left) (hb:BasAt w1 b d L1 E1 dv D recs.length torn down) (hP:BPost b d L L1 dv dv w w1) (es:L1.s=L.s)
  (hr:∃ w0,Below w1.heap.size w1 w0∧RefPost M B' E1 w0 w2) (hM:Mid2 E1.ce noQ):BpCom b0 b d c L M B' torn off w w2:=by
 obtain⟨w0,hB0,M2,hr2,hK,hh,hbs⟩:=hr
 obtain⟨r1,b1,f1⟩:=h.landed hP
 have hz:=hB0.size
 have hlt:∀ g,oR c lv g→g<w1.heap.size:=fun g hg=>b1.own_lt hg
 have hb2:RbAt w2 c M2.R lv recs.length kept recs.length down off left:=by
  rw [hh.1]
  exact (b1.below hB0).same (fun g hg=>hK.block g (by have:=hlt g hg;omega) (fun ho=>h.sR g hg (.inr ho)))
 refine h.goneOn hb hP es hr2 hb2 ((KeptO.of_below hB0).trans (keep_or hK)) hh.1 (fun g hg ho=>?_) hM h.ok h.cut h.lft h.sav
 rcases hK.sub g ho with h1 | h1
 ·exact h.sR g hg (.inr h1)
 ·have:=hlt g hg;omega
theorem errV_ne {c:Int} (h:c≠0):errV c=.iface 24 (.int .i64 c):=by unfold errV;rw [if_neg h]
theorem rc_asks (hB:B≤10000000) {i:Nat} {t:Tx} (ht:E.txs[i]?=some t) (hs:t.state=0):RcAsk M B E ((i:Int)+1) (rdyE t) (writesP t.vals) :=
 ⟨fun W hW=>hW.writes (by omega) ht,fun W hW=>hW.ready (by omega) ht hs⟩
noncomputable def rcOf (E:Eng) (n:Int) (down:Bool) (rl:Nat) (pw:Bool):Int :=
 if n<1∨(E.txs.length:Int)<n then 7 else match E.txs[(n-1).toNat]? with
 | none=>7
 | some t=>if t.state≠0 then 6 else if betB t.ahead t.behind=true then 13 else if writesP t.vals=[] then 0 else if down=true then 6 else if 250≤rl then 4 else if pw=true then 0 else 14
theorem rcOf_at {i:Nat} {t:Tx} (ht:E.txs[i]?=some t) (down:Bool) (rl:Nat) (pw:Bool):rcOf E ((i:Int)+1) down rl pw=if t.state≠0 then 6 else if betB t.ahead t.behind=true then 13 else if writesP t.vals=[] then 0 else if down=true then 6 else if 250≤rl then 4 else if pw=true then 0 else 14:=by
 have hi:=(List.getElem?_eq_some_iff.1 ht).1
 unfold rcOf
 rw [if_neg (by omega),show ((i:Int)+1-1).toNat=i by omega,ht]
theorem BpSt.commit (h:BpSt b0 w b d c dv D lv kept L M B E recs torn down off left) (hB:B+10000≤10000000) (n:Int) :
  ∃ (rc:Int) (P1:World→Prop),rc=rcOf E n down recs.length (powerB D)∧(Calls Tryz.prog 43 #[.pointer (some ⟨b,0,none⟩),.int .i64 n] w fun e w1=>e=.returned (errV rc)∧P1 w1) ∧
   (∀ w1,P1 w1→Below b0 w w1∧RefAt w1 M B E∧RbAt w1 c M.R lv recs.length kept recs.length down off left∧∀ k,k<w.heap.size→¬ oA b d dv k→¬ L.own k→w1.heap[k]?=w.heap[k]?) ∧
   (∀ w1,P1 w1→Calls Tryz.prog 44 #[.pointer (some ⟨c,0,none⟩),.int .i64 n] w1 fun e w2=>e=.returned (.int .i64 rc)∧BpCom b0 b d c L M (B+10000) torn off w w2):=by
 have hlow:=h.duo.le
 have still:∀ w1,Below w.heap.size w w1→Below b0 w w1∧RefAt w1 M B E∧RbAt w1 c M.R lv recs.length kept recs.length down off left∧∀ k,k<w.heap.size→¬ oA b d dv k→¬ L.own k→w1.heap[k]?=w.heap[k]?:=fun w1 h1=>⟨h1.mono hlow,h.duo.duo.rf.below h1,h.rb.below h1,fun k hk _ _=>h1.block k hk⟩
 rcases num_cases E n with hn | ⟨i,t,rfl,ht⟩
 ·refine⟨7,fun w1=>Below w.heap.size w w1,by unfold rcOf;rw [if_pos hn],(bcommit_shut h.base (c:=7) (.inl ⟨rfl,hn⟩)).mono (fun e w1 hh=>⟨by rw [errV_ne (by decide)];exact hh.1,hh.2⟩),still,fun w1 h1=>?_⟩
  refine (rbc_miss (still w1 h1).2.2.1 (still w1 h1).2.1 hn).mono ?_
  rintro e w2 ⟨rfl,rfl⟩
  exact⟨rfl,h.idle h1 (by omega)⟩
 ·by_cases hs:t.state=0
  ·have hl:liveB t.state=true:=live_iff.2 (.inl hs)
   have hcm:=h.cm hB ht
   have hask:=rc_asks (M:=M) (B:=B) (by omega) ht hs
   have mid:∀ {E':Eng} w1,(∃ L1,BasAt w1 b d L1 E' dv D recs.length torn down∧BPost b d L L1 dv dv w w1∧L1.s=L.s)→Below b0 w w1∧RefAt w1 M B E∧RbAt w1 c M.R lv recs.length kept recs.length down off left∧∀ k,k<w.heap.size→¬ oA b d dv k→¬ L.own k→w1.heap[k]?=w.heap[k]?:=fun w1 h1=>by
    obtain⟨L1,_,h2,_⟩:=h1
    obtain⟨a1,a2,a3⟩:=h.landed h2
    exact⟨a3,a1,a2,fun k hk n1 n2=>h2.block k hk (fun e=>n1 (.inl e)) (fun e=>n1 (.inr (.inl e))) n2⟩
   have plain:∀ {E':Eng} {rc:Int},commitE 7 E i=some (rc,E')→(betB t.ahead t.behind=true∨writesP t.vals=[])→Calls Tryz.prog 43 #[.pointer (some ⟨b,0,none⟩),.int .i64 ((i:Int)+1)] w fun e w1=>e=.returned (errV rc)∧∃ L1,BasAt w1 b d L1 E' dv D recs.length torn down∧BPost b d L L1 dv dv w w1∧L1.s=L.s:=fun {E' rc} hE hp=>by
    refine (bcommit_plain h.base hcm ht hs hp hE).mono ?_
    rintro e w1 ⟨he,w0,hB0,hP0⟩
    obtain⟨L1,h1,h2,h3⟩:=(h.base.below hB0).post hP0
    exact⟨he,L1,h1,(BPost.of_below hB0).trans (BPost.of_engine h2),h3⟩
   by_cases hb:Between t.ahead t.behind
   ·obtain⟨E',hE,hM,_,_⟩:=commit2_bad goes2_true h.duo.mid ht hl hb trivial
    refine⟨13,_,by rw [rcOf_at ht,if_neg (by simp [hs]),if_pos (betB_true.2 hb)],plain hE (.inl (betB_true.2 hb)),mid,fun w1 h1=>?_⟩
    obtain⟨_,a1,a2,_⟩:=mid w1 h1
    obtain⟨L1,k1,k2,k3⟩:=h1
    have hrd:rdyE t≠0:=by unfold rdyE;rw [if_pos (betB_true.2 hb)];decide
    refine (rbc_plain a2 a1 hask (.inl hrd) (fun W hW=>rcommit_bad (puts_ok 7).1 hW (by omega) h.duo.mid ht hs (betB_true.2 hb) hE)).mono ?_
    rintro e w2 ⟨he,hp⟩
    obtain⟨dv',D',lv',kept',L',M',E2,recs',down',left',q1,q2⟩:=h.engines k1 k2 k3 hp hM
    exact⟨he,dv',D',lv',kept',L',M',E2,recs',down',left',q1.mono (by omega),q2⟩
   ·obtain⟨E',hE,hM,_,_⟩:=commit2_ok goes2_true h.duo.mid ht hl hb trivial
    have hrd:rdyE t=0:=by unfold rdyE;rw [if_neg (by rw [betB_false hb];simp)]
    have hcom:∀ W,RefAt W M B E→Calls Tryz.prog 80 #[.pointer (some ⟨M.R,0,none⟩),.int .i64 ((i:Int)+1)] W fun e w'=>e=.returned (.int .i64 0)∧RefPost M (B+10000) E' W w':=fun W hW=>rcommit_main (puts_ok 6).2.2 hW hB h.duo.mid ht hs (betB_false hb) hE
    by_cases hne:writesP t.vals=[]
    ·refine⟨0,_,by rw [rcOf_at ht,if_neg (by simp [hs]),if_neg (by rw [betB_false hb];simp),if_pos hne],plain hE (.inr hne),mid,fun w1 h1=>?_⟩
     obtain⟨_,a1,a2,_⟩:=mid w1 h1
     obtain⟨L1,k1,k2,k3⟩:=h1
     refine (rbc_plain a2 a1 hask (.inr hne) hcom).mono ?_
     rintro e w2 ⟨he,hp⟩
     exact⟨he,h.engines k1 k2 k3 hp hM⟩
    ·rw [hrd] at hask
     have hfine:∀ p∈writesP t.vals,Fine p:=writesP_fine hcm.vk hcm.fine
     have hwl:=writesP_len t.vals
     have hrl:=h.ok.1.lt
     by_cases hdn:down=true
     ·subst hdn
      refine⟨6,fun w1=>Below w.heap.size w w1,by rw [rcOf_at ht,if_neg (by simp [hs]),if_neg (by rw [betB_false hb];simp),if_neg hne,if_pos rfl],(bcommit_stop h.base hcm ht hs (betB_false hb) hne (rc:=6) (.inl ⟨rfl,rfl⟩)).mono (fun e w1 hh=>⟨by rw [errV_ne (by decide)];exact hh.1,hh.2⟩),still,fun w1 h1=>?_⟩
      refine (rbc_down (still w1 h1).2.2.1 (still w1 h1).2.1 hask hne).mono ?_
      rintro e w2 ⟨he,h2⟩
      exact⟨he,h.idle (h1.trans (h2.mono h1.size)) (by omega)⟩
     ·have hdn':down=false:=by simpa using hdn
      subst hdn'
      by_cases hfull:250≤recs.length
      ·refine⟨4,fun w1=>Below w.heap.size w w1,by rw [rcOf_at ht,if_neg (by simp [hs]),if_neg (by rw [betB_false hb];simp),if_neg hne,if_neg (by simp),if_pos hfull],(bcommit_stop h.base hcm ht hs (betB_false hb) hne (rc:=4) (.inr ⟨rfl,rfl,by omega⟩)).mono (fun e w1 hh=>⟨by rw [errV_ne (by decide)];exact hh.1,hh.2⟩),still,fun w1 h1=>?_⟩
       refine (rbc_full (still w1 h1).2.2.1 (still w1 h1).2.1 hask hne (by omega)).mono ?_
       rintro e w2 ⟨he,h2⟩
       exact⟨he,h.idle (h1.trans (h2.mono h1.size)) (by omega)⟩
      ·by_cases hpw:powerB D=true
       ·have hon:off=true→0<left:=fun e=>by
         have h1:=h.lft e
         unfold powerB at hpw
         rw [h.cut,e] at hpw
         have h2:D.left>0:=by simpa using hpw
         omega
        have hlandI:Calls Tryz.prog 43 #[.pointer (some ⟨b,0,none⟩),.int .i64 ((i:Int)+1)] w fun e w1=>e=.returned (errV 0)∧∃ L1 dv1,BasAt w1 b d L1 E' dv1 (writeD D recs.length (recP (writesP t.vals)) torn) ((recs++[writesP t.vals]).length:Nat) torn false∧BPost b d L L1 dv dv1 w w1∧L1.s=L.s:=by
         refine (bcommit_ok h.base h.ok.1 hcm ht hs (betB_false hb) hne (fun e=>by
          rw [h.cut] at e
          have h1:=h.lft e
          have h2:=hon e
          unfold I64
          omega) (by omega) hpw hE).mono ?_
         rintro e w1 ⟨he,L1,dv1,k1,k2,k3⟩
         have e1:(((recs++[writesP t.vals]).length:Nat):Int)=(recs.length:Int)+1:=by simp
         exact⟨he,L1,dv1,by rw [e1];exact k1,k2,k3⟩
        refine⟨0,_,by rw [rcOf_at ht,if_neg (by simp [hs]),if_neg (by rw [betB_false hb];simp),if_neg hne,if_neg (by simp),if_neg hfull,if_pos hpw],hlandI,fun w1 h1=>?_,fun w1 h1=>?_⟩
        ·obtain⟨L1,dv1,_,k2,_⟩:=h1
         obtain⟨a1,a2,a3⟩:=h.landed k2
         exact⟨a3,a1,a2,fun k hk n1 n2=>k2.block k hk (fun e=>n1 (.inl e)) (fun e=>n1 (.inr (.inl e))) n2⟩
        ·obtain⟨L1,dv1,k1,k2,k3⟩:=h1
         obtain⟨a1,a2,a3⟩:=h.landed k2
         have hkl:=h.sav.len
         refine (rbc_ok a2 a1 (fun g hg ho=>h.sR g hg (.inr ho)) hask hne (by omega) (fun e=>by have:=hon e;omega) rfl hfine (by omega) (by omega) hcom).mono ?_
         rintro e w2 ⟨he,w3,lv3,r3,q3,M2,r4,q4,hh,hbs⟩
         have e1:(((recs++[writesP t.vals]).length:Nat):Int)=(recs.length:Int)+1:=by simp
         have hz3:=q3.size
         have hdis3:∀ g,oR c lv3 g→¬ M.own g:=fun g hg ho=>by
          rcases q3.sub g hg with h5 | h5
          ·exact h.sR g h5 (.inr ho)
          ·have:=a1.own_lt ho;omega
         have hr4:RbAt w2 c M2.R lv3 ((recs++[writesP t.vals]).length:Nat) (kept++addTo ((recs.length:Int)+1) (writesP t.vals) 10) ((recs++[writesP t.vals]).length:Nat) false off (IntKind.i64.wrap (left-1)):=by
          rw [hh.1,e1]
          exact r3.same (fun g hg=>q4.block g (r3.own_lt hg) (hdis3 g hg))
         refine⟨he,h.goneOn k1 k2 k3 r4 hr4 ((keep_ro q3).trans (keep_or q4)) hh.1 (fun g hg ho=>?_) hM (h.ok.write hwl hfine hne (by omega) torn hpw) ?_ (fun e=>?_) (h.sav.add hfine)⟩
         ·rcases q4.sub g ho with h5 | h5
          ·exact hdis3 g hg h5
          ·have:=r3.own_lt hg;omega
         ·unfold writeD;rw [if_pos hpw];exact h.cut
         ·have h1:=h.lft e
          have h2:=hon e
          rw [IntWalk.i64_in _ (by omega)]
          unfold writeD
          rw [if_pos hpw]
          simp only
          rw [if_pos (by rw [h.cut];exact e)]
          omega
       ·have hpf:powerB D=false:=by simpa using hpw
        have hoff:off=true:=by
         rw [← h.cut]
         unfold powerB at hpf
         simp only [Bool.or_eq_false_iff,Bool.not_eq_false'] at hpf
         exact hpf.1
        have hl0:left=0:=by
         have h1:=h.lft hoff
         unfold powerB at hpf
         simp only [Bool.or_eq_false_iff,decide_eq_false_iff_not] at hpf
         omega
        subst hoff hl0
        refine⟨14,(fun w1=>∃ dv1,BasAt w1 b d L E dv1 (writeD D recs.length (recP (writesP t.vals)) torn) recs.length torn true∧BPost b d L L dv dv1 w w1),by rw [rcOf_at ht,if_neg (by simp [hs]),if_neg (by rw [betB_false hb];simp),if_neg hne,if_neg (by simp),if_neg hfull,if_neg hpw],(bcommit_down h.base h.ok.1 hcm ht hs (betB_false hb) hne h.tn (by omega) hpf).mono (fun e w1 hh=>⟨by rw [errV_ne (by decide)];exact hh.1,hh.2⟩),fun w1 h1=>?_,fun w1 h1=>?_⟩
        ·obtain⟨dv1,_,k2⟩:=h1
         obtain⟨a1,a2,a3⟩:=h.landed k2
         exact⟨a3,a1,a2,fun k hk n1 n2=>k2.block k hk (fun e=>n1 (.inl e)) (fun e=>n1 (.inr (.inl e))) n2⟩
        ·obtain⟨dv1,k1,k2⟩:=h1
         obtain⟨a1,a2,a3⟩:=h.landed k2
         refine (rbc_dark a2 a1 hask hne (by omega)).mono ?_
         rintro e w2 ⟨he,r3,q3⟩
         have hr:RefAt w2 M (B+10000) E:=(a1.same (fun g hg=>q3.block g (a1.own_lt hg) (fun ho=>h.sR g ho (.inr hg)))).mono (by omega)
         refine⟨he,h.goneOn k1 k2 rfl hr r3 (keep_ro q3) rfl (fun g hg ho=>h.sR g hg (.inr ho)) h.duo.mid (h.ok.off _ torn (by omega) hpf) ?_ (fun _=>?_) h.sav⟩
         ·unfold writeD;rw [if_neg (by rw [hpf];simp)];exact h.cut
         ·have h1:=h.lft rfl
          unfold writeD;rw [if_neg (by rw [hpf];simp)]
          exact h1
  ·have hc:Shut E ((i:Int)+1) 6:=.inr ⟨rfl,i,t,rfl,ht,hs⟩
   refine⟨6,fun w1=>Below w.heap.size w w1,by rw [rcOf_at ht,if_pos hs],(bcommit_shut h.base (c:=6) hc).mono (fun e w1 hh=>⟨by rw [errV_ne (by decide)];exact hh.1,hh.2⟩),still,fun w1 h1=>?_⟩
   refine (rbc_plain (still w1 h1).2.2.1 (still w1 h1).2.1 (⟨fun W hW=>hW.writes (by omega) ht,fun W hW=>hW.ready_shut hc⟩:RcAsk M B E ((i:Int)+1) 6 (writesP t.vals)) (.inl (by decide)) (Q:=fun W w'=>w'=W) (fun W hW=>rcommit_shut hW hc)).mono ?_
   rintro e w2 ⟨he,w3,h3,rfl⟩
   exact⟨he,h.idle (h1.trans (h3.mono h1.size)) (by omega)⟩
end
end Go.Proofs.YtjefgmeejhakbaaGreatDoor
/- Both bases: opened anew; the power. -/
namespace Go.Proofs.YtjefgmeejhakbaaGreatDoor
open Go.RowKit
section
variable {b0:Nat} {w w' w1 w2:World} {b d c:Nat} {dv:List Value} {D D1:Dsk} {lv:Value} {kept:List (Int × Int × Int)} {L L1:EnL} {M:REnL} {B B':Nat} {E E1:Eng} {recs:List (List (Int × Int))} {torn:Int} {down off:Bool} {left:Int}
def Opened (w:World) (d:Nat) (recs:List (List (Int × Int))) (b':Nat) (w1:World):Prop :=
 ∃ L':EnL,w1.heap[b']?=some (.cells (basCells d L'.s recs.length 0 false) 193 (0,0))∧EnAt w1 L' (engO recs.length recs.flatten)∧Below w.heap.size w w1∧(∀ g,L'.own g→w.heap.size≤g)∧w.heap.size≤b'∧¬ L'.own b'
theorem BpSt.open1 (h:BpSt b0 w b d c dv D lv kept L M B E recs torn down off left) :
  Calls Tryz.prog 38 #[.pointer (some ⟨d,0,none⟩)] w fun e w1=>∃ b',e=.returned (.tuple #[.pointer (some ⟨b',0,none⟩),.nilIface])∧Opened w d recs b' w1:=by
 refine (open_any' h.dsk h.ok.1).mono ?_
 rintro e w1 ⟨b',L',he,h1⟩
 exact⟨b',he,L',h1⟩
theorem BpSt.open2 (h:BpSt b0 w b d c dv D lv kept L M B E recs torn down off left) {b':Nat} (ho:Opened w d recs b' w1) :
  Calls Tryz.prog 42 #[.pointer (some ⟨c,0,none⟩)] w1 fun e w2=>e=.returned (.tuple #[])∧∃ L' M',BpSt b0 w2 b' d c dv D lv kept L' M' 10000 (engO recs.length recs.flatten) recs 0 false off left∧Below b0 w w2:=by
 obtain⟨L',hbas,hen,hB1,hO,hb',hnb⟩:=ho
 obtain⟨ws,e1,e2,e3,e4,e5⟩:=h.sav.all h.ok.1.fine
 have hrl:=h.ok.1.lt
 have hkl:=h.sav.len
 have hs1:=hB1.size
 have hle:=h.duo.le
 have hpos:=h.duo.pos
 refine (ropen_any (h.rb.below hB1) (by omega) ws e1 (by omega) ?_).mono ?_
 ·by_cases hr:recs=[]
  ·subst hr
   exact .inl ⟨rfl,e5 rfl⟩
  ·have:0<recs.length:=List.length_pos_iff.2 hr
   exact .inr ⟨by omega,by omega,e3⟩
 ·rintro e w2 ⟨he,M',hR2,hr2,hK,hO2⟩
  rw [e4] at hr2
  have hs2:=hK.size
  have ltR:∀ g,oR c lv g→g<w.heap.size:=fun g hg=>h.rb.own_lt hg
  have blt:b'<w1.heap.size:=(Array.getElem?_eq_some_iff.1 hbas).1
  have f2:Below b0 w w2:=(hB1.mono hle).trans ⟨hK.os,hK.tape,hK.output,hK.size,fun k hk=>hK.block k (by omega) (fun ho=>by have:=h.lR k ho;omega)⟩
  refine⟨he,L',M',⟨⟨⟨hen.same (fun g hg=>hK.block g (hen.own_lt hg) (fun ho=>by have:=hO g hg;have:=ltR g ho;omega)),hr2,fun g h1 h2=>by have:=hen.own_lt h1;have:=hO2 g h2;omega⟩,mid2O _ _,fun g hg=>?_,by omega,hpos,h.duo.hand.below f2 hpos⟩,(hK.block b' blt (fun ho=>by have:=ltR b' ho;omega)).trans hbas,(h.dsk.below hB1).same hK.size (fun g hg=>hK.block g (by have:=h.dsk.own_lt hg;omega) (h.sA g (.inr hg)).2),hR2,fun g hg=>?_,fun g hg ho=>?_,fun g hg e=>?_,fun g hg=>?_,h.lR,h.ok,Int.le_refl _,h.cut,h.lft,h.sav⟩,f2⟩
  ·rcases hg with hg | hg
   ·have:=hO g hg;omega
   ·have:=hO2 g hg;omega
  ·rcases hg with rfl | hg
   ·refine⟨fun ho=>?_,fun ho=>by have:=ltR g ho;omega⟩
    rcases ho with ho | ho
    ·exact hnb ho
    ·have:=hO2 g ho;omega
   ·have hgl:=h.dsk.own_lt hg
    refine⟨fun ho=>?_,(h.sA g (.inr hg)).2⟩
    rcases ho with ho | ho
    ·have:=hO g ho;omega
    ·have:=hO2 g ho;omega
  ·have:=ltR g hg
   rcases ho with ho | ho
   ·have:=hO g ho;omega
   ·have:=hO2 g ho;omega
  ·have:=h.dsk.own_lt hg;omega
  ·rcases hg with rfl | hg
   ·omega
   ·exact h.lA g (.inr hg)
def Turned (w:World) (d:Nat) (dv:List Value) (D1:Dsk) (w1:World):Prop:=DiskAt w1 d dv D1∧(w1.heap.size=w.heap.size∧w1.os=w.os∧w1.tape=w.tape∧w1.output=w.output)∧∀ k,k≠d→w1.heap[k]?=w.heap[k]?
theorem BpSt.cut1 (h:BpSt b0 w b d c dv D lv kept L M B E recs torn down off left) (n:Int) :
  Calls Tryz.prog 45 #[.pointer (some ⟨d,0,none⟩),.int .i64 n] w fun e w1=>e=.returned (.tuple #[])∧Turned w d dv { D with cut:=decide (n≥0),left:=n } w1:=dcut_any h.dsk n
theorem BpSt.rb1 (h:BpSt b0 w b d c dv D lv kept L M B E recs torn down off left) (ht:Turned w d dv D1 w1):RbAt w1 c M.R lv recs.length kept recs.length down off left :=
 h.rb.same (fun g hg=>ht.2.2 g (fun e=>(h.sA d (.inr (.inl rfl))).2 (e▸hg)))
theorem BpSt.turned (h:BpSt b0 w b d c dv D lv kept L M B E recs torn down off left) (ht:Turned w d dv D1 w1) {off':Bool} {left':Int} (hR:RbAt w2 c M.R lv recs.length kept recs.length down off' left') (hK:KeptO (oR c lv) (oR c lv) w1 w2) (hok:DskG D1 recs) (hc:D1.cut=off') (hl:off'=true→D1.left=left'∧0≤left'∧left'≤9223372036854775807) :
  BpSt b0 w2 b d c dv D1 lv kept L M B E recs torn down off' left'∧Below b0 w w2:=by
 obtain⟨hD,⟨hz,ho,htp,hout⟩,hk⟩:=ht
 have hs2:=hK.size
 have hle:=h.duo.le
 have hpos:=h.duo.pos
 have hd:=h.lA d (.inr (.inl rfl))
 have same:∀ g,g<w.heap.size→g≠d→¬ oR c lv g→w2.heap[g]?=w.heap[g]?:=fun g hg hn hno=>(hK.block g (by omega) hno).trans (hk g hn)
 have f2:Below b0 w w2:=⟨hK.os.trans ho,hK.tape.trans htp,hK.output.trans hout,by omega,fun k hkb=>same k (by omega) (by omega) (fun ho=>by have:=h.lR k ho;omega)⟩
 have nd:∀ g,both L M g→g≠d:=fun g hg e=>(h.sA d (.inr (.inl rfl))).1 (e▸hg)
 refine⟨⟨⟨⟨h.duo.duo.en.same (fun g hg=>same g (h.duo.duo.en.own_lt hg) (nd g (.inl hg)) (fun ho=>h.sR g ho (.inl hg))),h.duo.duo.rf.same (fun g hg=>same g (h.duo.duo.rf.own_lt hg) (nd g (.inr hg)) (fun ho=>h.sR g ho (.inr hg))),h.duo.duo.dis⟩,h.duo.mid,h.duo.low,by omega,hpos,h.duo.hand.below f2 hpos⟩,(same b h.base.lt (fun e=>h.sd d (.inl rfl) e.symm) (h.sA b (.inl rfl)).2).trans h.bas,hD.same hK.size (fun g hg=>hK.block g (hD.own_lt hg) (h.sA g (.inr hg)).2),hR,h.sA,h.sR,h.sd,h.lA,h.lR,hok,h.tn,hc,hl,h.sav⟩,f2⟩
theorem BpSt.cut2 (h:BpSt b0 w b d c dv D lv kept L M B E recs torn down off left) {n:Int} (hn:I64 n) (ht:Turned w d dv { D with cut:=decide (n≥0),left:=n } w1) :
  Calls Tryz.prog 46 #[.pointer (some ⟨c,0,none⟩),.int .i64 n] w1 fun e w2=>e=.returned (.tuple #[])∧BpSt b0 w2 b d c dv { D with cut:=decide (n≥0),left:=n } lv kept L M B E recs torn down (decide (n≥0)) n∧Below b0 w w2∧∀ g,g<w.heap.size→g≠d→¬ oR c lv g→w2.heap[g]?=w.heap[g]?:=by
 refine (rcut_any (h.rb1 ht) n).mono ?_
 rintro e w2 ⟨he,hR,hK⟩
 obtain⟨q1,q2⟩:=h.turned ht hR hK (h.ok.cut _ n) rfl (fun e=>⟨rfl,by simpa using e,by unfold I64 at hn;omega⟩)
 exact⟨he,q1,q2,fun g hg hn1 hn2=>(hK.block g (by rw [ht.2.1.1];exact hg) hn2).trans (ht.2.2 g hn1)⟩
theorem BpSt.on (h:BpSt b0 w b d c dv D lv kept L M B E recs torn down off left) (ht:Turned w d dv { D with cut:=decide ((-1:Int)≥0),left:=-1 } w1):BpSt b0 (w1.setCell ⟨c,5,none⟩ (.bool false)) b d c dv { D with cut:=decide ((-1:Int)≥0),left:=-1 } lv kept L M B E recs torn down false left∧Below b0 w (w1.setCell ⟨c,5,none⟩ (.bool false)):=by
 obtain⟨h5,k5⟩:=(h.rb1 ht).turn (o:=5) (v:=.bool false) (R':=M.R) (used':=(recs.length:Int)) (down':=down) (off':=false) (left':=left) rfl
 exact h.turned ht h5 k5 (h.ok.cut _ _) rfl (fun e=>by cases e)
theorem BpSt.torn_ (h:BpSt b0 w b d c dv D lv kept L M B E recs torn down off left) (n:Int) :
  Calls Tryz.prog 47 #[.pointer (some ⟨b,0,none⟩),.int .i64 n] w fun e w1=>e=.returned (.tuple #[])∧BpSt b0 w1 b d c dv D lv kept L M B E recs (max 0 n) down off left∧Below b0 w w1:=by
 refine (btorn_any h.base n).mono ?_
 rintro e w1 ⟨he,hb,⟨hz,ho,htp,hout⟩,hk⟩
 have hle:=h.duo.le
 have hpos:=h.duo.pos
 have f2:Below b0 w w1:=⟨ho,htp,hout,by omega,fun k hkb=>hk k (by have:=h.lA b (.inl rfl);omega)⟩
 have nb:∀ g,both L M g→g≠b:=fun g hg e=>(h.sA b (.inl rfl)).1 (e▸hg)
 exact⟨he,⟨⟨⟨hb.en,h.duo.duo.rf.same (fun g hg=>hk g (nb g (.inr hg))),h.duo.duo.dis⟩,h.duo.mid,h.duo.low,by omega,hpos,h.duo.hand.below f2 hpos⟩,hb.bas,hb.dsk,h.rb.same (fun g hg=>hk g (fun e=>(h.sA b (.inl rfl)).2 (e▸hg))),h.sA,h.sR,h.sd,h.lA,h.lR,h.ok,Int.le_max_left _ _,h.cut,h.lft,h.sav⟩,f2⟩
end
end Go.Proofs.YtjefgmeejhakbaaGreatDoor
/- Both engines: Begin and Write, by the engine that is left. -/
namespace Go.Proofs.YtjefgmeejhakbaaGreatDoor
open Go.RowKit
def ActPostE (b0:Nat) (L:EnL) (M:REnL) (B:Nat) (E':Eng) (w w':World):Prop:=∃ L' M',DuoOk b0 w' L' M' B E'∧Below b0 w w'∧L'.s=L.s∧M'.R=M.R∧KeptO (both L M) (both L' M') w w'
section
variable {b0:Nat} {w w':World} {L L':EnL} {M M':REnL} {B B':Nat} {E E':Eng} {i:Nat} {t:Tx}
theorem ActPostE.mono (h:ActPostE b0 L M B E w w') (hB:B≤B'):ActPostE b0 L M B' E w w':=by
 obtain⟨L',M',a,b⟩:=h
 exact⟨L',M',⟨a.duo.mono hB,a.mid,a.low,a.le,a.pos,a.hand⟩,b⟩
theorem DuoOk.postE (h:DuoOk b0 w L M B E) (hp:DuoPost L M B' E' w w') (hM:Mid2 E'.ce noQ):ActPostE b0 L M B' E' w w':=by
 obtain⟨L',M',h1,h2,h3,h4⟩:=hp
 have hle:=h.le
 have hsz:=h2.size
 refine⟨L',M',⟨h1,hM,fun g hg=>?_,by omega,h.pos,h.hand.kept h2 (both_not_0 h)⟩,⟨h2.os,h2.tape,h2.output,h2.size,fun g hg=>h2.block g (by omega) (fun hb=>by have:=h.low g hb;omega)⟩,h3,h4,h2⟩
 rcases h2.sub g hg with h5 | h5
 ·exact h.low g h5
 ·omega
theorem fin_actE {f:FuncId} {a:Array Value} (h:DuoOk b0 w L M B E) (hM:Mid2 E'.ce noQ) {Q:World→Prop} (hQ:∀ w3,Q w3→DuoPost L M B' E' w w3) (hc:Calls Tryz.prog f a w fun e w'=>e=.returned (.bool true)∧∃ w3,Q w3∧Below w3.heap.size w3 w') :
  Calls Tryz.prog f a w fun e w'=>e=.returned (.bool true)∧ActPostE b0 L M B' E' w w':=by
 refine hc.mono ?_
 rintro e w' ⟨rfl,w3,h3,hB⟩
 exact⟨rfl,h.postE ((hQ w3 h3).below hB) hM⟩
end
noncomputable def begE (E:Eng):Eng:=if begC E 0=0 then { E with txs:=E.txs++[newTx 0 E.last] } else E
section
variable {b0:Nat} {w w':World} {L L':EnL} {M M':REnL} {B B':Nat} {E E':Eng} {i:Nat} {t:Tx}
theorem act_beginE (h:DuoOk b0 w L M B E) (hB:B≤10000000) (tx val:Int) :
  Calls Tryz.prog 20 #[.pointer (some ⟨L.s,0,none⟩),.pointer (some ⟨M.R,0,none⟩),.agg #[.int .i64 0,.int .i64 tx,.int .i64 0,.int .i64 val]] w fun e w'=>e=.returned (.bool true)∧ActPostE b0 L M (B+1001) (begE E) w w':=by
 obtain⟨key,hkey⟩:∃ key:Int,(0:Int)=key:=⟨_,rfl⟩
 have hbe:begE E=if begC E key=0 then { E with txs:=E.txs++[newTx key E.last] } else E:=by unfold begE;rw [hkey]
 rw [hbe]
 suffices hS:Calls Tryz.prog 20 #[.pointer (some ⟨L.s,0,none⟩),.pointer (some ⟨M.R,0,none⟩),.agg #[.int .i64 0,.int .i64 tx,.int .i64 key,.int .i64 val]] w (fun e w'=>e=.returned (.bool true)∧ActPostE b0 L M (B+1001) (if begC E key=0 then { E with txs:=E.txs++[newTx key E.last] } else E) w w') by
  rw [← hkey] at hS ⊢
  exact hS
 clear hbe hkey
 by_cases hc:begC E key=0
 ·have hlv:key=0∨key=1∨key=2:=by
   unfold begC at hc
   by_cases h':key≠0∧key≠1∧key≠2
   ·rw [if_pos h'] at hc;cases hc
   ·omega
  have hn:¬ (key≠0∧key≠1∧key≠2):=by omega
  have hl:E.txs.length<200:=by
   unfold begC at hc
   rw [if_neg hn] at hc
   by_cases h':200≤E.txs.length
   ·rw [if_pos h'] at hc;cases hc
   ·omega
  have ho:E.ce.live<6:=by
   unfold begC at hc
   rw [if_neg hn,if_neg (by omega)] at hc
   by_cases h':6≤E.ce.live
   ·rw [if_pos h'] at hc;cases hc
   ·omega
  obtain⟨P,Q,a1,a2,a3,a4,a5⟩:=first_mild (B':=B+1001) (E':={ E with txs:=E.txs++[newTx key E.last] }) (box:=actB 0 tx key val) h (fun W hW=>(rbegin_ok hW hc (by omega)).mono (fun e w2 hh=>⟨hh.1,by
   obtain⟨_,L',b,x1,x2,x3,_⟩:=hh
   exact⟨L',x1,x2,x3⟩⟩)) (fun W hW _=>(begin_ok hW hlv hl (by rw [live_len];exact ho)).mono (fun e w2 hh=>⟨hh.1,by
   obtain⟨_,L',b,x1,x2,x3,_⟩:=hh
   exact⟨L',x1,x2,x3⟩⟩))
  rw [if_pos hc]
  exact fin_actE h (h.mid.begin hlv hl ho) a5 (does0 (c:=0) a1 a2 a3 a4)
 ·have hE:∀ W,EnAt W L E→Calls Tryz.prog 51 #[.pointer (some ⟨L.s,0,none⟩),.int .i64 key] W fun e w'=>e=.returned (.tuple #[.int .i64 0,errV (begC E key)])∧Below W.heap.size W w':=fun W hW=>by
   unfold begC
   by_cases h1:key≠0∧key≠1∧key≠2
   ·rw [if_pos h1]
    exact (begin_arg h1.1 h1.2.1 h1.2.2).mono (fun e w2 hh=>⟨hh.1,by rw [hh.2];exact Below.refl _ _⟩)
   ·rw [if_neg h1]
    have hlv:key=0∨key=1∨key=2:=by omega
    by_cases h2:200≤E.txs.length
    ·rw [if_pos h2]
     exact (begin_full hW hlv h2).mono (fun e w2 hh=>⟨hh.1,by rw [hh.2];exact Below.refl _ _⟩)
    ·rw [if_neg h2]
     by_cases h3:6≤E.ce.live
     ·rw [if_pos h3]
      exact begin_limit hW hlv (by omega) (by rw [live_len];exact h3)
     ·exact (hc (by unfold begC;rw [if_neg h1,if_neg h2,if_neg h3])).elim
  obtain⟨P,Q,a1,a2,a3,a4,a5⟩:=first_mild (B':=B+1001) (E':=E) (box:=actB 0 tx key val) h (fun W hW=>(rbegin_no hW rfl hc).mono (fun e w2 hh=>⟨hh.1,by rw [hh.2];exact⟨M,hW.mono (by omega),KeptO.refl _ _,rfl⟩⟩)) (fun W hW _=>(hE W hW).mono (fun e w2 hh=>⟨hh.1,L,hW.below hh.2,KeptO.of_below hh.2,rfl⟩))
  rw [if_neg hc]
  exact fin_actE h h.mid a5 (does0 a1 a2 a3 a4)
theorem act_writeE (hm:Mid2 E.ce noQ) (tx key val:Int):∃ E2:Eng,∀ (b0:Nat) (w:World) (L:EnL) (M:REnL) (B:Nat),DuoOk b0 w L M B E→B+5000≤10000000 →
  Calls Tryz.prog 20 #[.pointer (some ⟨L.s,0,none⟩),.pointer (some ⟨M.R,0,none⟩),.agg #[.int .i64 2,.int .i64 tx,.int .i64 key,.int .i64 val]] w fun e w'=>e=.returned (.bool true)∧ActPostE b0 L M (B+2000) E2 w w':=by
 have shut:∀ c,Shut E tx c→∀ (b0:Nat) (w:World) (L:EnL) (M:REnL) (B:Nat),DuoOk b0 w L M B E→B+5000≤10000000→Calls Tryz.prog 20 #[.pointer (some ⟨L.s,0,none⟩),.pointer (some ⟨M.R,0,none⟩),.agg #[.int .i64 2,.int .i64 tx,.int .i64 key,.int .i64 val]] w fun e w'=>e=.returned (.bool true)∧ActPostE b0 L M (B+2000) E w w':=fun c hc b0 w L M B h hB=>by
  obtain⟨P,Q,a1,a2,a3,a4,a5⟩:=first_hyps (B':=B) (E':=E) (box:=actB 2 tx key val) h (fun W hW=>(rwrite_shut (key:=key) (val:=val) hW hc).mono (fun e w2 hh=>⟨hh.1,by rw [hh.2];exact RefPost.refl hW⟩)) (fun W hW _=>(write_shut (key:=key) (val:=val) hW hc).mono (fun e w2 hh=>⟨hh.1,by rw [hh.2];exact EnPost.refl hW⟩))
  exact (fin_actE h h.mid a5 (does2 a1 a2 a3 a4)).mono (fun e w' hh=>⟨hh.1,hh.2.mono (by omega)⟩)
 rcases num_cases E tx with hn | ⟨i,t,rfl,ht⟩
 ·exact⟨E,shut 7 (.inl ⟨rfl,hn⟩)⟩
 ·by_cases hs:t.state=0
  ·have bad:∀ c:Int,(((key<0∨10≤key)∧c=2)∨((0≤key∧key<10)∧(val < -1099511627776∨1099511627776<val)∧c=1))→∀ (b0:Nat) (w:World) (L:EnL) (M:REnL) (B:Nat),DuoOk b0 w L M B E→B+5000≤10000000→Calls Tryz.prog 20 #[.pointer (some ⟨L.s,0,none⟩),.pointer (some ⟨M.R,0,none⟩),.agg #[.int .i64 2,.int .i64 ((i:Int)+1),.int .i64 key,.int .i64 val]] w fun e w'=>e=.returned (.bool true)∧ActPostE b0 L M (B+2000) E w w':=fun c hc b0 w L M B h hB=>by
    obtain⟨P,Q,a1,a2,a3,a4,a5⟩:=first_hyps (B':=B) (E':=E) (box:=actB 2 ((i:Int)+1) key val) h (fun W hW=>(rwrite_bad (key:=key) (val:=val) (c:=c) hW ht hs hc).mono (fun e w2 hh=>⟨hh.1,by rw [hh.2];exact RefPost.refl hW⟩)) (fun W hW _=>(write_bad (key:=key) (val:=val) (c:=c) hW ht hs hc).mono (fun e w2 hh=>⟨hh.1,by rw [hh.2];exact EnPost.refl hW⟩))
    exact (fin_actE h h.mid a5 (does2 a1 a2 a3 a4)).mono (fun e w' hh=>⟨hh.1,hh.2.mono (by omega)⟩)
   by_cases hk:0≤key∧key<10
   ·by_cases hv:-1099511627776≤val∧val≤1099511627776
    ·obtain⟨q,hq⟩:=hm.loc.good.rank
     obtain⟨R,hR,hM,_⟩:=write2_ok goes2_true hm ht hs hk hv hq trivial trivial (fun _ _ _ _=>trivial) (fun _ _ _ _ _ _=>trivial)
     refine⟨R.2,fun b0 w L M B h hB=>?_⟩
     have hfit:=h.duo.rf.fits (by omega)
     obtain⟨P,Q,a1,a2,a3,a4,a5⟩:=first_hyps (B':=B+2000) (E':=R.2) (box:=actB 2 ((i:Int)+1) key val) h (fun W hW=>rwrite_main (puts_ok 7).1 (puts_ok 7).2.1 hW hB h.mid hq ht hs hk hv hR) (fun W hW _=>write_main hW hfit hq ht hs hk hv hR)
     exact fin_actE h hM a5 (does2 a1 a2 a3 a4)
    ·exact⟨E,bad 1 (.inr ⟨hk,by omega,rfl⟩)⟩
   ·exact⟨E,bad 2 (.inl ⟨by omega,rfl⟩)⟩
  ·exact⟨E,shut 6 (.inr ⟨rfl,i,t,rfl,ht,hs⟩)⟩
end
end Go.Proofs.YtjefgmeejhakbaaGreatDoor
