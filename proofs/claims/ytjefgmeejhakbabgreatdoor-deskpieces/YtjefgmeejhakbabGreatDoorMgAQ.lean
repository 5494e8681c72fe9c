/- DkAt DkSes DkDoA DkDoB DkDoC DkCatch DkReg8: put together for a claim. -/
import Derived.Test.YtjefgmeejhakbabGreatDoorMgAP
import Derived.Test.YtjefgmeejhakbabGreatDoorMgAC
import Derived.Test.YtjefgmeejhakbabGreatDoorMgAN
import Derived.Test.YtjefgmeejhakbabGreatDoorMgAO
import Derived.Defers
import Derived.Recover
import Derived.Laws.EntriesVeiled
namespace Go.Proofs.YtjefgmeejhakbabGreatDoor
open Go.RowKit
def thrownV (v:Value):Ending:=.panicked [{ v:=v,recovered:=false }]
abbrev atV (pb:Nat):Value:=.iface 222 (.pointer (some ⟨pb,0,none⟩))
theorem throw_at (pb:Nat) (w:World):Calls Tryz.prog 53 #[atV pb] w fun e w'=>e=thrownV (atV pb)∧w'=w:=by
 have hne:∀ w,(binOp .neq 27 (atV pb) .nilIface).run Tryz.prog w=.ok (.bool true) w:=fun _=>by kernel_rfl
 go_enter Tryz.func53,Tryz.ntmps53
 have hp:∀ w,(Instr.panic (atV pb)).run Tryz.prog w=.halt (.panic (atV pb)) w:=fun _=>by kernel_rfl
 go_wp2
 exact⟨rfl,rfl,rfl⟩
theorem mustL_at (v:Value) (pb:Nat) (w:World):Calls Tryz.prog 110 #[v,atV pb] w fun e w'=>e=thrownV (atV pb)∧w'=w:=by
 go_enter Tryz.func110,Tryz.ntmps110
 go_wp2_with fail
 refine (throw_at pb _).mono ?_
 rintro e w' ⟨rfl,hw⟩
 rw [hw]
 clear hw w'
 show bodyPost _ _ _ _ _ _
 exact⟨rfl,rfl,rfl⟩
set_option maxRecDepth 100000 in
set_option maxHeartbeats 4000000 in
theorem dline_at {w:World} {S s:Nat} {v:Value} {P:Value→World→Prop} {P2:Nat→World→Prop} (he:EngAt w S s)
  (hh:Calls Tryz.prog 108 #[.pointer (some ⟨s,0,none⟩)] w fun e w1=>∃ u,e=.returned u∧P u w1)
  (hb:∀ u w1,P u w1→Calls Tryz.prog 111 #[u] w1 fun e w2=>∃ x pb,e=.returned (.tuple #[x,atV pb])∧P2 pb w2) :
  Calls Tryz.prog 40 #[.pointer (some ⟨S,0,none⟩),v] w fun e w'=>∃ pb,e=thrownV (atV pb)∧P2 pb w':=by
 have HB:=hid hb
 have HH:=hid hh
 have HE:=hid (he 0)
 clear hb he hh
 go_enter Tryz.func40,Tryz.ntmps40
 go_wp2_with (first
  | (go_at_call 94;refine HE.out.mono ?_;rintro e w0 ⟨rfl,rfl⟩)
  | (go_at_call 108;refine HH.out.mono ?_;rintro e w1 ⟨u,rfl,hp⟩)
  | (go_at_call 111;refine (HB.out _ _ hp).mono ?_;rintro e w2 ⟨x,pb,rfl,hp2⟩))
 go_wp2_with fail
 refine (mustL_at x pb _).mono ?_
 rintro e w4 ⟨rfl,hw2⟩
 rw [hw2]
 clear hw2 w4
 show bodyPost Tryz.prog Tryz.f40 (fun e w'=>∃ pb,e=thrownV (atV pb)∧P2 pb w') (Exit.panic _) _ _
 exact⟨rfl,pb,rfl,hp2⟩
set_option maxHeartbeats 1000000 in
theorem dtell_at {n:Int} {pb:Nat} (w:World) (hg:Handle w) (hp:w.cell? ⟨pb,0,none⟩=some (.int .i64 n)):Calls Tryz.prog 32 #[atV pb] w fun e w'=>e=.returned (.int .i64 n)∧Below w.heap.size w w':=by
 have hpl:=World.block_lt_of_cell? _ _ hp
 have hp0:=hg.pos
 have hg1:(w.alloc (.cells #[.int .i64 0] 33)).cell? ⟨0,0,none⟩=some (.iface 310 (.agg #[.pointer (some ⟨9,27,none⟩)])):=(World.cell?_alloc_lt _ _ ⟨0,0,none⟩ hp0).trans hg
 have hp1:(w.alloc (.cells #[.int .i64 0] 33)).cell? ⟨pb,0,none⟩=some (.int .i64 n):=(World.cell?_alloc_lt _ _ ⟨pb,0,none⟩ hpl).trans hp
 have hne:∀ w,(binOp .eql 27 (atV pb) .nilIface).run Tryz.prog w=.ok (.bool false) w:=fun _=>by kernel_rfl
 have HG:=hid hg1
 have HP:=hid hp1
 clear hg hg1 hp hp1
 go_enter Tryz.func32,Tryz.ntmps32
 go_wp2_with (go_at_call 93;refine (as_at n pb ⟨w.heap.size,0,none⟩ (.int .i64 0) _ HP.out HG.out (cell_one_new w _ _ 0 _ rfl) (by simp)).mono ?_;rintro e w' ⟨rfl,rfl⟩)
 go_ret
 refine⟨rfl,?_⟩
 exact (((((Below.refl _ w).alloc (Nat.le_refl _) _).alloc (by simp) _).alloc (by simp;omega) _).alloc (by simp;omega) _).alloc (by simp;omega) _
def ErrOf (w:World) (v:Value) (c:Int):Prop:=v=.iface 33 (.int .i64 c)∨∃ pb,v=atV pb∧w.cell? ⟨pb,0,none⟩=some (.int .i64 c)
def errT (c:Int):List UInt8:=[101,114,114,111,114,32]++Lib.itoa c
set_option maxRecDepth 100000 in
theorem tellErr_any {w:World} (hg:LibAt w) {v:Value} {c:Int} (hv:ErrOf w v c) (hc:I64 c):Calls Tryz.prog 12 #[v] w fun e w'=>e=.returned (txt (errT c))∧Below w.heap.size w w':=by
 rcases hv with rfl | ⟨pb,rfl,hp⟩
 ·exact tellError_any hg hc
 ·have HT:=hid (dtell_at w hg.hand hp)
  have HI:=hid (fun (W:World) (hW:Below w.heap.size w W)=>itoa_any (hg.below hW hg.room) hc)
  have hlen:¬ 9223372036854775807<6+(Lib.itoa c).length:=by have:=itoa_len hc;omega
  clear hg
  go_enter Tryz.func12,Tryz.ntmps12
  go_wp2_with (first | (go_at_call 32;refine HT.out.mono ?_;rintro e w1 ⟨rfl,hB1⟩) | (go_at_call 31;refine (HI.out _ hB1).mono ?_;rintro e w2 ⟨rfl,hB2⟩))
  go_ret
  exact⟨congrArg _ (txt_app [101,114,114,111,114,32] (Lib.itoa c)),hB1.trans (hB2.mono hB1.size)⟩
end Go.Proofs.YtjefgmeejhakbabGreatDoor
namespace Go.Proofs.YtjefgmeejhakbabGreatDoor
open Go.RowKit
structure Ses where
 E:Eng
 D:Dsk
 recs:List (List (Int × Int))
 torn:Int
 down:Bool
def sCells (d b mb:Nat):Array Value:=#[.pointer (some ⟨d,0,none⟩),.pointer (some ⟨b,0,none⟩),.map (some mb)]
def oS (S mb b d:Nat) (L:EnL) (dv:List Value) (g:Nat):Prop:=g=S∨g=mb∨g=b∨dOwn d dv g∨L.own g
structure SesAt (k:Nat) (w:World) (S mb d b:Nat) (L:EnL) (dv:List Value) (st:Ses):Prop where
 blk:w.heap[S]?=some (.cells (sCells d b mb) 88 (0,0))
 map:CMap w mb S cmds
 bas:BasAt w b d L st.E dv st.D st.recs.length st.torn st.down
 sS:S≠b∧¬ dOwn d dv S∧¬ L.own S
 sM:mb≠b∧¬ dOwn d dv mb∧¬ L.own mb
 low:∀ g,oS S mb b d L dv g→k≤g
 le:k≤w.heap.size
 lib:LibAt w
 room:9≤k
def SPost (k S mb d b:Nat) (L:EnL) (dv:List Value) (st:Ses) (w w':World):Prop :=
 ∃ b' L' dv',SesAt k w' S mb d b' L' dv' st∧KeptO (oS S mb b d L dv) (oS S mb b' d L' dv') w w'
section
variable {k S mb d b:Nat} {L L':EnL} {dv dv':List Value} {st st':Ses} {w w' w1:World}
theorem SesAt.ltS (h:SesAt k w S mb d b L dv st):S<w.heap.size:=(Array.getElem?_eq_some_iff.1 h.blk).1
theorem SesAt.own_lt (h:SesAt k w S mb d b L dv st) {g:Nat} (hg:oS S mb b d L dv g):g<w.heap.size:=by
 rcases hg with rfl | rfl | rfl | hg | hg
 ·exact h.ltS
 ·exact h.map.lt
 ·exact h.bas.lt
 ·exact h.bas.dsk.own_lt hg
 ·exact h.bas.en.own_lt hg
theorem SesAt.cell (h:SesAt k w S mb d b L dv st) (o:Nat):w.cell? ⟨S,o,none⟩=(sCells d b mb)[o]?:=cell_of_row w S o _ _ (0,0) h.blk
theorem kept_low {o o':Nat→Prop} (hK:KeptO o o' w w') (hl:∀ g,o g→k≤g) (hk:k≤w.heap.size):Below k w w' :=
 ⟨hK.os,hK.tape,hK.output,hK.size,fun g hg=>hK.block g (by omega) (fun ho=>by have:=hl g ho;omega)⟩
theorem SesAt.bpost' (h:SesAt k w S mb d b L dv st) (hB:BasAt w' b d L' st'.E dv' st'.D st'.recs.length st'.torn st'.down) (hP:BPost b d L L' dv dv' w w'):SesAt k w' S mb d b L' dv' st'∧KeptO (oS S mb b d L dv) (oS S mb b d L' dv') w w':=by
 have hS:=h.ltS
 have hm:=h.map.lt
 have nd:∀ g,¬ dOwn d dv g→g≠d:=fun g hg e=>hg (.inl e)
 have new:∀ g,g<w.heap.size→(¬ dOwn d dv g→¬ dOwn d dv' g)∧(¬ L.own g→¬ L'.own g):=fun g hg=>⟨fun h1 h2=>by
  rcases hP.dsw g h2 with h3 | h3
  ·exact h1 h3
  ·omega,fun h1 h2=>by
  rcases hP.enw g h2 with h3 | h3
  ·exact h1 h3
  ·omega⟩
 have hK:KeptO (oS S mb b d L dv) (oS S mb b d L' dv') w w':=⟨hP.os,hP.tape,hP.output,hP.size,fun g hg hn=>hP.block g hg (fun e=>hn (.inr (.inr (.inl e)))) (fun e=>hn (.inr (.inr (.inr (.inl (.inl e)))))) (fun e=>hn (.inr (.inr (.inr (.inr e))))),fun g hg=>by
  rcases hg with hg | hg | hg | hg | hg
  ·exact .inl (.inl hg)
  ·exact .inl (.inr (.inl hg))
  ·exact .inl (.inr (.inr (.inl hg)))
  ·exact (hP.dsw g hg).imp (fun h1=>.inr (.inr (.inr (.inl h1)))) id
  ·exact (hP.enw g hg).imp (fun h1=>.inr (.inr (.inr (.inr h1)))) id⟩
 have hBl:=kept_low hK h.low h.le
 refine⟨⟨(hP.block S hS h.sS.1 (nd S h.sS.2.1) h.sS.2.2).trans h.blk,h.map.same (hP.block mb hm h.sM.1 (nd mb h.sM.2.1) h.sM.2.2),hB,⟨h.sS.1,(new S hS).1 h.sS.2.1,(new S hS).2 h.sS.2.2⟩,⟨h.sM.1,(new mb hm).1 h.sM.2.1,(new mb hm).2 h.sM.2.2⟩,fun g hg=>?_,Nat.le_trans h.le hP.size,h.lib.below hBl h.room,h.room⟩,hK⟩
 rcases hK.sub g hg with h1 | h1
 ·exact h.low g h1
 ·have:=h.le;omega
theorem SesAt.bpost (h:SesAt k w S mb d b L dv st) (hB:BasAt w' b d L' st'.E dv' st'.D st'.recs.length st'.torn st'.down) (hP:BPost b d L L' dv dv' w w'):SPost k S mb d b L dv st' w w':=⟨b,L',dv',h.bpost' hB hP⟩
theorem SesAt.idle (h:SesAt k w S mb d b L dv st) (hB:Below w.heap.size w w'):SPost k S mb d b L dv st w w':=h.bpost (h.bas.below hB) (BPost.of_below hB)
theorem SesAt.eng {E':Eng} (h:SesAt k w S mb d b L dv st) (hP:EnPost L E' w w'):SPost k S mb d b L dv { st with E:=E' } w w':=by
 obtain⟨L',h1,h2,h3⟩:=h.bas.post hP
 exact h.bpost (st':={ st with E:=E' }) h1 (BPost.of_engine h2)
theorem SesAt.engK {E':Eng} (h:SesAt k w S mb d b L dv st) (hE:EnAt w' L' E') (hK:KeptO L.own L'.own w w') (hs:L'.s=L.s):SPost k S mb d b L dv { st with E:=E' } w w' :=
 h.bpost (st':={ st with E:=E' }) (h.bas.turn hE hK hs) (BPost.of_engine hK)
theorem SPost.below (h:SPost k S mb d b L dv st w w1) (hB:Below w1.heap.size w1 w'):SPost k S mb d b L dv st w w':=by
 obtain⟨b',L',dv',h1,h2⟩:=h
 obtain⟨b2,L2,dv2,h3,h4⟩:=h1.idle hB
 exact⟨b2,L2,dv2,h3,h2.trans h4⟩
theorem SPost.lib (h:SPost k S mb d b L dv st w w'):LibAt w':=by
 obtain⟨_,_,_,h1,_⟩:=h
 exact h1.lib
theorem SPost.pre (hB:Below w.heap.size w w1) (hp:SPost k S mb d b L dv st' w1 w'):SPost k S mb d b L dv st' w w':=by
 obtain⟨b',L',dv',h1,h2⟩:=hp
 exact⟨b',L',dv',h1,(KeptO.of_below hB).trans h2⟩
theorem SesAt.drewN (h:SesAt k w S mb d b L dv st) (q:Nat):SesAt k (w.drewN q) S mb d b L dv st :=
 ⟨h.blk,h.map.same rfl,h.bas.drewN q,h.sS,h.sM,h.low,h.le,h.lib.drewN q,h.room⟩
theorem SesAt.below (h:SesAt k w S mb d b L dv st) (hB:Below w.heap.size w w'):SesAt k w' S mb d b L dv st :=
 ⟨(hB.block S h.ltS).trans h.blk,h.map.same (hB.block mb h.map.lt),h.bas.below hB,h.sS,h.sM,h.low,Nat.le_trans h.le hB.size,h.lib.below hB h.lib.room,h.room⟩
set_option maxRecDepth 100000 in
theorem SesAt.engine (h:SesAt k w S mb d b L dv st):EngAt w S L.s:=fun q=>by
 have h:=h.drewN q
 have c1:=h.cell 1
 simp only [sCells,List.getElem?_toArray,List.getElem?_cons_zero,List.getElem?_cons_succ] at c1
 have HB:=hid (bengine_any h.bas)
 clear h
 generalize w.drewN q=w at c1 HB ⊢
 go_enter Tryz.func94,Tryz.ntmps94
 go_wp2_with (go_at_call 168;refine HB.out.mono ?_;rintro e w1 ⟨rfl,rfl⟩)
 go_ret
 exact⟨rfl,rfl⟩
end
inductive Out where
 | told:List UInt8→Out
 | err:Int→Out
def Out.Ends (o:Out) (e:Ending) (w:World):Prop:=match o with
 | .told l=>e=.returned (txt l)
 | .err c=>∃ v,e=thrownV v∧ErrOf w v c
structure SesOk (n:Nat) (st:Ses):Prop where
 mid:∃ a0 K0,Mid a0 K0 st.E.ce noQ∧∀ k v,K0 k=some v→Bnd v
 num:NumOk st.E n
 dsk:DskG st.D st.recs
 tn:0≤st.torn
 lft:st.D.cut=true→0≤st.D.left∧st.D.left≤9223372036854775807
end Go.Proofs.YtjefgmeejhakbabGreatDoor
namespace Go.Proofs.YtjefgmeejhakbabGreatDoor
open Go.RowKit
def DoesD (f:Nat) (nums:List Int) (st:Ses) (o:Out) (st':Ses):Prop :=
 ∀ (k:Nat) (w:World) (S mb d b:Nat) (L:EnL) (dv:List Value) (v:Value),SesAt k w S mb d b L dv st→NumsAt w v nums→(∀ g,v.ownBlock=some g→¬ oS S mb b d L dv g) →
  Calls Tryz.prog f #[.pointer (some ⟨S,0,none⟩),v] w fun e w'=>o.Ends e w'∧SPost k S mb d b L dv st' w w'
def Out.Fits:Out→Prop
 | .told l=>l.length≤10000000000
 | .err c=>I64 c
theorem fits_itoa {y:Int} (h:I64 y) (p:List UInt8) (hp:p.length≤1000):(Out.told (p++Lib.itoa y)).Fits:=by
 have:=itoa_len h
 show (p++Lib.itoa y).length≤10000000000
 rw [List.length_append]
 omega
theorem fits_nums {l:List Int} (h:∀ x∈l,I64 x) (hl:l.length≤1000) (p q:List UInt8) (hp:p.length≤1000) (hq:q.length≤1000):(Out.told (p++numsT l++q)).Fits:=by
 have:=numsT_len h
 show (p++numsT l++q).length≤10000000000
 rw [List.length_append,List.length_append]
 omega
theorem fits_list {l:List (List UInt8)} (h:∀ x∈l,x.length≤68) (hl:l.length≤1000000) (p:List UInt8) (hp:p.length≤1000):(Out.told (p++listT l)).Fits:=by
 have:=listT_len h
 show (p++listT l).length≤10000000000
 rw [List.length_append]
 omega
def Acts (n:Nat) (f:Nat) (nums:List Int) (st:Ses):Prop:=∃ o st',SesOk (n+1) st'∧o.Fits∧DoesD f nums st o st'
section
variable {n:Nat} {st:Ses}
theorem NumOk.mono {E:Eng} {n m:Nat} (h:NumOk E n) (hm:n≤m):NumOk E m:=fun u hu=>⟨Nat.le_trans (h u hu).1 hm,(h u hu).2⟩
theorem SesOk.next (h:SesOk n st):SesOk (n+1) st:=⟨h.mid,h.num.mono (Nat.le_succ _),h.dsk,h.tn,h.lft⟩
theorem SesOk.eng (h:SesOk n st) {E':Eng} (hM:∃ a0 K0,Mid a0 K0 E'.ce noQ∧∀ k v,K0 k=some v→Bnd v) (hN:NumOk E' (n+1)):SesOk (n+1) { st with E:=E' }:=⟨hM,hN,h.dsk,h.tn,h.lft⟩
theorem num_cases' (E:Eng) (m:Int):(m<1∨(E.txs.length:Int)<m)∨∃ (k:Nat) (t:Tx),m=(k:Int)+1∧E.txs[k]?=some t:=by
 by_cases h:m<1
 ·exact .inl (.inl h)
 ·by_cases h2:(E.txs.length:Int)<m
  ·exact .inl (.inr h2)
  ·obtain⟨k,hk⟩:∃ k:Nat,m=(k:Int)+1:=⟨(m-1).toNat,by omega⟩
   exact .inr ⟨k,_,hk,List.getElem?_eq_getElem (by omega)⟩
theorem ends_err {c:Int} {w:World}:(Out.err c).Ends (thrown c) w:=⟨_,rfl,.inl rfl⟩
theorem i64_small {c:Int} (h:0≤c∧c≤1000):I64 c:=by unfold I64;omega
theorem acts_begin (h:SesOk n st) (x:Int):Acts n 35 [x] st:=by
 have bad:∀ c:Int,(0≤c∧c≤1000)→c≠0→(∀ W L,EnAt W L st.E→Calls Tryz.prog 101 #[.pointer (some ⟨L.s,0,none⟩),.int .i64 x] W fun e w'=>e=.returned (.tuple #[.int .i64 0,errV c])∧Below W.heap.size W w')→Acts n 35 [x] st:=fun c hc h0 hb =>
  ⟨.err c,st,h.next,i64_small hc,fun k w S mb d b L dv v hs hv _=>by
   refine (dbegin_err (P:=fun w1=>SPost k S mb d b L dv st w w1) hs.engine hv (y:=0) (fun q=>(hb _ L (hs.drewN q).bas.en).mono (fun e w1 hh=>⟨by rw [← errV_err h0];exact hh.1,SPost.pre (below_drewN (Below.refl _ w) q) ((hs.drewN q).idle hh.2)⟩))).mono ?_
   rintro e w' ⟨rfl,w1,h1,hB⟩
   exact⟨ends_err,h1.below hB⟩⟩
 by_cases hlv:x=0∨x=1∨x=2
 ·by_cases hl:st.E.txs.length<200
  ·by_cases ho:(liveOnes st.E).length<6
   ·obtain⟨a0,K0,hM,hK⟩:=h.mid
    obtain⟨h1,h2⟩:=n_begin hM h.num hlv hl ho
    refine⟨.told (Lib.itoa ((st.E.txs.length:Int)+1)),_,h.eng ⟨a0,K0,h1,hK⟩ (h2.mono (Nat.le_succ _)),fits_itoa (p:=[]) (by unfold I64;omega) (by simp),fun k w S mb d b L dv v hs hv _=>?_⟩
    refine (dbegin_ok (P:=fun w1=>SPost k S mb d b L dv _ w w1) hs.engine hv (y:=(st.E.txs.length:Int)+1) (by unfold I64;omega) (fun _ h=>h.lib) (fun q=>(begin_ok (hs.drewN q).bas.en hlv hl ho).mono (fun e w1 hh=>⟨hh.1,by
     obtain⟨_,L',_,x1,x2,x3,_⟩:=hh
     exact SPost.pre (below_drewN (Below.refl _ w) q) ((hs.drewN q).engK x1 x2 x3)⟩))).mono ?_
    rintro e w' ⟨rfl,w1,h1,hB⟩
    exact⟨rfl,h1.below hB⟩
   ·exact bad 4 (by omega) (by omega) (fun W L hW=>begin_limit hW hlv hl (by omega))
  ·exact bad 12 (by omega) (by omega) (fun W L hW=>(begin_full hW hlv (by omega)).mono (fun e w' hh=>⟨hh.1,by rw [hh.2];exact Below.refl _ _⟩))
 ·exact bad 1 (by omega) (by omega) (fun W L hW=>(begin_arg (by omega) (by omega) (by omega)).mono (fun e w' hh=>⟨hh.1,by rw [hh.2];exact Below.refl _ _⟩))
theorem acts_read (h:SesOk n st) (hn4:n≤4000) (x:Int) {key:Int} (hkey:I64 key):Acts n 43 [x,key] st:=by
 have gen:∀ (y c:Int) (E':Eng),Bnd y→(0≤c∧c≤1000)→SesOk (n+1) { st with E:=E' }→(∀ W L,EnAt W L st.E→Handle W→Calls Tryz.prog 119 #[.pointer (some ⟨L.s,0,none⟩),.int .i64 x,.int .i64 key] W fun e w'=>e=.returned (.tuple #[.int .i64 y,errV c])∧EnPost L E' W w')→Acts n 43 [x,key] st:=fun y c E' hy hc hok hb=>by
  by_cases h0:c=0
  ·subst h0
   refine⟨.told ([105,115,32]++Lib.itoa y),_,hok,fits_itoa hy.i64 _ (by simp),fun k w S mb d b L dv v hs hv _=>?_⟩
   refine (dread_ok (P:=fun w1=>SPost k S mb d b L dv { st with E:=E' } w w1) hs.engine hv hy.i64 (fun _ h=>h.lib) (fun q=>(hb _ L (hs.drewN q).bas.en (hs.drewN q).lib.hand).mono (fun e w1 hh=>⟨hh.1,SPost.pre (below_drewN (Below.refl _ w) q) ((hs.drewN q).eng hh.2)⟩))).mono ?_
   rintro e w' ⟨rfl,w1,h1,hB⟩
   exact⟨rfl,h1.below hB⟩
  ·refine⟨.err c,_,hok,i64_small hc,fun k w S mb d b L dv v hs hv _=>?_⟩
   refine (dread_err (P:=fun w1=>SPost k S mb d b L dv { st with E:=E' } w w1) hs.engine hv (y:=y) (fun q=>(hb _ L (hs.drewN q).bas.en (hs.drewN q).lib.hand).mono (fun e w1 hh=>⟨by rw [← errV_err h0];exact hh.1,SPost.pre (below_drewN (Below.refl _ w) q) ((hs.drewN q).eng hh.2)⟩))).mono ?_
   rintro e w' ⟨rfl,w1,h1,hB⟩
   exact⟨ends_err,h1.below hB⟩
 have still:∀ {L:EnL} {W w':World},EnAt W L st.E→Below W.heap.size W w'→EnPost L st.E W w':=fun hW hB=>⟨_,hW.below hB,KeptO.of_below hB,rfl,rfl⟩
 have hz:Bnd 0:=by unfold Bnd;omega
 rcases num_cases' st.E x with hn | ⟨i,t,rfl,ht⟩
 ·exact gen 0 7 st.E hz (by omega) h.next (fun W L hW _=>(read_shut hW (c:=7) (.inl ⟨rfl,hn⟩)).mono (fun e w' hh=>⟨hh.1,by rw [hh.2];exact still hW (Below.refl _ _)⟩))
 ·by_cases hs:t.state=0
  ·cases hv:t.vals key with
   | some y =>
    obtain⟨a0,K0,hM,hK⟩:=h.mid
    have hy:Bnd y:=(hM.reg.fair i _ (cs_get ht)).fin _ _ hv
    exact gen y 0 st.E hy (by omega) h.next (fun W L hW _=>by
     obtain⟨l,hl,_⟩:=hW.get ht
     exact (read_own hW hl ht hs hkey hv).mono (fun e w' hh=>⟨hh.1,by rw [hh.2];exact still hW (Below.refl _ _)⟩))
   | none =>
    by_cases hk:0≤key∧key<10
    ·obtain⟨a0,K0,hM,hK⟩:=h.mid
     obtain⟨R,hR,hM2,hN2⟩:=n_read hM h.num ht hs hk hv
     obtain⟨b1,b2,b3⟩:=read_bnd hM hK hR
     refine gen R.1.1 R.1.2 R.2 b1 (by omega) (h.eng ⟨a0,K0,hM2,hK⟩ hN2) (fun W L hW hH=>?_)
     obtain⟨kn,rfl⟩:∃ kn:Nat,key=(kn:Int):=⟨key.toNat,by omega⟩
     obtain⟨l,hl,_⟩:=hW.get ht
     refine read_main hW hH hM.fits hl ht hs (by have:=(h.num t (List.mem_of_getElem? ht)).1;omega) (fun a=>hM.open_wr ht (live_iff.2 (.inl hs)) a) (k:=kn) (by omega) hv hR
    ·exact gen 0 2 st.E hz (by omega) h.next (fun W L hW hH=>by
      obtain⟨l,hl,_⟩:=hW.get ht
      exact (read_bad hW hH hl ht hs hkey hv (by unfold keyB;simp;omega)).mono (fun e w' hh=>⟨hh.1,still hW hh.2⟩))
  ·exact gen 0 6 st.E hz (by omega) h.next (fun W L hW _=>(read_shut hW (c:=6) (.inr ⟨rfl,i,t,rfl,ht,hs⟩)).mono (fun e w' hh=>⟨hh.1,by rw [hh.2];exact still hW (Below.refl _ _)⟩))
theorem put_code (E:Eng) (j:Nat):0≤(putE E j).1∧(putE E j).1≤100:=by
 unfold putE
 split
 ·split
  ·simp
  ·simp only
   split
   ·split<;>simp
   ·simp
 ·simp
theorem write_code {f:Nat} {q:Int→Nat} {E:Eng} {i:Nat} {key val:Int} {R:(Bool × Int) × Eng} (hR:writeE f q E i key val=some R):0≤R.1.2∧R.1.2≤1000:=by
 unfold writeE at hR
 split at hR
 ·split at hR
  ·cases hR;simp
  ·split at hR
   ·cases hR;simp
   ·split at hR
    ·obtain⟨E',_,rfl⟩:=Option.map_eq_some_iff.1 hR
     simp
    ·split at hR
     ·cases hR;simp
     ·obtain⟨R',h1,rfl⟩:=Option.map_eq_some_iff.1 hR
      simp only
      unfold writeR at h1
      split at h1
      rename_i why E' hp
      have h2:=put_code _ i |> fun h=>by rw [hp] at h;exact h
      split at h1
      ·cases h1;simp
      ·obtain⟨E3,_,rfl⟩:=Option.map_eq_some_iff.1 h1
       simp only
       simp only at h2
       omega
 ·cases hR
theorem acts_write (h:SesOk n st) (x key val:Int):Acts n 47 [x,key,val] st:=by
 have gen:∀ (y:Bool) (c:Int) (E':Eng),(0≤c∧c≤1000)→SesOk (n+1) { st with E:=E' }→(∀ W L,EnAt W L st.E→Calls Tryz.prog 124 #[.pointer (some ⟨L.s,0,none⟩),.int .i64 x,.int .i64 key,.int .i64 val] W fun e w'=>e=.returned (.tuple #[.bool y,errV c])∧EnPost L E' W w')→Acts n 47 [x,key,val] st:=fun y c E' hc hok hb=>by
  by_cases h0:c=0
  ·subst h0
   refine⟨.told (if y=true then [119,114,105,116,101] else [119,97,105,116,115]),_,hok,(by cases y<;>simp [Out.Fits]),fun k w S mb d b L dv v hs hv _=>?_⟩
   refine (dwrite_ok (P:=fun w1=>SPost k S mb d b L dv { st with E:=E' } w w1) hs.engine hv (fun _ h=>h.lib) (fun q=>(hb _ L (hs.drewN q).bas.en).mono (fun e w1 hh=>⟨hh.1,SPost.pre (below_drewN (Below.refl _ w) q) ((hs.drewN q).eng hh.2)⟩))).mono ?_
   rintro e w' ⟨rfl,w1,h1,hB⟩
   exact⟨rfl,h1.below hB⟩
  ·refine⟨.err c,_,hok,i64_small hc,fun k w S mb d b L dv v hs hv _=>?_⟩
   refine (dwrite_err (P:=fun w1=>SPost k S mb d b L dv { st with E:=E' } w w1) hs.engine hv (y:=y) (fun q=>(hb _ L (hs.drewN q).bas.en).mono (fun e w1 hh=>⟨by rw [← errV_err h0];exact hh.1,SPost.pre (below_drewN (Below.refl _ w) q) ((hs.drewN q).eng hh.2)⟩))).mono ?_
   rintro e w' ⟨rfl,w1,h1,hB⟩
   exact⟨ends_err,h1.below hB⟩
 have same:∀ {L:EnL} {W w':World},EnAt W L st.E→w'=W→EnPost L st.E W w':=fun hW e=>by rw [e];exact⟨_,hW,KeptO.refl _ _,rfl,rfl⟩
 rcases num_cases' st.E x with hn | ⟨i,t,rfl,ht⟩
 ·exact gen false 7 st.E (by omega) h.next (fun W L hW=>(write_shut hW (c:=7) (.inl ⟨rfl,hn⟩)).mono (fun e w' hh=>⟨hh.1,same hW hh.2⟩))
 ·by_cases hs:t.state=0
  ·by_cases hk:0≤key∧key<10
   ·by_cases hv:-1099511627776≤val∧val≤1099511627776
    ·obtain⟨a0,K0,hM,hK⟩:=h.mid
     obtain⟨q,hq⟩:=hM.loc.good.rank
     obtain⟨R,hR,hM2,hN2⟩:=n_write hM h.num ht hs hk hv hq
     exact gen R.1.1 R.1.2 R.2 (write_code hR) (h.eng ⟨a0,K0,hM2,hK⟩ (hN2.mono (Nat.le_succ _))) (fun W L hW=>write_main hW hM.fits hq ht hs hk hv hR)
    ·exact gen false 1 st.E (by omega) h.next (fun W L hW=>(write_bad hW ht hs (c:=1) (.inr ⟨hk,by omega,rfl⟩)).mono (fun e w' hh=>⟨hh.1,same hW hh.2⟩))
   ·exact gen false 2 st.E (by omega) h.next (fun W L hW=>(write_bad hW ht hs (c:=2) (.inl ⟨by omega,rfl⟩)).mono (fun e w' hh=>⟨hh.1,same hW hh.2⟩))
  ·exact gen false 6 st.E (by omega) h.next (fun W L hW=>(write_shut hW (c:=6) (.inr ⟨rfl,i,t,rfl,ht,hs⟩)).mono (fun e w' hh=>⟨hh.1,same hW hh.2⟩))
theorem acts_abort (h:SesOk n st) (x:Int):Acts n 33 [x] st:=by
 have bad:∀ c:Int,(0≤c∧c≤1000)→c≠0→(∀ W L,EnAt W L st.E→Calls Tryz.prog 95 #[.pointer (some ⟨L.s,0,none⟩),.int .i64 x] W fun e w'=>e=.returned (errV c)∧w'=W)→Acts n 33 [x] st:=fun c hc h0 hb =>
  ⟨.err c,st,h.next,i64_small hc,fun k w S mb d b L dv v hs hv _=>by
   refine (dabort_err (P:=fun w1=>SPost k S mb d b L dv st w w1) hs.engine hv (fun q=>(hb _ L (hs.drewN q).bas.en).mono (fun e w1 hh=>⟨by rw [← errV_err h0];exact hh.1,by rw [hh.2];exact hs.idle (below_drewN (Below.refl _ w) q)⟩))).mono ?_
   rintro e w' ⟨rfl,h1⟩
   exact⟨ends_err,h1⟩⟩
 rcases num_cases' st.E x with hn | ⟨i,t,rfl,ht⟩
 ·exact bad 7 (by omega) (by omega) (fun W L hW=>abort_miss hW hn)
 ·cases hl:liveB t.state with
  | false=>exact bad 6 (by omega) (by omega) (fun W L hW=>abort_over hW ht hl)
  | true =>
   obtain⟨a0,K0,hM,hK⟩:=h.mid
   obtain⟨E',hE',hM2,hN2⟩:=n_abort hM h.num ht hl
   refine⟨.told [97,98,111,114,116],_,h.eng ⟨a0,K0,hM2,hK⟩ (hN2.mono (Nat.le_succ _)),(by simp [Out.Fits]),fun k w S mb d b L dv v hs hv _=>?_⟩
   refine (dabort_ok (P:=fun w1=>SPost k S mb d b L dv { st with E:=E' } w w1) hs.engine hv (fun q=>(abort_main (hs.drewN q).bas.en hM.fits ht hl hE').mono (fun e w1 hh=>⟨hh.1,SPost.pre (below_drewN (Below.refl _ w) q) ((hs.drewN q).eng hh.2)⟩))).mono ?_
   rintro e w' ⟨rfl,h1⟩
   exact⟨rfl,h1⟩
theorem acts_state (h:SesOk n st) (x:Int):Acts n 44 [x] st:=by
 rcases num_cases' st.E x with hn | ⟨i,t,rfl,ht⟩
 ·refine⟨.err 7,st,h.next,i64_small (by omega),fun k w S mb d b L dv v hs hv _=>?_⟩
  refine (dstate_err (P:=fun w1=>SPost k S mb d b L dv st w w1) hs.engine hv (fun q=>(state_err (hs.drewN q).bas.en hn).mono (fun e w1 hh=>⟨hh.1,by rw [hh.2];exact hs.idle (below_drewN (Below.refl _ w) q)⟩))).mono ?_
  rintro e w' ⟨rfl,w1,h1,hB⟩
  exact⟨ends_err,h1.below hB⟩
 ·obtain⟨a0,K0,hM,hK⟩:=h.mid
  obtain⟨b1,b2⟩:=tx_bnd hM h.num ht
  refine⟨.told (numsT [t.state,t.why]),st,h.next,(by have:=numsT2_len b1 b2;show (numsT [t.state,t.why]).length≤10000000000;omega),fun k w S mb d b L dv v hs hv _=>?_⟩
  refine (dstate_ok (P:=fun w1=>SPost k S mb d b L dv st w w1) hs.engine hv b1 b2 (fun _ h=>h.lib) (fun q=>(state_ok (hs.drewN q).bas.en ht).mono (fun e w1 hh=>⟨hh.1,by
   obtain⟨_,q2,rfl⟩:=hh
   exact hs.idle (below_drewN (below_drewN (Below.refl _ w) q) q2)⟩))).mono ?_
  rintro e w' ⟨rfl,w1,h1,hB⟩
  exact⟨rfl,h1.below hB⟩
theorem acts_waits (h:SesOk n st) {x:Int} (hx:I64 x):Acts n 46 [x] st:=by
 obtain⟨a0,K0,hM,hK⟩:=h.mid
 refine⟨.told (Lib.itoa (waitsE st.E x)),st,h.next,fits_itoa (p:=[]) (waits_bnd hM x) (by simp),fun k w S mb d b L dv v hs hv _=>?_⟩
 refine (dwaits_ok (P:=fun w1=>SPost k S mb d b L dv st w w1) hs.engine hv (waits_bnd hM x) (fun _ h=>h.lib) (fun q=>(waitsE_any (hs.drewN q).bas.en hx).mono (fun e w1 hh=>⟨hh.1,by
  obtain⟨_,q2,rfl⟩:=hh
  exact hs.idle (below_drewN (below_drewN (Below.refl _ w) q) q2)⟩))).mono ?_
 rintro e w' ⟨rfl,w1,h1,hB⟩
 exact⟨rfl,h1.below hB⟩
theorem acts_sweep (h:SesOk n st):Acts n 45 [] st:=by
 obtain⟨a0,K0,hM,hK⟩:=h.mid
 refine⟨.told (Lib.itoa (sweepN (leastE st.E) st.E.ks:Nat)),{ st with E:=sweepE st.E },h.eng ⟨a0,K0,hM.sweep,hK⟩ (h.num.mono (Nat.le_succ _)),fits_itoa (p:=[]) ((many_bnd hM).2 _) (by simp),fun k w S mb d b L dv v hs hv _=>?_⟩
 refine (dsweep_ok (P:=fun w1=>SPost k S mb d b L dv { st with E:=sweepE st.E } w w1) hs.engine ((many_bnd hM).2 _) (fun _ h=>h.lib) ((sweepE_any hs.bas.en hM.fits).mono (fun e w1 hh=>⟨hh.1,hs.eng hh.2⟩))).mono ?_
 rintro e w' ⟨rfl,w1,h1,hB⟩
 exact⟨rfl,h1.below hB⟩
end
end Go.Proofs.YtjefgmeejhakbabGreatDoor
namespace Go.Proofs.YtjefgmeejhakbabGreatDoor
open Go.RowKit
section
variable {n:Nat} {st:Ses}
theorem acts_commit (h:SesOk n st) (x:Int):Acts n 36 [x] st:=by
 have bad:∀ (c:Int) (st':Ses),(0≤c∧c≤1000)→SesOk (n+1) st'→(∀ (k:Nat) (w:World) (S mb d b:Nat) (L:EnL) (dv:List Value),SesAt k w S mb d b L dv st→Calls Tryz.prog 102 #[.pointer (some ⟨b,0,none⟩),.int .i64 x] w fun e w'=>e=.returned (.iface 33 (.int .i64 c))∧SPost k S mb d b L dv st' w w')→Acts n 36 [x] st:=fun c st' hc hok hb =>
  ⟨.err c,st',hok,i64_small hc,fun k w S mb d b L dv v hs hv _=>by
   refine (dcommit_err (P:=fun w1=>SPost k S mb d b L dv st' w w1) (s:=b) ((hs.cell 1).trans rfl) hv (fun q=>(hb k _ S mb d b L dv (hs.drewN q)).mono (fun e w1 hh=>⟨hh.1,SPost.pre (below_drewN (Below.refl _ w) q) hh.2⟩))).mono ?_
   rintro e w' ⟨rfl,h1⟩
   exact⟨ends_err,h1⟩⟩
 have good:∀ (st':Ses),SesOk (n+1) st'→(∀ (k:Nat) (w:World) (S mb d b:Nat) (L:EnL) (dv:List Value),SesAt k w S mb d b L dv st→Calls Tryz.prog 102 #[.pointer (some ⟨b,0,none⟩),.int .i64 x] w fun e w'=>e=.returned .nilIface∧SPost k S mb d b L dv st' w w')→Acts n 36 [x] st:=fun st' hok hb =>
  ⟨.told [99,111,109,109,105,116],st',hok,(by simp [Out.Fits]),fun k w S mb d b L dv v hs hv _=>by
   refine (dcommit_ok (P:=fun w1=>SPost k S mb d b L dv st' w w1) (s:=b) ((hs.cell 1).trans rfl) hv (fun q=>(hb k _ S mb d b L dv (hs.drewN q)).mono (fun e w1 hh=>⟨hh.1,SPost.pre (below_drewN (Below.refl _ w) q) hh.2⟩))).mono ?_
   rintro e w' ⟨rfl,h1⟩
   exact⟨rfl,h1⟩⟩
 rcases num_cases' st.E x with hn | ⟨i,t,rfl,ht⟩
 ·exact bad 7 st (by omega) h.next (fun k w S mb d b L dv hs=>(bcommit_shut hs.bas (c:=7) (.inl ⟨rfl,hn⟩)).mono (fun e w' hh=>⟨hh.1,hs.idle hh.2⟩))
 ·by_cases hs0:t.state=0
  ·obtain⟨a0,K0,hM,hK⟩:=h.mid
   obtain⟨R,hR,hM2,hN2,hR0,hR13⟩:=n_commit hM h.num ht hs0
   have hok2:SesOk (n+1) { st with E:=R.2 }:=h.eng ⟨a0,K0,hM2,hK⟩ (hN2.mono (Nat.le_succ _))
   have plain:(betB t.ahead t.behind=true∨writesP t.vals=[])→∀ (k:Nat) (w:World) (S mb d b:Nat) (L:EnL) (dv:List Value),SesAt k w S mb d b L dv st→Calls Tryz.prog 102 #[.pointer (some ⟨b,0,none⟩),.int .i64 ((i:Int)+1)] w fun e w'=>e=.returned (errV R.1)∧SPost k S mb d b L dv { st with E:=R.2 } w w':=fun hp k w S mb d b L dv hs=>(bcommit_plain hs.bas (hM.cm ht) ht hs0 hp hR).mono (fun e w' hh=>⟨hh.1,by
    obtain⟨_,w1,hB1,hP⟩:=hh
    exact SPost.pre hB1 ((hs.below hB1).eng hP)⟩)
   cases hb:betB t.ahead t.behind with
   | true=>exact bad 13 _ (by omega) hok2 (fun k w S mb d b L dv hs=>(plain (.inl hb) k w S mb d b L dv hs).mono (fun e w' hh=>⟨by rw [hh.1,hR13 hb];rfl,hh.2⟩))
   | false =>
    by_cases hne:writesP t.vals=[]
    ·exact good _ hok2 (fun k w S mb d b L dv hs=>(plain (.inr hne) k w S mb d b L dv hs).mono (fun e w' hh=>⟨by rw [hh.1,hR0 hb];rfl,hh.2⟩))
    ·by_cases hdn:st.down=true
     ·exact bad 6 st (by omega) h.next (fun k w S mb d b L dv hs=>(bcommit_stop hs.bas (hM.cm ht) ht hs0 hb hne (rc:=6) (.inl ⟨rfl,hdn⟩)).mono (fun e w' hh=>⟨hh.1,hs.idle hh.2⟩))
     ·have hdn':st.down=false:=by simpa using hdn
      by_cases hfull:250≤st.recs.length
      ·exact bad 4 st (by omega) h.next (fun k w S mb d b L dv hs=>(bcommit_stop hs.bas (hM.cm ht) ht hs0 hb hne (rc:=4) (.inr ⟨rfl,hdn',by omega⟩)).mono (fun e w' hh=>⟨hh.1,hs.idle hh.2⟩))
      ·have hfine:=writesP_fine (t:=t) (hM.reg.fair i _ (cs_get ht)).vk (hM.fine ht)
       cases hpw:powerB st.D with
       | true =>
        have hpos:st.D.cut=true→0<st.D.left:=fun e=>by
         unfold powerB at hpw
         rw [e] at hpw
         simpa using hpw
        refine good { E:=R.2,D:=writeD st.D st.recs.length (recP (writesP t.vals)) st.torn,recs:=st.recs++[writesP t.vals],torn:=st.torn,down:=false } ⟨⟨a0,K0,hM2,hK⟩,hN2.mono (Nat.le_succ _),h.dsk.write (writesP_len _) hfine hne (by omega) st.torn hpw,h.tn,fun e=>?_⟩ (fun k w S mb d b L dv hs=>?_)
        ·have e2:st.D.cut=true:=by
          have e:=e
          simp only [writeD,if_pos hpw] at e
          exact e
         have h1:=h.lft e2
         have h2:=hpos e2
         simp only [writeD,if_pos hpw,if_pos e2]
         omega
        ·have hbas:=hs.bas
         rw [hdn'] at hbas
         refine (bcommit_ok hbas h.dsk.1 (hM.cm ht) ht hs0 hb hne (fun e=>by have h1:=h.lft e;have h2:=hpos e;unfold I64;omega) (by omega) hpw hR).mono ?_
         rintro e w' ⟨he,L',dv',k1,k2,k3⟩
         refine⟨by rw [he,hR0 hb];rfl,hs.bpost ?_ k2⟩
         have e1:(((st.recs++[writesP t.vals]).length:Nat):Int)=(st.recs.length:Int)+1:=by simp
         show BasAt w' b d L' R.2 dv' _ ((st.recs++[writesP t.vals]).length:Nat) _ _
         rw [e1]
         exact k1
       | false =>
        refine bad 14 { E:=st.E,D:=writeD st.D st.recs.length (recP (writesP t.vals)) st.torn,recs:=st.recs,torn:=st.torn,down:=true } (by omega) ⟨⟨a0,K0,hM,hK⟩,h.num.mono (Nat.le_succ _),h.dsk.off _ st.torn (by omega) hpw,h.tn,fun e=>?_⟩ (fun k w S mb d b L dv hs=>?_)
        ·simp only [writeD,hpw,Bool.false_eq_true,if_false] at e ⊢
         exact h.lft e
        ·have hbas:=hs.bas
         rw [hdn'] at hbas
         refine (bcommit_down hbas h.dsk.1 (hM.cm ht) ht hs0 hb hne h.tn (by omega) hpw).mono ?_
         rintro e w' ⟨he,dv',k1,k2⟩
         exact⟨he,hs.bpost k1 k2⟩
  ·exact bad 6 st (by omega) h.next (fun k w S mb d b L dv hs=>(bcommit_shut hs.bas (c:=6) (.inr ⟨rfl,i,t,rfl,ht,hs0⟩)).mono (fun e w' hh=>⟨hh.1,hs.idle hh.2⟩))
theorem acts_now (h:SesOk n st):Acts n 41 [] st:=by
 obtain⟨a0,K0,hM,hK⟩:=h.mid
 have hl:st.E.txs.length≤200:=by have:=hM.reg.len;simpa [Eng.ce] using this
 refine⟨.told (numsT [(st.E.txs.length:Int),st.E.last,(manyP st.E.ks:Nat),st.recs.length]++[32]++boolT st.down),st,h.next,(by
  have h1:=last_bnd hM
  have h2:=(many_bnd hM).1
  have h3:=h.dsk.1.lt
  rw [List.append_assoc]
  refine fits_nums (p:=[]) (l:=[(st.E.txs.length:Int),st.E.last,(manyP st.E.ks:Nat),st.recs.length]) (fun x hx=>?_) (by simp) _ (by simp) (by cases st.down<;>simp [boolT])
  simp only [List.mem_cons,List.not_mem_nil,or_false] at hx
  rcases hx with rfl | rfl | rfl | rfl
  ·unfold I64;omega
  ·exact h1
  ·exact h2
  ·unfold I64;omega),fun k w S mb d b L dv v hs hv _=>?_⟩
 refine (dnow_ok hs.engine ((hs.cell 1).trans rfl) hs.lib (by unfold I64;omega) (last_bnd hM) (many_bnd hM).1 (by have:=h.dsk.1.lt;unfold I64;omega) (fun W hW=>txsE_any (hs.below hW).bas.en) (fun W hW=>lastE_any (hs.below hW).bas.en) (fun W hW=>manyE_any (hs.below hW).bas.en (fun l hl=>Nat.le_trans (hM.fits.len l hl) (by omega))) (fun W hW=>bused_any (hs.below hW).bas) (fun W hW=>bdown_any (hs.below hW).bas)).mono ?_
 rintro e w' ⟨rfl,hB⟩
 exact⟨rfl,hs.idle hB⟩
theorem acts_all (h:SesOk n st):Acts n 34 [] st:=by
 obtain⟨a0,K0,hM,hK⟩:=h.mid
 obtain⟨b1,b2⟩:=all_bnd hM hK
 refine⟨.told ([97,108,108,32]++listT ((allE st.E).map fun p=>numsT [p.1,p.2])),st,h.next,fits_list (fun x hx=>by
  obtain⟨p,hp,rfl⟩:=List.mem_map.1 hx
  have:=numsT2_len (b1 p hp).1 (b1 p hp).2
  omega) (by rw [List.length_map];omega) _ (by simp),fun k w S mb d b L dv v hs hv _=>?_⟩
 refine (dall_ok (P:=fun w1=>SPost k S mb d b L dv st w w1) hs.engine b1 (by omega) (fun _ h=>h.lib) ((allE_any hs.bas.en hM.fits).mono (fun e w1 hh=>by
  obtain⟨tv,he,hr,hB⟩:=hh
  exact⟨tv,he,hr,hs.idle hB⟩))).mono ?_
 rintro e w' ⟨rfl,w1,h1,hB⟩
 exact⟨rfl,h1.below hB⟩
theorem ses_hist (h:SesOk n st) (hn:n≤4000) {k:Nat} {w:World} {S mb d b:Nat} {L:EnL} {dv:List Value} (hs:SesAt k w S mb d b L dv st) :
  Calls Tryz.prog 108 #[.pointer (some ⟨L.s,0,none⟩)] w fun e w'=>∃ u,e=.returned u∧w'.ownsRow w.heap.size 138 4 u (histP st.E).length (opsV (histP st.E))∧Below w.heap.size w w':=by
 obtain⟨a0,K0,hM,hK⟩:=h.mid
 exact hist_big hs.bas.en (fun i _ t ht=>Nat.le_trans (h.num t (List.mem_of_getElem? ht)).1 (by omega)) (com_len hM)
theorem acts_history (h:SesOk n st) (hn:n≤4000):Acts n 39 [] st:=by
 obtain⟨a0,K0,hM,hK⟩:=h.mid
 refine⟨.told ([104,105,115,116,111,114,121,32]++listT ((histP st.E).map opT)),st,h.next,fits_list (fun x hx=>by
  obtain⟨o,ho,rfl⟩:=List.mem_map.1 hx
  have hb:=hist_bnd hM h.num o ho
  exact opT_len (by unfold I64;omega) (by unfold I64;omega) (by unfold I64;omega)) (by rw [List.length_map];exact hist_len hM h.num hn) _ (by simp),fun k w S mb d b L dv v hs hv _=>?_⟩
 refine (dhistory_ok (P:=fun w1=>SPost k S mb d b L dv st w w1) hs.engine (fun o ho=>by have:=hist_bnd hM h.num o ho;unfold I64;omega) (hist_len hM h.num hn) (fun _ h=>h.lib) ((ses_hist h hn hs).mono (fun e w1 hh=>by
  obtain⟨u,he,hr,hB⟩:=hh
  exact⟨u,he,hr,hs.idle hB⟩))).mono ?_
 rintro e w' ⟨rfl,w1,h1,hB⟩
 exact⟨rfl,h1.below hB⟩
theorem acts_help (h:SesOk n st):Acts n 38 [] st:=by
 refine⟨.told helpT,st,h.next,(by show helpT.length≤10000000000;decide +kernel),fun k w S mb d b L dv v hs hv _=>?_⟩
 refine (help_any hs.blk (mb:=mb) rfl hs.map).mono ?_
 rintro e w' ⟨rfl,hB⟩
 exact⟨rfl,hs.idle hB⟩
end
end Go.Proofs.YtjefgmeejhakbabGreatDoor
namespace Go.Proofs.YtjefgmeejhakbabGreatDoor
open Go.RowKit
section
variable {n:Nat} {st:Ses}
theorem ops_row {w:World} {base:Nat} {u:Value} {l:List Opp} (h:w.ownsRow base 138 4 u l.length (opsV l)) (hl:∀ o∈l,I64 o.1∧I64 o.2.1∧I64 o.2.2.2):∃ ad cap,u=.slice ad l.length cap∧OpsAt w ad l:=by
 rcases row_slice h with ⟨rfl,hn0⟩ | ⟨g,c,rfl,hg,hc⟩
 ·refine⟨none,0,by rw [hn0],fun i o ho=>?_⟩
  rw [List.eq_nil_of_length_eq_zero hn0] at ho
  cases ho
 ·refine⟨_,c,rfl,fun i o ho=>?_⟩
  obtain⟨v1,v2,v3,v4⟩:=opsV_get' l i o ho
  refine⟨g,0,rfl,hg,?_,hl o (List.mem_of_getElem? ho)⟩
  rw [Nat.zero_add]
  exact⟨hc _ _ v1,hc _ _ v2,hc _ _ v3,hc _ _ v4⟩
theorem nums_row {w:World} {base:Nat} {u:Value} {l:List Int} (h:w.ownsRow base 3 1 u l.length (intsV l)):NumsAt w u l:=by
 have hcap:∀ g c,u=.slice (some ⟨g,0,none⟩) l.length c→l.length≤c:=fun g c e=>by
  rcases h.2 with ⟨e1,_⟩ | ⟨g',cap,cur,e1,_,_,hn,_⟩
  ·rw [e] at e1;cases e1
  ·rw [e] at e1;cases e1;exact hn
 rcases row_slice h with ⟨rfl,hn0⟩ | ⟨g,c,rfl,hg,hc⟩
 ·have:l=[]:=List.eq_nil_of_length_eq_zero hn0
  subst this
  exact⟨none,0,0,0,rfl,fun h=>by simp at h,by simp,fun j x hx=>by simp at hx⟩
 ·refine⟨_,g,0,c,rfl,fun _=>rfl,hcap g c rfl,fun j x hx=>?_⟩
  rw [Nat.zero_add]
  exact hc j _ (by simp [intsV,hx])
theorem acts_line (h:SesOk n st) (hn:n≤4000):Acts n 40 [] st:=by
 obtain⟨a0,K0,hM,hK⟩:=h.mid
 have hb:=hist_bnd hM h.num
 have hlen:=hist_len hM h.num hn
 have h64:∀ o∈histP st.E,I64 o.1∧I64 o.2.1∧I64 o.2.2.2:=fun o ho=>by have:=hb o ho;unfold I64;omega
 have hfine:FineTo opBad (histP st.E) (histP st.E).length:=⟨Nat.le_refl _,fun j o _ ho=>by
  have:=hb o (List.mem_of_getElem? ho)
  unfold opBad
  simp only [decide_eq_false_iff_not]
  omega,fun h=>by omega⟩
 obtain⟨mr,hr⟩:=fineTo_ex (badRead (histP st.E)) (histP st.E)
 have hh:∀ {k:Nat} {w:World} {S mb d b:Nat} {L:EnL} {dv:List Value},SesAt k w S mb d b L dv st→Calls Tryz.prog 108 #[.pointer (some ⟨L.s,0,none⟩)] w fun e w1=>∃ u,e=.returned u∧((∃ ad cap,u=.slice ad (histP st.E).length cap∧OpsAt w1 ad (histP st.E))∧Below w.heap.size w w1):=fun hs=>(ses_hist h hn hs).mono (fun e w1 hh=>by
  obtain⟨u,he,hrow,hB⟩:=hh
  exact⟨u,he,ops_row hrow h64,hB⟩)
 by_cases h2:mr<(histP st.E).length
 ·refine⟨.err 1,st,h.next,i64_small (by omega),fun k w S mb d b L dv v hs hv _=>?_⟩
  refine (dline_at (P2:=fun pb w2=>w2.cell? ⟨pb,0,none⟩=some (.int .i64 1)∧Below w.heap.size w w2) hs.engine (hh hs) (fun u w1 hp=>by
   obtain⟨⟨ad,cap,rfl,hO⟩,hB⟩:=hp
   refine (lineL_err ad cap _ 1 mr w1 (edges_ground ad cap _ mr w1 hlen hO hfine hr h2)).mono ?_
   rintro e w2 ⟨pb,rfl,hp,hB2⟩
   exact⟨_,pb,rfl,(cell_of_row _ _ 0 _ _ (0,0) hp).trans rfl,hB.trans (hB2.mono hB.size)⟩)).mono ?_
  rintro e w' ⟨pb,rfl,h1,hB⟩
  exact⟨⟨_,rfl,.inr ⟨pb,rfl,h1⟩⟩,hs.idle hB⟩
 ·obtain rfl:mr=(histP st.E).length:=by have:=hr.le;omega
  by_cases hE:∃ E out,IsEdges (histP st.E) E∧lineP E (txsP (histP st.E)).length (txsP (histP st.E))=some out
  ·obtain⟨E,out,hE,hout⟩:=hE
   obtain⟨m1,m2,_⟩:=line_ok E _ _ out (Nat.le_refl _) (nodup_txs _) hout
   have ho64:∀ x∈out,1≤x∧x≤200:=fun x hx=>by
    obtain⟨o,ho,rfl⟩:=mem_txs.1 ((m1 x).1 hx)
    exact (hb o ho).1
   have hol:out.length≤201:=by
    have:=nodup_lt 201 (out.map Int.toNat) (List.pairwise_map.2 (m2.imp_of_mem (fun {a b} ha hb' hab e=>hab (by
     have:=ho64 a ha;have:=ho64 b hb';omega)))) (fun x hx=>by
     obtain⟨y,hy,rfl⟩:=List.mem_map.1 hx
     have:=ho64 y hy
     omega)
    simpa using this
   refine⟨.told ([108,105,110,101,32]++numsT out),st,h.next,(by have:=fits_nums (l:=out) (fun x hx=>by have:=ho64 x hx;unfold I64;omega) (by omega) [108,105,110,101,32] [] (by simp) (by simp);rwa [List.append_nil] at this),fun k w S mb d b L dv v hs hv _=>?_⟩
   refine (dline_ok (P2:=fun w2=>SPost k S mb d b L dv st w w2) hs.engine (fun x hx=>by have:=ho64 x hx;unfold I64;omega) (by omega) (fun _ h=>h.lib) (hh hs) (fun u w1 hp=>by
    obtain⟨⟨ad,cap,rfl,hO⟩,hB⟩:=hp
    refine (lineL_ok ad cap _ w1 hlen hO hfine hr).mono ?_
    rintro e w2 ⟨E',hE',hB2,⟨x,out',rfl,ho',hrow⟩ | ⟨_,hno⟩⟩
    ·obtain rfl:=edges_one hE hE'
     rw [hout] at ho'
     cases ho'
     exact⟨x,rfl,nums_row hrow,hs.idle (hB.trans (hB2.mono hB.size))⟩
    ·obtain rfl:=edges_one hE hE'
     rw [hout] at hno
     cases hno)).mono ?_
   rintro e w' ⟨rfl,w1,h1,hB⟩
   exact⟨rfl,h1.below hB⟩
  ·refine⟨.err 11,st,h.next,i64_small (by omega),fun k w S mb d b L dv v hs hv _=>?_⟩
   refine (dline_err (c:=11) (P2:=fun w2=>SPost k S mb d b L dv st w w2) hs.engine (hh hs) (fun u w1 hp=>by
    obtain⟨⟨ad,cap,rfl,hO⟩,hB⟩:=hp
    refine (lineL_ok ad cap _ w1 hlen hO hfine hr).mono ?_
    rintro e w2 ⟨E',hE',hB2,⟨x,out',rfl,ho',hrow⟩ | ⟨rfl,hno⟩⟩
    ·exact (hE ⟨E',out',hE',ho'⟩).elim
    ·exact⟨_,rfl,hs.idle (hB.trans (hB2.mono hB.size))⟩)).mono ?_
   rintro e w' ⟨rfl,h1⟩
   exact⟨ends_err,h1⟩
theorem SesAt.power {k:Nat} {w w':World} {S mb d b:Nat} {L:EnL} {dv:List Value} {D1:Dsk} (hs:SesAt k w S mb d b L dv st) (hD:DiskAt w' d dv D1) (hz:w'.heap.size=w.heap.size∧w'.os=w.os∧w'.tape=w.tape∧w'.output=w.output) (hk:∀ j,j≠d→w'.heap[j]?=w.heap[j]?) :
  SesAt k w' S mb d b L dv { st with D:=D1 }∧KeptO (oS S mb b d L dv) (oS S mb b d L dv) w w' :=
 hs.bpost' (st':={ st with D:=D1 }) (hs.bas.setDisk hD (fun g hg=>.inl hg) (fun j _ hj=>hk j hj)) ⟨hz.2.1,hz.2.2.1,hz.2.2.2,by omega,fun j _ _ hj _=>hk j hj,fun g hg=>.inl hg,fun g hg=>.inl hg⟩
theorem acts_cut (h:SesOk n st) {x y:Int} (hx:I64 x):Acts n 37 [x,y] st:=by
 refine⟨.told [99,117,116],{ st with D:={ st.D with cut:=decide (x≥0),left:=x },torn:=max 0 y },⟨h.mid,h.num.mono (Nat.le_succ _),h.dsk.cut _ _,Int.le_max_left _ _,fun e=>?_⟩,(by simp [Out.Fits]),fun k w S mb d b L dv v hs hv hno=>?_⟩
 ·have:x≥0:=by simpa using e
  unfold I64 at hx
  exact⟨this,hx.2⟩
 ·obtain⟨ad,g,o,cap,rfl,had,hcap,hcells⟩:=hv
  obtain rfl:=had (by simp)
  have c0:=hcells 0 x rfl
  have c1:=hcells 1 y rfl
  rw [Nat.add_zero] at c0
  have hg:=hno g rfl
  have hgl:g<w.heap.size:=World.block_lt_of_cell? _ _ c0
  refine (dcut_ok (d:=d) (b:=b) (g:=g) (o:=o) (cap:=cap) (k:=y) (P:=fun w1=>SesAt k w1 S mb d b L dv { st with D:={ st.D with cut:=decide (x≥0),left:=x } }∧KeptO (oS S mb b d L dv) (oS S mb b d L dv) w w1) (P2:=fun w2=>SPost k S mb d b L dv { st with D:={ st.D with cut:=decide (x≥0),left:=x },torn:=max 0 y } w w2) ((hs.cell 0).trans rfl) c0 (fun q=>(dcut_any (hs.drewN q).bas.dsk x).mono (fun e w1 hh=>⟨hh.1,by
   obtain⟨_,hD,hz,hk⟩:=hh
   obtain⟨q1,q2⟩:=(hs.drewN q).power hD hz hk
   exact⟨q1,(KeptO.of_below (below_drewN (Below.refl _ w) q)).trans q2⟩⟩)) (fun w1 hp=>⟨(hp.1.cell 1).trans rfl,(World.cell?_of_block (a:=⟨g,o+1,none⟩) (hp.2.block g hgl hg)).trans c1⟩) (fun w1 q hp=>(btorn_any (hp.1.drewN q).bas y).mono (fun e w2 hh=>⟨hh.1,by
   obtain⟨_,hb,hz,hk⟩:=hh
   obtain⟨q1,q2⟩:=(hp.1.drewN q).bpost' (st':={ st with D:={ st.D with cut:=decide (x≥0),left:=x },torn:=max 0 y }) hb ⟨hz.2.1,hz.2.2.1,hz.2.2.2,by rw [hz.1];exact Nat.le_refl _,fun j _ hj _ _=>hk j hj,fun g hg=>.inl hg,fun g hg=>.inl hg⟩
   exact⟨b,L,dv,q1,(hp.2.trans (KeptO.of_below (below_drewN (Below.refl _ w1) q))).trans q2⟩⟩))).mono ?_
  rintro e w' ⟨rfl,h1⟩
  exact⟨rfl,h1⟩
theorem lastOf_mem' {ws:List (Int × Int)} {k x:Int} (h:lastOf ws k=some x):(k,x)∈ws:=by
 unfold lastOf at h
 obtain⟨p,hp,rfl⟩:=Option.map_eq_some_iff.1 h
 have h1:=List.mem_filter.1 (List.mem_of_getLast? hp)
 have h2:p.1=k:=by simpa using h1.2
 rw [← h2]
 exact h1.1
def reSes (st:Ses):Ses:={ E:=engO st.recs.length st.recs.flatten,D:={ st.D with cut:=decide ((-1:Int)≥0),left:=-1 },recs:=st.recs,torn:=0,down:=false }
theorem reSes_ok {m:Nat} (hd:DskG st.D st.recs):SesOk m (reSes st):=by
 have hfl:∀ p∈st.recs.flatten,Fine p:=fun p hp=>by
  obtain⟨l,hl,hp⟩:=List.mem_flatten.1 hp
  exact hd.1.fine l hl p hp
 refine⟨⟨st.recs.length,lastOf st.recs.flatten,mid_engO (by have:=hd.1.lt;omega) (fun p hp=>fine_key (hfl p hp)),fun k v hv=>(hfl _ (lastOf_mem' hv)).2⟩,fun u hu=>(by cases hu),hd.cut _ _,Int.le_refl _,fun e=>(by cases e)⟩
theorem acts_open (h:SesOk n st):Acts n 42 [] st:=by
 refine⟨.told [111,112,101,110],reSes st,reSes_ok h.dsk,(by simp [Out.Fits]),fun k w S mb d b L dv v hs hv hno=>?_⟩
 refine (dopen_ok (d:=d) (b0:=.pointer (some ⟨b,0,none⟩)) (mv:=.map (some mb)) (P:=fun w1=>SesAt k w1 S mb d b L dv { st with D:={ st.D with cut:=decide ((-1:Int)≥0),left:=-1 } }∧KeptO (oS S mb b d L dv) (oS S mb b d L dv) w w1)
  (P2:=fun b' w2=>∃ w1 L',(SesAt k w1 S mb d b L dv { st with D:={ st.D with cut:=decide ((-1:Int)≥0),left:=-1 } }∧KeptO (oS S mb b d L dv) (oS S mb b d L dv) w w1)∧w2.heap[b']?=some (.cells (basCells d L'.s st.recs.length 0 false) 262 (0,0))∧EnAt w2 L' (engO st.recs.length st.recs.flatten)∧Below w1.heap.size w1 w2∧(∀ g,L'.own g→w1.heap.size≤g)∧w1.heap.size≤b'∧¬ L'.own b')
  hs.blk ((dcut_any hs.bas.dsk (-1)).mono (fun e w1 hh=>⟨hh.1,hs.power hh.2.1 hh.2.2.1 hh.2.2.2⟩)) (fun w1 hp=>hp.1.blk) (fun w1 hp=>(open_any' hp.1.bas.dsk (h.dsk.cut _ _).1).mono (fun e w2 hh=>by
   obtain⟨b',L',he,hh⟩:=hh
   exact⟨b',he,w1,L',hp,hh⟩)) (fun b' w2 hp=>by
   obtain⟨w1,L',hp,_,_,hB,_⟩:=hp
   exact (hB.block S hp.1.ltS).trans hp.1.blk)).mono ?_
 rintro e w' ⟨rfl,b',w2,⟨w1,L',⟨hp,hK⟩,h1,h2,hB,h4,h5,h6⟩,rfl⟩
 refine⟨rfl,b',L',dv,?_⟩
 have hSl:=hp.ltS
 have hml:=hp.map.lt
 have hs1:=hB.size
 have hbS:w2.heap[S]?=some (.cells (sCells d b mb) 88 (0,0)):=(hB.block S hSl).trans hp.blk
 have ho:∀ g,g≠S→(w2.setCell ⟨S,1,none⟩ (.pointer (some ⟨b',0,none⟩))).heap[g]?=w2.heap[g]?:=fun g hg=>heap_setCell_other _ _ _ _ hg
 have hsz:(w2.setCell ⟨S,1,none⟩ (.pointer (some ⟨b',0,none⟩))).heap.size=w2.heap.size:=by simp
 have K1:KeptO (oS S mb b d L dv) (oS S mb b' d L' dv) w (w2.setCell ⟨S,1,none⟩ (.pointer (some ⟨b',0,none⟩))):=by
  refine hK.trans ⟨hB.os,hB.tape,hB.output,by rw [hsz];exact hs1,fun g hg hn=>(ho g (fun e=>hn (.inl e))).trans (hB.block g hg),fun g hg=>?_⟩
  rcases hg with hg | hg | hg | hg | hg
  ·exact .inl (.inl hg)
  ·exact .inl (.inr (.inl hg))
  ·exact .inr (by omega)
  ·exact .inl (.inr (.inr (.inr (.inl hg))))
  ·exact .inr (h4 g hg)
 have hlow:=kept_low K1 hs.low hs.le
 have hdS:∀ g,dOwn d dv g→g≠S:=fun g hg e=>hp.sS.2.1 (e▸hg)
 refine⟨⟨?_,hp.map.same ((ho mb (hp.map.ne hp.blk)).trans (hB.block mb hml)),⟨(ho b' (by omega)).trans h1,(hp.bas.dsk.below hB).same (by rw [hsz];exact Nat.le_refl _) (fun g hg=>ho g (hdS g hg)),h2.same (fun g hg=>ho g (fun e=>by have:=h4 g hg;omega)),h6,fun g hg=>⟨fun hl=>?_,fun e=>?_⟩⟩,⟨by omega,hp.sS.2.1,fun hl=>?_⟩,⟨by omega,hp.sM.2.1,fun hl=>?_⟩,fun g hg=>?_,?_,hs.lib.below hlow hs.room,hs.room⟩,K1⟩
 ·exact (setCell_at hbS).trans rfl
 ·have:=h4 g hl;have:=hp.bas.dsk.own_lt hg;omega
 ·have:=hp.bas.dsk.own_lt hg;omega
 ·have:=h4 S hl;omega
 ·have:=h4 mb hl;omega
 ·rcases K1.sub g hg with h7 | h7
  ·exact hs.low g h7
  ·have:=hs.le;omega
 ·rw [hsz]
  have:=hp.le
  omega
end
end Go.Proofs.YtjefgmeejhakbabGreatDoor
namespace Go.Proofs.YtjefgmeejhakbabGreatDoor
open Go.RowKit
theorem ta_errno (c:Int) (w:World):(Instr.typeAssert (.iface 33 (.int .i64 c)) 20 27 true).run Tryz.prog w=.ok (.tuple #[.iface 33 (.int .i64 c),.bool true]) w:=by kernel_rfl
theorem ta_at (pb:Nat) (w:World):(Instr.typeAssert (atV pb) 20 27 true).run Tryz.prog w=.ok (.tuple #[atV pb,.bool true]) w:=by kernel_rfl
set_option maxRecDepth 100000 in
set_option maxHeartbeats 2000000 in
theorem catch_idle (p:Addr) (w:World) :
  CallsD Tryz.prog 51 #[.pointer (some p)] .returning w fun e u' w'=>e=.returned (.tuple #[])∧u'=.returning∧w'=w:=by
 have hta:∀ w,(Instr.typeAssert .nilIface 20 27 true).run Tryz.prog w=.ok (.tuple #[.nilIface,.bool false]) w:=fun _=>by kernel_rfl
 refine callsD_of_wpS Tryz.func51 rfl fun c₀ cs hu=>?_
 apply wpS_seq
 apply wpS_region
 simp [wpOpsS,go_sem,recoverD,hu,hta,Tryz.ntmps51,Exit.thenS]
 apply wpS_seq
 apply wpS_region
 simp [wpOpsS,go_sem,Exit.thenS]
 refine wpS_cond (t:=false) (by simp [Act.eval,Array.replicate]) ?_
 simp only [Bool.false_eq_true,if_false]
 refine wpS_of_wp (wp_skip ?_)
 cases c₀
 simp_all [bodyPostS,results,Tryz.results51]
set_option maxRecDepth 100000 in
set_option maxHeartbeats 2000000 in
theorem catch_thrown {v:Value} {c:Int} {T:Nat} {x:Value} {w:World} (hv:ErrOf w v c) (hc:I64 c) (hg:LibAt w) (hT:w.heap[T]?=some (.cells #[x] 9 (0,0))) :
  CallsD Tryz.prog 51 #[.pointer (some ⟨T,0,none⟩)] (.panicking [{ v:=v,recovered:=false }]) w fun e u' w' =>
   e=.returned (.tuple #[])∧u'=.panicking [{ v:=v,recovered:=true }]∧∃ w1,Below w.heap.size w w1∧w'=w1.setCell ⟨T,0,none⟩ (txt (errT c)):=by
 have hta:∀ w,(Instr.typeAssert v 20 27 true).run Tryz.prog w=.ok (.tuple #[v,.bool true]) w:=by
  rcases hv with rfl | ⟨pb,rfl,_⟩
  ·exact ta_errno c
  ·exact ta_at pb
 have hvf:∃ t u,v=.iface t u:=by
  rcases hv with rfl | ⟨pb,rfl,_⟩
  ·exact⟨_,_,rfl⟩
  ·exact⟨_,_,rfl⟩
 have HT:=hid (tellErr_any hg hv hc)
 have HC:=hid (fun (W:World) (hW:Below w.heap.size w W)=>(show W.cell? ⟨T,0,none⟩=some x∧W.frozen? ⟨T,0,none⟩=false from by
  have h1:=(hW.block T (Array.getElem?_eq_some_iff.1 hT).1).trans hT
  exact⟨(cell_of_row W T 0 _ _ (0,0) h1).trans rfl,by simp [World.frozen?,h1]⟩))
 clear hv hg hT
 obtain⟨tt,uu,rfl⟩:=hvf
 refine callsD_of_wpS Tryz.func51 rfl fun c₀ cs hu=>?_
 apply wpS_seq
 apply wpS_region
 simp [wpOpsS,go_sem,recoverD,hu,hta,Tryz.ntmps51,Exit.thenS]
 apply wpS_seq
 apply wpS_region
 simp [wpOpsS,go_sem,Exit.thenS]
 refine wpS_cond (t:=true) (by simp [Act.eval,Array.replicate]) ?_
 simp only [if_true]
 refine wpS_of_wp ?_
 go_wp2_with (go_at_call 12;refine HT.out.mono ?_;rintro e w1 ⟨rfl,hB1⟩;obtain⟨c1,f1⟩:=HC.out w1 hB1)
 simp [bodyPostS,results,Tryz.results51]
 exact⟨w1,hB1,rfl⟩
end Go.Proofs.YtjefgmeejhakbabGreatDoor
namespace Go.Proofs.YtjefgmeejhakbabGreatDoor
open Go.RowKit
def regionOf (n:Nat):Code→Option (Array Oper)
 | .region id ops _=>if id=n then some ops else none
 | .loop c=>regionOf n c
 | .seq a b=>match regionOf n a with
  | some c=>some c
  | none=>regionOf n b
 | .block _ c=>regionOf n c
 | .scope c=>regionOf n c
 | .cond _ a b=>match regionOf n a with
  | some c=>some c
  | none=>regionOf n b
 | _=>none
noncomputable def ops8:Array Oper:=((Tryz.f17.body.bind (regionOf 8)).getD #[])
def NPost (PN:Value→World→Prop) (Qp:List PanicEntry→World→Prop) (e:Ending) (w:World):Prop:=match e with
 | .returned v=>PN v w
 | .panicked ch=>Qp ch w
 | .outgrown=>False
theorem wpOp_enter {P:Program} {ops:Array Oper} {Q:Exit→Act→World→Prop} {i:Nat} {o:Oper} {a:Act} {w w':World} {f:FuncId} {args:Array Value} {K:Act→World→Prop} (ho:ops[i]?=some o) (hg:o.guard=none) (hr:(execOp a.eval o).run P w=.ok (.enter f args) w')
  {PN:Value→World→Prop} {Qp:List PanicEntry→World→Prop} (h:Calls P f args w' (NPost PN Qp)) (hK:∀ v w2,PN v w2→K (a.put o.dst v) w2) (hQ:∀ ch w2,Qp ch w2→Q (.panic ch) a w2):wpOp P ops Q i K a w:=by
 unfold wpOp
 rw [ho]
 simp only
 rw [if_pos (by simp [Region.wanted,hg])]
 left
 unfold Oper.wp
 rw [hr,Oper.upon_enter]
 refine h.mono ?_
 intro e w2 hh
 cases e with
 | returned v=>exact hK v w2 hh
 | panicked ch=>exact hQ ch w2 hh
 | outgrown=>exact hh.elim
def p8 (X:Nat) (fv ws ws1:Value) (i:Nat) (v:Value) (_:World):Prop:=match i with
 | 0=>v=.pointer (some ⟨X,1,none⟩)
 | 1=>v=fv
 | 2=>v=ws
 | 3=>v=ws1
 | _=>True
structure Stage8 (W0:World) (T:Nat) (D:List Deferred) (PN PD:Value→World→Prop) (listed:Array Bool) (a:Act) (w:World):Prop where
 dfr:a.defers=D
 s0:¬ DoneAt listed 4→∃ n,w=W0.drewN n
 s4:DoneAt listed 4→¬ DoneAt listed 5→PN (a.tmps.getD 41 undef) w
 s5:DoneAt listed 5→¬ DoneAt listed 6→PD (a.tmps.getD 42 undef) w
 s6:DoneAt listed 6→∃ t w1,PD t w1∧w=w1.setCell ⟨T,0,none⟩ t
section
variable {W0 w w':World} {T:Nat} {D:List Deferred} {PN PD:Value→World→Prop} {listed:Array Bool} {a:Act}
theorem getD_same {a:Act} {d e:Nat} {v:Value} (h:d≠e):(a.put (some e) v).tmps.getD d undef=a.tmps.getD d undef:=getD_put_ne h
theorem Stage8.pure (h:Stage8 W0 T D PN PD listed a w) {i e:Nat} {v:Value} (hi:i≠4∧i≠5∧i≠6) (he:e≠41∧e≠42):Stage8 W0 T D PN PD (listed.setIfInBounds i true) (a.put (some e) v) w:=by
 refine⟨by rw [defers_put];exact h.dfr,fun hn=>h.s0 (fun hd=>hn (done_mono hd)),fun h4 h5=>?_,fun h5 h6=>?_,fun h6=>h.s6 ((done_set_ne hi.2.2.symm).1 h6)⟩
 ·rw [getD_same (by omega)]
  exact h.s4 ((done_set_ne hi.1.symm).1 h4) (fun hd=>h5 (done_mono hd))
 ·rw [getD_same (by omega)]
  exact h.s5 ((done_set_ne hi.2.1.symm).1 h5) (fun hd=>h6 (done_mono hd))
end
set_option maxRecDepth 1000000 in
set_option maxHeartbeats 4000000 in
theorem ans_region {W0:World} {T X fn:Nat} {D:List Deferred} {fv ws ws1 rv:Value} {PN PD:Value→World→Prop} {Qp:List PanicEntry→World→Prop} {Q:Exit→Act→World→Prop} {a:Act} (hsz:a.tmps.size=43) (hd:a.defers=D)
  (h4:a.tmps.getD 4 undef=.pointer (some ⟨T,0,none⟩)) (h5:a.tmps.getD 5 undef=ws) (h6:a.tmps.getD 6 undef=.pointer (some ⟨X,0,none⟩)) (hfv:fv=.func (.func fn) #[rv] #[]) (hent:∀ args w,(callFunc fn args).run Tryz.prog w=.ok (.enter fn args) w)
  (hx0:∀ n,(W0.drewN n).cell? ⟨X,1,none⟩=some fv) (hx1:∀ v W,PN v W→W.cell? ⟨X,1,none⟩=some fv)
  (hsl:∀ W,(Instr.slice 25 ws (some (.int .i64 1)) none none).run Tryz.prog W=.ok ws1 W)
  (hN:∀ n,Calls Tryz.prog 54 #[ws1] (W0.drewN n) (NPost PN Qp)) (hD:∀ v W,PN v W→Calls Tryz.prog fn #[rv,v] W (NPost PD Qp))
  (hst:∀ t W,PD t W→∃ s x,t=.string s∧W.cell? ⟨T,0,none⟩=some x∧W.frozen? ⟨T,0,none⟩=false)
  (hQp:∀ (a:Act) ch W,a.tmps.size=43→a.tmps.getD 4 undef=.pointer (some ⟨T,0,none⟩)→a.defers=D→Qp ch W→Q (.panic ch) a W)
  (hfin:∀ (a:Act) t W,a.tmps.size=43→a.tmps.getD 4 undef=.pointer (some ⟨T,0,none⟩)→a.defers=D→PD t W→Q .normal a (W.setCell ⟨T,0,none⟩ t)) :
  Code.wp Tryz.prog (Code.region 8 ops8 true) Q a W0:=by
 conv=>arg 2;arg 2;whnf
 refine region_plan (by rfl) (p8 X fv ws ws1) (Stage8 W0 T D PN PD) [(4,.pointer (some ⟨T,0,none⟩)),(5,ws),(6,.pointer (some ⟨X,0,none⟩))] 43 (by rfl) (by rfl) ⟨hd,fun _=>⟨1,rfl⟩,fun h=>(not_done_replicate _ _ h).elim,fun h=>(not_done_replicate _ _ h).elim,fun h=>(not_done_replicate _ _ h).elim⟩ ?fix hsz D hd ?step ?fin
 case fix =>
  intro q hq
  simp only [List.mem_cons,List.not_mem_nil,or_false] at hq
  rcases hq with rfl | rfl | rfl
  ·exact h4
  ·exact h5
  ·exact h6
 case fin =>
  intro listed a' W hdn hG hL hF hsz' hd'
  obtain⟨t,w1,hp,rfl⟩:=hG.s6 (hdn 6 (by show 6<7;omega))
  exact hfin a' t w1 hsz' (hF (4,.pointer (some ⟨T,0,none⟩)) (by simp)) hd' hp
 case step =>
 clear h4 h5 h6 hsz hd
 intro i o listed a W hi ho hls hcl haft hnd hG hL hF hsz4
 have hi':i<7:=hi
 have f4:a.tmps.getD 4 undef=.pointer (some ⟨T,0,none⟩):=hF (4,.pointer (some ⟨T,0,none⟩)) (by simp)
 have f5:a.tmps.getD 5 undef=ws:=hF (5,ws) (by simp)
 have f6:a.tmps.getD 6 undef=.pointer (some ⟨X,0,none⟩):=hF (6,.pointer (some ⟨X,0,none⟩)) (by simp)
 have hls7:listed.size=7:=hls
 obtain rfl | rfl | rfl | rfl | rfl | rfl | rfl:i=0∨i=1∨i=2∨i=3∨i=4∨i=5∨i=6:=by omega
 ·obtain rfl:=Option.some.inj ho
  refine wpOp_val ho rfl (v:=.pointer (some ⟨X,1,none⟩)) (w':=W) ?_ ⟨_,rfl,rfl,hG.pure (i:=0) (by omega) (by omega),fun _ _ _ _ h=>h⟩
  simp [execOp,Act.eval,f6,go_sem]
 ·obtain rfl:=Option.some.inj ho
  have e:a.tmps.getD 37 undef=.pointer (some ⟨X,1,none⟩):=hL 0 _ 37 rfl rfl (haft ⟨0,.data⟩ (by simp) rfl)
  have n5:¬ DoneAt listed 5:=fun h=>hnd (hcl 5 _ rfl h ⟨1,.data⟩ (by simp) rfl)
  have hcx:W.cell? ⟨X,1,none⟩=some fv:=by
   by_cases h4:DoneAt listed 4
   ·exact hx1 _ _ (hG.s4 h4 n5)
   ·obtain⟨m,rfl⟩:=hG.s0 h4
    exact hx0 m
  refine wpOp_val ho rfl (v:=fv) (w':=W) ?_ ⟨_,rfl,rfl,hG.pure (i:=1) (by omega) (by omega),fun _ _ _ _ h=>h⟩
  simp [execOp,Act.eval,e,hcx,go_sem]
 ·obtain rfl:=Option.some.inj ho
  exact wpOp_val ho rfl (v:=a.tmps.getD 5 undef) (w':=W) rfl ⟨_,rfl,f5,hG.pure (i:=2) (by omega) (by omega),fun _ _ _ _ h=>h⟩
 ·obtain rfl:=Option.some.inj ho
  have e:a.tmps.getD 39 undef=ws:=hL 2 _ 39 rfl rfl (haft ⟨2,.data⟩ (by simp) rfl)
  refine wpOp_val ho rfl (v:=ws1) (w':=W) ?_ ⟨_,rfl,rfl,hG.pure (i:=3) (by omega) (by omega),fun _ _ _ _ h=>h⟩
  simp [execOp,Act.eval,e,hsl,go_sem]
 ·obtain rfl:=Option.some.inj ho
  have e:a.tmps.getD 40 undef=ws1:=hL 3 _ 40 rfl rfl (haft ⟨3,.data⟩ (by simp) rfl)
  have n5:¬ DoneAt listed 5:=fun h=>hnd (hcl 5 _ rfl h ⟨4,.data⟩ (by simp) rfl)
  have n6:¬ DoneAt listed 6:=fun h=>hnd (hcl 6 _ rfl h ⟨4,.phase⟩ (by simp) rfl)
  obtain⟨m,rfl⟩:=hG.s0 hnd
  refine wpOp_enter ho rfl (f:=54) (args:=#[ws1]) (w':=W0.drewN m) ?_ (hN m) (fun v w2 hv=>⟨v,rfl,trivial,⟨by rw [defers_put];exact hG.dfr,fun hn=>(hn (done_self (by omega))).elim,fun _ _=>?_,fun h=>(n5 ((done_set_ne (by omega)).1 h)).elim,fun h=>(n6 ((done_set_ne (by omega)).1 h)).elim⟩,fun _ _ _ _ h=>h⟩) (fun ch w2 h=>hQp a ch w2 hsz4 f4 hG.dfr h)
  ·simp [execOp,Act.eval,e,go_sem]
  ·have:(a.put (some 41) v).tmps.getD 41 undef=v:=by simp [Act.put,Array.getD_eq_getD_getElem?,hsz4]
   exact (show PN ((a.put (some 41) v).tmps.getD 41 undef) w2 from by rw [this];exact hv)
 ·obtain rfl:=Option.some.inj ho
  have e1:a.tmps.getD 38 undef=fv:=hL 1 _ 38 rfl rfl (haft ⟨1,.data⟩ (by simp) rfl)
  have d4:DoneAt listed 4:=haft ⟨4,.data⟩ (by simp) rfl
  have n6:¬ DoneAt listed 6:=fun h=>hnd (hcl 6 _ rfl h ⟨5,.data⟩ (by simp) rfl)
  have hp:=hG.s4 d4 hnd
  refine wpOp_enter ho rfl (f:=fn) (args:=#[rv,a.tmps.getD 41 undef]) (w':=W) ?_ (hD _ W hp) (fun v w2 hv=>⟨v,rfl,trivial,⟨by rw [defers_put];exact hG.dfr,fun hn=>(hn (done_mono d4)).elim,fun _ h=>(h (done_self (by omega))).elim,fun _ _=>?_,fun h=>(n6 ((done_set_ne (by omega)).1 h)).elim⟩,fun _ _ _ _ h=>h⟩) (fun ch w2 h=>hQp a ch w2 hsz4 f4 hG.dfr h)
  ·simp [execOp,Act.eval,e1,hfv,hent,go_sem]
  ·have:(a.put (some 42) v).tmps.getD 42 undef=v:=by simp [Act.put,Array.getD_eq_getD_getElem?,hsz4]
   exact (show PD ((a.put (some 42) v).tmps.getD 42 undef) w2 from by rw [this];exact hv)
 ·obtain rfl:=Option.some.inj ho
  have d5:DoneAt listed 5:=haft ⟨5,.data⟩ (by simp) rfl
  have hp:=hG.s5 d5 hnd
  refine wpOp_skip ho rfl (w':=W.setCell ⟨T,0,none⟩ (a.tmps.getD 42 undef)) ?_ ⟨undef,rfl,trivial,⟨by rw [defers_put];exact hG.dfr,fun hn=>(hn (done_mono (hcl 5 _ rfl d5 ⟨4,.data⟩ (by simp) rfl))).elim,fun _ h=>(h (done_mono d5)).elim,fun _ h=>(h (done_self (by omega))).elim,fun _=>⟨_,W,hp,rfl⟩⟩,fun _ _ _ _ h=>h⟩
  obtain⟨sx,x,e2,c,f⟩:=hst _ W hp
  rw [e2]
  rw [Array.getD_eq_getD_getElem?] at e2
  simp [execOp,Act.eval,f4,e2,c,f,go_sem]
end Go.Proofs.YtjefgmeejhakbabGreatDoor
