/- Small EkWait EkDel EkLeave: put together for a claim. -/
import Derived.Test.YtjefgmeejhakbabGreatDoorMgAA
import Derived.WalkKit
import Derived.WalkSpells
import Derived.Test.YtjefgmeejhakbabGreatDoorMgAB
namespace Go.Proofs.YtjefgmeejhakbabGreatDoor
open Go.RowKit
def keyB (k:Int):Bool:=decide (0≤k∧k<10)
set_option maxHeartbeats 400000 in
theorem isKey_any (k:Int) (w:World) :
  Calls Tryz.prog 259 #[.int .i64 k] w fun e w'=>e=.returned (.bool (keyB k))∧w'=w:=by
 by_cases h1:0≤k
 ·by_cases h2:k<10
  ·have h:keyB k=true:=by simp [keyB,h1,h2]
   rw [h]
   go_enter Tryz.func259,Tryz.ntmps259
   go_wp2
   go_ret
   exact⟨rfl,rfl⟩
  ·have h:keyB k=false:=by simp [keyB,h2]
   rw [h]
   go_enter Tryz.func259,Tryz.ntmps259
   go_wp2
   go_ret
   exact⟨rfl,rfl⟩
 ·have h:keyB k=false:=by simp [keyB,h1]
  rw [h]
  go_enter Tryz.func259,Tryz.ntmps259
  go_wp2
  go_ret
  exact⟨rfl,rfl⟩
set_option maxHeartbeats 400000 in
theorem wrong_good (k v:Int) (w:World) (h1:keyB k=true) (h2:-1099511627776≤v) (h3:v≤1099511627776) :
  Calls Tryz.prog 310 #[.agg #[.int .i64 k,.int .i64 v]] w fun e w'=>e=.returned (.int .i64 0)∧Below w.heap.size w w':=by
 go_enter Tryz.func310,Tryz.ntmps310
 go_wp2_with (go_at_call 259;refine (isKey_any _ _).mono ?_;rintro e w' ⟨rfl,rfl⟩)
 go_ret
 exact⟨rfl,(Below.refl _ _).alloc (Nat.le_refl _) _⟩
end Go.Proofs.YtjefgmeejhakbabGreatDoor
namespace Go.Proofs.YtjefgmeejhakbabGreatDoor
open Go.RowKit
variable {C:Emb}
section
variable {w w1:World} {s N:Nat} {M:LkM} {h wa:Int→Option Int} {ln:Int→List Int}
theorem Raw.turnW (r:Raw C w s N M h wa ln) {b N':Nat} {wa':Int→Option Int} (hb:M.mw=some b) (hN:N≤N') (hI:IMap w1 b N' (fun k=>(wa' k).map (Value.int .i64))) (hg:w.grownBy w1 (some b)) :
  Raw C w1 s N' M h wa' ln∧KeptO (M.own s) (M.own s) w w1:=by
 have hk:∀ i,i<w.heap.size→i≠b→w1.heap[i]?=w.heap[i]?:=fun i hi hne=>hg.block i hi (fun e=>hne (by cases e;rfl))
 have hsb:s≠b:=fun e=>r.map_ne.2.1 (by rw [hb,e])
 refine⟨⟨(hk s r.lt hsb).trans r.blk,(r.mh.same (fun b' e=>hk b' (r.mh.lt e) (fun e2=>?_))).mono hN,.inr ⟨b,hb,hI⟩,(r.ml.same (fun b' e=>hk b' (r.ml.lt e) (fun e2=>?_))).mono hN,r.ln0,fun k hkn=>?_,r.ap,r.d1,r.d2,r.both,fun k=>Nat.le_trans (r.len k) hN⟩,?_⟩
 ·subst e2;exact (r.d1 _ e).1 hb
 ·subst e2;exact r.d2 _ hb e
 ·obtain⟨v,hv,ho⟩:=r.ln1 k hkn
  refine⟨v,hv,owns_same ho (fun g hgv=>hk g ?_ ?_)⟩
  ·obtain⟨cur,hc⟩:=r.rowIs hv hgv
   exact (Array.getElem?_eq_some_iff.1 hc).1
  ·rintro rfl;exact (r.row_ne hv hgv).2.2.1 hb
 ·exact⟨hg.os,hg.tape,hg.output,hg.size,fun i hi hn=>hk i hi (fun e=>hn (by subst e;exact .inr (.inr (.inl hb)))),fun g hg=>.inl hg⟩
theorem Raw.turnL (r:Raw C w s N M h wa ln) {b N':Nat} {w2:World} {k:Int} {u:Option Value} {l:List Int} (hb:M.ml=some b) (hN:N≤N')
  (hB:∀ i,i<w.heap.size→(∀ v,M.lv k=some v→v.ownBlock≠some i)→w1.heap[i]?=w.heap[i]?) (hsz:w.heap.size≤w1.heap.size) (hos:w1.os=w.os∧w1.tape=w.tape∧w1.output=w.output)
  (hu:(l=[]∧u=none)∨(l≠[]∧∃ v,u=some v∧w1.ownsRow 0 3 1 v l.length (intsV l)∧∀ g,v.ownBlock=some g→(∃ v0,M.lv k=some v0∧v0.ownBlock=some g)∨w.heap.size≤g))
  (hl:l.length≤N') (hI:IMap w2 b N' (updT M.lv k u)) (hg:w1.grownBy w2 (some b)) :
  Raw C w2 s N' { M with lv:=updT M.lv k u } h wa (updT ln k l)∧KeptO (M.own s) (({ M with lv:=updT M.lv k u }:LkM).own s) w w2:=by
 have hbl:=r.ml.lt hb
 have hk1:∀ i,i<w1.heap.size→i≠b→w2.heap[i]?=w1.heap[i]?:=fun i hi hne=>hg.block i hi (fun e=>hne (by cases e;rfl))
 have hk:∀ i,i<w.heap.size→i≠b→(∀ v,M.lv k=some v→v.ownBlock≠some i)→w2.heap[i]?=w.heap[i]?:=fun i hi hne hv=>(hk1 i (by omega) hne).trans (hB i hi hv)
 have hsb:s≠b:=fun e=>r.map_ne.2.2 (by rw [hb,e])
 have hrow:∀ j v g,M.lv j=some v→v.ownBlock=some g→g<w.heap.size∧g≠b:=by
  intro j v g hv hgv
  obtain⟨cur,hc⟩:=r.rowIs hv hgv
  exact⟨(Array.getElem?_eq_some_iff.1 hc).1,fun e=>(r.row_ne hv hgv).2.2.2 (by rw [hb,e])⟩
 have huk:∀ v,u=some v→l≠[]∧w1.ownsRow 0 3 1 v l.length (intsV l)∧∀ g,v.ownBlock=some g→(∃ v0,M.lv k=some v0∧v0.ownBlock=some g)∨w.heap.size≤g:=by
  intro v hv
  rcases hu with ⟨_,e⟩ | ⟨hne,v',e,ho,hw⟩
  ·rw [e] at hv;cases hv
  ·rw [e] at hv;cases hv;exact⟨hne,ho,hw⟩
 refine⟨⟨(hk s r.lt hsb (fun v hv e=>(r.row_ne hv e).1 rfl)).trans r.blk,(r.mh.same (fun b' e=>hk b' (r.mh.lt e) (fun e2=>?_) (fun v hv e2=>(r.row_ne hv e2).2.1 e))).mono hN,(r.mw.same (fun b' e=>hk b' (r.mw.lt e) (fun e2=>?_) (fun v hv e2=>(r.row_ne hv e2).2.2.1 e))).mono hN,.inr ⟨b,hb,hI⟩,fun j hj=>?_,fun j hj=>?_,fun i j v v' g hv hv' hg1 hg2=>?_,r.d1,r.d2,r.both,fun j=>?_⟩,?_⟩
 ·subst e2;exact (r.d1 _ e).2 hb
 ·subst e2;exact r.d2 _ e hb
 ·by_cases e:j=k
  ·subst e
   rw [updT_same] at hj
   rcases hu with ⟨_,e⟩ | ⟨hne,_⟩
   ·exact (updT_same _ _ _).trans e
   ·exact (hne hj).elim
  ·rw [updT_other _ _ e] at hj;exact (updT_other _ _ e).trans (r.ln0 j hj)
 ·by_cases e:j=k
  ·subst e
   rw [updT_same] at hj ⊢
   rcases hu with ⟨e,_⟩ | ⟨_,v,e,ho,hw⟩
   ·exact (hj e).elim
   ·refine⟨v,(updT_same _ _ _).trans e,owns_same ho (fun g hgv=>hk1 g (ho.lt g hgv).2 ?_)⟩
    rcases hw g hgv with ⟨v0,h1,h2⟩ | h1
    ·exact (hrow _ v0 g h1 h2).2
    ·omega
  ·rw [updT_other _ _ e] at hj ⊢
   obtain⟨v,hv,ho⟩:=r.ln1 j hj
   refine⟨v,(updT_other _ _ e).trans hv,owns_same ho (fun g hgv=>hk g (hrow j v g hv hgv).1 (hrow j v g hv hgv).2 (fun v0 h0 h1=>e (r.ap j k v v0 g hv h0 hgv h1)))⟩
 ·have one:∀ {i:Int} {v:Value},i=k→updT M.lv k u i=some v→v.ownBlock=some g→(∃ v0,M.lv k=some v0∧v0.ownBlock=some g)∨w.heap.size≤g:=by
   intro i v e hv hgv
   subst e
   rw [updT_same] at hv
   exact (huk v hv).2.2 g hgv
  by_cases ei:i=k
  ·by_cases ej:j=k
   ·rw [ei,ej]
   ·have h2:=hv'
    rw [show ({ M with lv:=updT M.lv k u }:LkM).lv j=M.lv j from updT_other _ _ ej] at h2
    rcases one ei hv hg1 with ⟨v0,h0,h1⟩ | h1
    ·exact ei.trans (r.ap k j v0 v' g h0 h2 h1 hg2)
    ·have:=(hrow j v' g h2 hg2).1;omega
  ·have h3:=hv
   rw [show ({ M with lv:=updT M.lv k u }:LkM).lv i=M.lv i from updT_other _ _ ei] at h3
   by_cases ej:j=k
   ·rcases one ej hv' hg2 with ⟨v0,h0,h1⟩ | h1
    ·exact (r.ap i k v v0 g h3 h0 hg1 h1).trans ej.symm
    ·have:=(hrow i v g h3 hg1).1;omega
   ·have h2:=hv'
    rw [show ({ M with lv:=updT M.lv k u }:LkM).lv j=M.lv j from updT_other _ _ ej] at h2
    exact r.ap i j v v' g h3 h2 hg1 hg2
 ·by_cases e:j=k
  ·subst e;rw [updT_same];exact hl
  ·rw [updT_other _ _ e];exact Nat.le_trans (r.len j) hN
 ·refine⟨hg.os.trans hos.1,hg.tape.trans hos.2.1,hg.output.trans hos.2.2,Nat.le_trans hsz hg.size,fun i hi hn=>hk i hi (fun e=>hn (by subst e;exact .inr (.inr (.inr (.inl hb))))) (fun v hv e=>hn (.inr (.inr (.inr (.inr ⟨k,v,hv,e⟩))))),fun g hgo=>?_⟩
  rcases hgo with e | e | e | e | ⟨j,v,hv,hgv⟩
  ·exact .inl (.inl e)
  ·exact .inl (.inr (.inl e))
  ·exact .inl (.inr (.inr (.inl e)))
  ·exact .inl (.inr (.inr (.inr (.inl e))))
  ·by_cases e:j=k
   ·subst e
    rw [show ({ M with lv:=updT M.lv j u }:LkM).lv j=u from updT_same _ _ _] at hv
    rcases (huk v hv).2.2 g hgv with ⟨v0,h0,h1⟩ | h1
    ·exact .inl (.inr (.inr (.inr (.inr ⟨j,v0,h0,h1⟩))))
    ·exact .inr h1
   ·rw [show ({ M with lv:=updT M.lv k u }:LkM).lv j=M.lv j from updT_other _ _ e] at hv
    exact .inl (.inr (.inr (.inr (.inr ⟨j,v,hv,hgv⟩))))
theorem Raw.newW (r:Raw C w s N M h wa ln) (hm:M.mw=none) :
  Raw C ((((w.setCell ⟨s,C.o+1,none⟩ (.map (some w.heap.size))).setCell ⟨s,C.o+2,none⟩ (.map (some (w.heap.size+1)))).alloc (.map #[] 0)).alloc (.map #[] 0)) s N { M with mw:=some w.heap.size,ml:=some (w.heap.size+1) } h wa ln ∧
   KeptO (M.own s) (({ M with mw:=some w.heap.size,ml:=some (w.heap.size+1) }:LkM).own s) w ((((w.setCell ⟨s,C.o+1,none⟩ (.map (some w.heap.size))).setCell ⟨s,C.o+2,none⟩ (.map (some (w.heap.size+1)))).alloc (.map #[] 0)).alloc (.map #[] 0)):=by
 have hml:=r.both.1 hm
 obtain⟨W,hW⟩:∃ W,((w.setCell ⟨s,C.o+1,none⟩ (.map (some w.heap.size))).setCell ⟨s,C.o+2,none⟩ (.map (some (w.heap.size+1))))=W:=⟨_,rfl⟩
 have hsz:W.heap.size=w.heap.size:=by rw [← hW];simp
 have hk:∀ i,i<w.heap.size→i≠s→((W.alloc (.map #[] 0)).alloc (.map #[] 0)).heap[i]?=w.heap[i]?:=fun i hi hne=>by
  refine (Below.heap_alloc _ _ i (by simp;omega)).trans ((Below.heap_alloc _ _ i (by omega)).trans ?_)
  rw [← hW]
  exact (heap_setCell_other _ ⟨s,C.o+2,none⟩ i _ hne).trans (heap_setCell_other w ⟨s,C.o+1,none⟩ i _ hne)
 have hwa:∀ k,wa k=none:=by
  rcases r.mw with ⟨_,e⟩ | ⟨b,e,_⟩
  ·intro k;have:=e k;simpa using this
  ·rw [hm] at e;cases e
 have hlv:∀ k,M.lv k=none:=by
  rcases r.ml with ⟨_,e⟩ | ⟨b,e,_⟩
  ·exact e
  ·rw [hml] at e;cases e
 rw [hW]
 refine⟨⟨?_,r.mh.same (fun b e=>hk b (r.mh.lt e) (fun e2=>r.map_ne.1 (by rw [e,e2]))),.inr ⟨w.heap.size,rfl,?_⟩,.inr ⟨w.heap.size+1,rfl,?_⟩,r.ln0,fun k hkn=>?_,r.ap,?_,?_,?_,r.len⟩,?_⟩
 ·refine (Below.heap_alloc _ _ s (by have:=r.lt;simp;omega)).trans ((Below.heap_alloc _ _ s (by have:=r.lt;omega)).trans ?_)
  rw [← hW]
  refine (heap_setCell_same _ s (C.o+2) _ C.tt _ ((heap_setCell_same w s (C.o+1) _ C.tt _ r.blk))).trans ?_
  rw [C.set1,C.set2]
 ·have:=IMap.made W
  rw [hsz] at this
  have e:(fun k=>(wa k).map (Value.int .i64))=fun _=>none:=by funext k;rw [hwa k];rfl
  rw [e]
  exact (this.same (Below.heap_alloc _ _ w.heap.size (by simp;omega))).mono (Nat.zero_le _)
 ·have:=IMap.made (W.alloc (.map #[] 0))
  rw [World.size_alloc,hsz] at this
  have e:M.lv=fun _=>none:=by funext k;exact hlv k
  show IMap _ _ _ M.lv
  rw [e]
  exact this.mono (Nat.zero_le _)
 ·obtain⟨v,hv,ho⟩:=r.ln1 k hkn
  rw [hlv k] at hv;cases hv
 ·intro b e
  have:=r.mh.lt e
  refine⟨fun e2=>?_,fun e2=>?_⟩
  ·injection e2 with e2;omega
  ·injection e2 with e2;omega
 ·intro b e e2
  injection e with e
  injection e2 with e2
  omega
 ·exact⟨(fun e=>by cases e),(fun e=>by cases e)⟩
 ·refine⟨by rw [← hW];rfl,by rw [← hW];rfl,by rw [← hW];rfl,by simp;omega,fun i hi hn=>hk i hi (fun e=>hn (.inl e)),fun g hg=>?_⟩
  rcases hg with e | e | e | e | e
  ·exact .inl (.inl e)
  ·exact .inl (.inr (.inl e))
  ·right;injection e with e;omega
  ·right;injection e with e;omega
  ·exact .inl (.inr (.inr (.inr (.inr e))))
end
def WaitPost (C:Emb) (s N:Nat) (M:LkM) (h wa:Int→Option Int) (ln:Int→List Int) (tx k:Int) (w w':World):Prop :=
 ∃ M',Raw C w' s (N+2) M' h (updT wa tx (some k)) (updT ln k (ln k++[tx]))∧KeptO (M.own s) (M'.own s) w w'
theorem wait_end {w w1 w2:World} {s N g cap b:Nat} {M:LkM} {h wa:Int→Option Int} {ln:Int→List Int} {k tx:Int} (r:Raw C w s N M h wa ln) (hb:M.ml=some b) (hk:I64 k) (hN:N≤1000000)
    (ho:w1.ownsRow 0 3 1 (.slice (some ⟨g,0,none⟩) ((ln k).length+1) cap) ((ln k).length+1) (intsV (ln k)++[.int .i64 tx]))
    (hA:Below w.heap.size w w2) (hgr:w2.grownBy w1 ((M.lv k).getD (.slice none 0 0)).ownBlock) (hat:((M.lv k).getD (.slice none 0 0)).ownBlock=some g∨w.heap.size≤g) :
    ∃ w3,(Instr.mapUpdate 248 (.map (some b)) (.int .i64 k) (.slice (some ⟨g,0,none⟩) ((ln k).length+1) cap)).run Tryz.prog w1=.ok () w3 ∧
      (∃ M',Raw C w3 s (N+1) M' h wa (updT ln k (ln k++[tx]))∧KeptO (M.own s) (M'.own s) w w3)∧w1.cell? ⟨s,C.o+2,none⟩=some (.map (some b))∧w3.cell? ⟨s,C.o+2,none⟩=some (.map (some b)):=by
  have hsz:=Nat.le_trans hA.size hgr.size
  have hbl:=r.ml.lt hb
  have hB:∀ i,i<w.heap.size→(∀ v,M.lv k=some v→v.ownBlock≠some i)→w1.heap[i]?=w.heap[i]?:=fun i hi hv =>
    (hgr.block i (by have:=hA.size;omega) (fun e=>by
      cases hlv:M.lv k with
      | none=>rw [hlv] at e;simp [Value.ownBlock] at e
      | some v=>rw [hlv] at e;exact hv v hlv e.symm)).trans (hA.block i hi)
  have hI:IMap w b N M.lv:=MapIs.at (hb▸r.ml)
  obtain⟨w3,hrun,hI3,hg3⟩:=(hI.same (hB b hbl (fun v hv e=>(r.row_ne hv e).2.2.2 hb))).store Tryz.underlying248 (by unfold maxLen;omega) hk (.slice (some ⟨g,0,none⟩) ((ln k).length+1) cap)
  have hT:=r.turnL (N':=N+1) (l:=ln k++[tx]) hb (Nat.le_succ _) hB hsz ⟨hgr.os.trans hA.os,hgr.tape.trans hA.tape,hgr.output.trans hA.output⟩ (.inr ⟨by simp,_,rfl,(by rw [intsV_append];simpa [intsV] using ho),fun g' e=>(by
    injection e with e
    subst e
    rcases hat with e | e
    · cases hlv:M.lv k with
      | none=>rw [hlv] at e;simp [Value.ownBlock] at e
      | some v=>rw [hlv] at e;exact .inl ⟨v,rfl,e⟩
    · exact .inr e)⟩) (by have:=r.len k;simp;omega) hI3 hg3
  refine⟨w3,hrun,⟨_,hT⟩,?_,?_⟩
  · have hs:=r.lt
    refine (World.cell?_of_block (a:=⟨s,C.o+2,none⟩) (hB s hs (fun v hv e=>(r.row_ne hv e).1 rfl))).trans ?_
    rw [r.c2,hb]
  · rw [hT.1.c2]
    show some (Value.map M.ml)=_
    rw [hb]
theorem Raw.rowAt {w:World} {s N:Nat} {M:LkM} {h wa:Int→Option Int} {ln:Int→List Int} (r:Raw C w s N M h wa ln) (k:Int):w.ownsRow 0 3 1 ((M.lv k).getD (.slice none 0 0)) (ln k).length (intsV (ln k)):=by
 by_cases hn:ln k=[]
 ·rw [r.ln0 k hn,hn]
  exact World.ownsRow_nil _ _ _ _
 ·obtain⟨v,hv,ho⟩:=r.ln1 k hn
  rw [hv]
  exact ho
set_option maxRecDepth 100000 in
set_option maxHeartbeats 4000000 in
theorem wait_some (s N b1 b2:Nat) (M:LkM) (h wa:Int→Option Int) (ln:Int→List Int) (tx k:Int) (w:World) (r:Raw C w s N M h wa ln) (hm:M.mw=some b1) (hml:M.ml=some b2) (hk:I64 k) (hx:I64 tx) (hN:N≤100000) :
    Calls Tryz.prog 266 #[.pointer (some ⟨s,C.o,none⟩),.int .i64 tx,.int .i64 k] w fun e w'=>e=.returned (.tuple #[])∧WaitPost C s N M h wa ln tx k w w':=by
  obtain⟨i0,hi0,hz0,hz1,hz2⟩:=info_parts info3
  have c1:=r.c1
  have c2:=r.c2
  have he:=eqlSome
  rw [hm] at c1
  rw [hml] at c2
  obtain⟨w1,hrun,hI,hg⟩:=(MapIs.at (show MapIs w (some b1) N _ from hm▸r.mw)).store Tryz.underlying131 (by unfold maxLen;omega) hx (.int .i64 k)
  obtain⟨r1,k1⟩:=r.turnW (wa':=updT wa tx (some k)) (N':=N+1) hm (Nat.le_succ N) (by rw [updT_map];exact hI) hg
  have c3:=r1.c2
  rw [hml] at c3
  have hA:Below w1.heap.size w1 (w1.alloc (.cells #[.int .i64 tx] 3)).drew:=((Below.refl _ _).alloc (Nat.le_refl _) _).drew
  have hl1:(Instr.lookup 248 (.map (some b2)) (.int .i64 k) false).run Tryz.prog w1.drew=.ok ((M.lv k).getD (.slice none 0 0)) w1.drew:=hml▸(r1.below ((Below.refl _ _).drew)).lookL hk
  have hl2:(Instr.lookup 248 (.map (some b2)) (.int .i64 k) false).run Tryz.prog (w1.alloc (.cells #[.int .i64 tx] 3)).drew=.ok ((M.lv k).getD (.slice none 0 0)) (w1.alloc (.cells #[.int .i64 tx] 3)).drew:=hml▸(r1.below hA).lookL hk
  have HO:=hid ((r1.below hA).rowAt k)
  have HE:=hid (fun g cap w2 ho hgr hat=>wait_end (w1:=w2) (g:=g) (cap:=cap) (tx:=tx) r1 hml hk (by omega) ho hA hgr hat)
  have hln:=r1.len k
  have HK:=hid k1
  obtain⟨v0,hv0⟩:∃ v0,(M.lv k).getD (.slice none 0 0)=v0:=⟨_,rfl⟩
  rw [hv0] at hl1 hl2 HO HE
  obtain⟨m,hm0⟩:∃ m,(ln k).length=m:=⟨_,rfl⟩
  rw [hm0] at HO HE hln
  have HM:=hid hm0
  clear r hI hg r1 k1 hA hm hml hv0 hm0
  go_enter Tryz.func266,Tryz.ntmps266
  go_wp2
  go_region_held3 (fun W=>W.cell? ⟨s,C.o+2,none⟩=some (.map (some b2)))
    (first
      | go_keep
      | exact y2
      | exact y3)
    ((refine step_append_lies _ (by rfl) _ _ _ (by rfl) 0 3 i0 _ 1 8 Tryz.underlying54 hi0 hz0 hz1 hz2 rfl (by omega) v0 m (intsV (ln k)) (by rfl) HO.out ⟨w1.heap.size,0,none⟩ 1 1 [.int .i64 tx] (by rfl) (by rfl) (World.news_of_block (cs:=#[.int .i64 tx]) (t:=3) (fr:=(0,0)) (heap_alloc_new w1 _)) (by simp [Value.oneCell']) (by omega) (by unfold maxLen;omega) (by omega) (by simp) (w1.heap.size+1) (by simp) ?_
      intro g cap w2 ho hgr hat hlt
      obtain⟨w3,hrun3,hpost,y2,y3⟩:=HE.out g cap w2 ho hgr (by rcases hat with e | e;exact .inl e;exact .inr (by omega))
      have HP:=hid hpost
      clear ho hgr hat hlt hpost))
  all_goals
    refine bodyPost_end (results_none rfl _ _ _) rfl ?_
    obtain⟨M',hM,hK'⟩:=HP.out
    exact⟨rfl,M',hM,HK.out.trans hK'⟩
set_option maxRecDepth 100000 in
set_option maxHeartbeats 4000000 in
theorem wait_none (s N:Nat) (M:LkM) (h wa:Int→Option Int) (ln:Int→List Int) (tx k:Int) (w:World) (r:Raw C w s N M h wa ln) (hm:M.mw=none) (hk:I64 k) (hx:I64 tx) (hN:N≤100000) :
    Calls Tryz.prog 266 #[.pointer (some ⟨s,C.o,none⟩),.int .i64 tx,.int .i64 k] w fun e w'=>e=.returned (.tuple #[])∧WaitPost C s N M h wa ln tx k w w':=by
  obtain⟨i0,hi0,hz0,hz1,hz2⟩:=info_parts info3
  have c1:=r.c1
  have c2:=r.c2
  have f1:=r.free (C.o+1)
  have f2:=r.free (C.o+2)
  have he:=eqlNil
  have hmm:=@run_makeMap Tryz.prog
  have hs:=r.lt
  rw [hm] at c1
  rw [r.both.1 hm] at c2
  obtain⟨r0,k0⟩:=r.newW hm
  obtain⟨W0,hW0⟩:∃ W0,((((w.setCell ⟨s,C.o+1,none⟩ (.map (some w.heap.size))).setCell ⟨s,C.o+2,none⟩ (.map (some (w.heap.size+1)))).alloc (.map #[] 0)).alloc (.map #[] 0))=W0:=⟨_,rfl⟩
  rw [hW0] at r0 k0
  have d1:=r0.c1
  have d2:=r0.c2
  simp only at d1 d2
  obtain⟨M0,hM0⟩:∃ M0:LkM,({ M with mw:=some w.heap.size,ml:=some (w.heap.size+1) }:LkM)=M0:=⟨_,rfl⟩
  have hm0:M0.mw=some w.heap.size:=by rw [← hM0]
  have hml:M0.ml=some (w.heap.size+1):=by rw [← hM0]
  rw [hM0] at r0 k0
  have HK0:=hid k0
  obtain⟨w1,hrun,hI,hg⟩:=(MapIs.at (show MapIs W0 (some w.heap.size) N _ from hm0▸r0.mw)).store Tryz.underlying131 (by unfold maxLen;omega) hx (.int .i64 k)
  obtain⟨r1,k1⟩:=r0.turnW (wa':=updT wa tx (some k)) (N':=N+1) hm0 (Nat.le_succ N) (by rw [updT_map];exact hI) hg
  have c3:=r1.c2
  rw [hml] at c3
  have hA:Below w1.heap.size w1 (w1.alloc (.cells #[.int .i64 tx] 3)).drew:=((Below.refl _ _).alloc (Nat.le_refl _) _).drew
  have hl1:(Instr.lookup 248 (.map (some (w.heap.size+1))) (.int .i64 k) false).run Tryz.prog w1.drew=.ok ((M0.lv k).getD (.slice none 0 0)) w1.drew:=hml▸(r1.below ((Below.refl _ _).drew)).lookL hk
  have hl2:(Instr.lookup 248 (.map (some (w.heap.size+1))) (.int .i64 k) false).run Tryz.prog (w1.alloc (.cells #[.int .i64 tx] 3)).drew=.ok ((M0.lv k).getD (.slice none 0 0)) (w1.alloc (.cells #[.int .i64 tx] 3)).drew:=hml▸(r1.below hA).lookL hk
  have HO:=hid ((r1.below hA).rowAt k)
  have HE:=hid (fun g cap w2 ho hgr hat=>wait_end (w1:=w2) (g:=g) (cap:=cap) (tx:=tx) r1 hml hk (by omega) ho hA hgr hat)
  have hln:=r1.len k
  have HK:=hid k1
  obtain⟨v0,hv0⟩:∃ v0,(M0.lv k).getD (.slice none 0 0)=v0:=⟨_,rfl⟩
  rw [hv0] at hl1 hl2 HO HE
  obtain⟨m,hme⟩:∃ m,(ln k).length=m:=⟨_,rfl⟩
  rw [hme] at HO HE hln
  have HM:=hid hme
  rw [← hW0] at hrun
  clear r hI hg r1 k1 hA hm hml hv0 hm0 hme r0 k0 hM0 hW0
  go_enter Tryz.func266,Tryz.ntmps266
  go_wp2
  go_region_held3 (fun W=>W.cell? ⟨s,C.o+2,none⟩=some (.map (some (w.heap.size+1))))
    (first
      | go_keep
      | exact y2
      | exact y3)
    ((refine step_append_lies _ (by rfl) _ _ _ (by rfl) 0 3 i0 _ 1 8 Tryz.underlying54 hi0 hz0 hz1 hz2 rfl (by omega) v0 m (intsV (ln k)) (by rfl) HO.out ⟨w1.heap.size,0,none⟩ 1 1 [.int .i64 tx] (by rfl) (by rfl) (World.news_of_block (cs:=#[.int .i64 tx]) (t:=3) (fr:=(0,0)) (heap_alloc_new w1 _)) (by simp [Value.oneCell']) (by omega) (by unfold maxLen;omega) (by omega) (by simp) (w1.heap.size+1) (by simp) ?_
      intro g cap w2 ho hgr hat hlt
      obtain⟨w3,hrun3,hpost,y2,y3⟩:=HE.out g cap w2 ho hgr (by rcases hat with e | e;exact .inl e;exact .inr (by omega))
      have HP:=hid hpost
      clear ho hgr hat hlt hpost))
  all_goals
    refine bodyPost_end (results_none rfl _ _ _) rfl ?_
    obtain⟨M',hM,hK'⟩:=HP.out
    exact⟨rfl,M',hM,HK0.out.trans (HK.out.trans hK')⟩
theorem wait_any (s N:Nat) (M:LkM) (h wa:Int→Option Int) (ln:Int→List Int) (tx k:Int) (w:World) (r:Raw C w s N M h wa ln) (hk:I64 k) (hx:I64 tx) (hN:N≤100000) :
  Calls Tryz.prog 266 #[.pointer (some ⟨s,C.o,none⟩),.int .i64 tx,.int .i64 k] w fun e w'=>e=.returned (.tuple #[])∧WaitPost C s N M h wa ln tx k w w':=by
 cases hm:M.mw with
 | none=>exact wait_none s N M h wa ln tx k w r hm hk hx hN
 | some b1 =>
  cases hml:M.ml with
  | none=>rw [r.both.2 hml] at hm;cases hm
  | some b2=>exact wait_some s N b1 b2 M h wa ln tx k w r hm hml hk hx hN
end Go.Proofs.YtjefgmeejhakbabGreatDoor
namespace Go.Proofs.YtjefgmeejhakbabGreatDoor
open Go.Shelf Go.RowKit Go.Lib Go.Sort
theorem gives_leave (tx x:Int) (B:Nat) (W:World) (hc:W.cell? ⟨B,0,none⟩=some (.int .i64 tx)) :
  FnGives Tryz.prog 370 #[.pointer (some ⟨B,0,none⟩)] #[.int .i64 x] (.bool (x==tx)) W:=by
 show Calls Tryz.prog 370 #[.int .i64 x,.pointer (some ⟨B,0,none⟩)] W _
 go_enter Tryz.func370,Tryz.ntmps370
 go_wp2
 all_goals (go_ret;exact⟨rfl,0,rfl⟩)
theorem pred_leave (tx:Int) (B:Nat) (w:World) (hB:B<w.heap.size) (hcell:w.cell? ⟨B,0,none⟩=some (.int .i64 tx)) :
  PredAt Tryz.prog 370 #[.pointer (some ⟨B,0,none⟩)] (Value.int .i64) (fun x=>x==tx) w :=
 fun W x hb=>gives_leave tx x B W ((hb.cell (p:=⟨B,0,none⟩) hB).trans hcell)
theorem over_leave (tx:Int) (B blk off size:Nat) (w:World) (hB:B<w.heap.size) (hne:B≠blk) (hcell:w.cell? ⟨B,0,none⟩=some (.int .i64 tx)) :
  PredOver Tryz.prog 370 #[.pointer (some ⟨B,0,none⟩)] (Value.int .i64) (fun x=>x==tx) blk off size w :=
 fun n os dk x _=>gives_leave tx x B _ (by
  unfold sortWorld
  rw [cell?_grow _ _ _ (by show B<(putRow _ _ _ _ _).heap.size;rw [size_putRow];exact hB),cell?_putRow_other _ _ blk off _ _ (Or.inl hne)]
  exact hcell)
theorem ekPutCells_take (l:List Int) (z:Nat) (cur:Array Value) (h:l.length+z≤cur.size):(putCells (Value.int .i64) 0 (l++List.replicate z 0).toArray cur).toList.take l.length=intsV l:=by
 apply List.ext_getElem?
 intro j
 rw [List.getElem?_take]
 by_cases hj:j<l.length
 ·rw [if_pos hj]
  have hjc:j<cur.size:=by omega
  simp only [putCells,Array.toList_mapIdx,List.getElem?_mapIdx,Array.getElem?_toList,Array.getElem?_eq_getElem hjc,Option.map_some]
  rw [if_pos ⟨Nat.zero_le _,by simp;omega⟩]
  have e:(l++List.replicate z 0).toArray[j-0]! = l[j]:=by
   rw [Nat.sub_zero,getElem!_pos _ j (by simp;omega)]
   simp [List.getElem_append_left hj]
  rw [e,intsV_get (List.getElem?_eq_getElem hj)]
 ·rw [if_neg hj,List.getElem?_eq_none (by rw [intsV_length];omega)]
theorem heap_putRow (w:World) (g q:Nat) (d:Array Int) (cur:Array Value) (t:TypeId) (fr:Nat × Nat) (h:w.heap[g]?=some (.cells cur t fr)) :
  (putRow (Value.int .i64) (Sort.ahead w q) g 0 d).heap[g]?=some (.cells (putCells (Value.int .i64) 0 d cur) t fr):=by
 show ((Sort.ahead w q).heap.modify g _)[g]?=_
 rw [Array.getElem?_modify,if_pos rfl]
 show (w.heap[g]?).map _=_
 rw [h]
 rfl
theorem ekHeap_putRow_other (w:World) (g q k:Nat) (d:Array Int) (h:k≠g) :
  (putRow (Value.int .i64) (Sort.ahead w q) g 0 d).heap[k]?=w.heap[k]?:=by
 show ((Sort.ahead w q).heap.modify g _)[k]?=_
 rw [Array.getElem?_modify,if_neg (fun e=>h e.symm)]
 rfl
theorem del_any (g cap B:Nat) (l:List Int) (tx:Int) (w:World) (ho:w.ownsRow 0 3 1 (.slice (some ⟨g,0,none⟩) l.length cap) l.length (intsV l)) (hc:w.cell? ⟨B,0,none⟩=some (.int .i64 tx)) (hBg:B≠g) (hlen:l.length≤1000000) :
  Calls Tryz.prog 369 #[.slice (some ⟨g,0,none⟩) l.length cap,.func (.func 370) #[] #[.pointer (some ⟨B,0,none⟩)]] w fun e w' =>
   e=.returned (.slice (some ⟨g,0,none⟩) (l.filter (fun x=>x != tx)).length cap)∧w'.ownsRow 0 3 1 (.slice (some ⟨g,0,none⟩) (l.filter (fun x=>x != tx)).length cap) (l.filter (fun x=>x != tx)).length (intsV (l.filter (fun x=>x != tx)))∧w.grownBy w' (some g):=by
 have hB:=World.block_lt_of_cell? w _ hc
 rcases ho.2 with ⟨e,_⟩ | ⟨g',cap',cur,e,hb0,hg,hnc,hcm,hcs,htake⟩
 ·cases e
 ·cases e
  have hcells:=ho.cells (g:=g) rfl
  have eg:∀ args w,(callFunc 370 args).run Tryz.prog w=.ok (.enter 370 args) w:=enters_of Tryz.func370 (by kernel_rfl) rfl
  have hH:Holds (Value.int .i64) w g 0 l.toArray:=by
   intro j hj
   have hj':j<l.length:=by simpa using hj
   refine⟨?_,frozen_of_row w g _ _ _ hg⟩
   have:=hcells j _ (intsV_get (List.getElem?_eq_getElem hj'))
   rw [addr_add] at this
   rw [Nat.zero_add,this,getElem!_pos _ j hj]
   simp
  have hcon:=AnyE.slices_DeleteFunc Tryz.l10 (Value.int .i64) (fun _=>rfl) (fun x=>x==tx) 370 #[.pointer (some ⟨B,0,none⟩)] eg 0 Tryz.zeroValue3 g 0 cap l.toArray w
   (pred_leave tx B w hB hc) (over_leave tx B g 0 l.toArray.size w hB hBg hc) hH (by simp;omega) (by simpa using hnc)
  have hcon2:Calls Tryz.prog 369 #[.slice (some ⟨g,0,none⟩) l.length cap,.func (.func 370) #[] #[.pointer (some ⟨B,0,none⟩)]] w _:=hcon
  refine hcon2.mono ?_
  rintro e w' ⟨rfl,q,rfl⟩
  have hfl:(l.filter (fun x=>x != tx)).length≤l.length:=List.length_filter_le _ _
  refine⟨rfl,⟨by rw [intsV_length];omega,.inr ⟨g,cap,_,rfl,Nat.zero_le _,heap_putRow w g q _ cur _ _ hg,by omega,hcm,?_,?_⟩⟩,⟨rfl,rfl,rfl,?_,fun k _ hk=>ekHeap_putRow_other w g q k _ (fun e=>hk (by rw [e]))⟩⟩
  ·simpa [putCells] using hcs
  ·rw [Nat.mul_one]
   have e2:(l.filter (fun x=>x != tx)).length=(l.filter (fun x=>!x==tx)).length:=rfl
   exact ekPutCells_take _ _ cur (by simp;omega)
  ·show w.heap.size≤((Sort.ahead w q).heap.modify g _).size
   rw [Array.size_modify]
   exact Nat.le_refl _
end Go.Proofs.YtjefgmeejhakbabGreatDoor
namespace Go.Proofs.YtjefgmeejhakbabGreatDoor
open Go.RowKit
variable {C:Emb}
set_option maxRecDepth 100000 in
set_option maxHeartbeats 2000000 in
theorem leave_none (s N:Nat) (M:LkM) (h wa:Int→Option Int) (ln:Int→List Int) (tx:Int) (w:World) (r:Raw C w s N M h wa ln) (hx:I64 tx) (hw:wa tx=none) :
  Calls Tryz.prog 336 #[.pointer (some ⟨s,C.o,none⟩),.int .i64 tx] w fun e w'=>e=.returned (.tuple #[])∧Below w.heap.size w w':=by
 have hA:Below w.heap.size w (w.alloc (.cells #[.int .i64 tx] 3)):=(Below.refl _ _).alloc (Nat.le_refl _) _
 have hs:=r.lt
 have c1:=r.c1
 have hl:∀ q,(Instr.lookup 131 (.map M.mw) (.int .i64 tx) true).run Tryz.prog ((w.alloc (.cells #[.int .i64 tx] 3)).drewN q)=.ok (.tuple #[.int .i64 0,.bool false]) ((w.alloc (.cells #[.int .i64 tx] 3)).drewN q):=fun q=>(by
  have:=((r.below hA).below (below_drewN (Below.refl _ _) q)).lookW hx
  rw [hw] at this
  exact this)
 clear r hw
 go_enter Tryz.func336,Tryz.ntmps336
 go_wp2
 go_quiet (fail)
 go_wp2
 refine bodyPost_ret (results_none rfl _ _ _) rfl ?_
 exact⟨rfl,below_drewN hA _⟩
theorem leave_end {w w1:World} {s N n g cap b:Nat} {M:LkM} {h wa:Int→Option Int} {ln:Int→List Int} {k:Int} {l:List Int} (r:Raw C w s N M h wa ln) (hb:M.ml=some b) (hk:I64 k) (hN:N≤1000000)
  (hv:M.lv k=some (.slice (some ⟨g,0,none⟩) n cap)) (ho:w1.ownsRow 0 3 1 (.slice (some ⟨g,0,none⟩) l.length cap) l.length (intsV l)) (hgr:w.grownBy w1 (some g)) (hl:l.length≤(ln k).length) :
  w1.cell? ⟨s,C.o+2,none⟩=some (.map (some b)) ∧
  (l=[]→∃ w3,(Builtin.delete_ #[248,3] 0 #[.map (some b),.int .i64 k]).run Tryz.prog w1=.ok (.tuple #[]) w3∧∃ M',Raw C w3 s (N+1) M' h wa (updT ln k l)∧KeptO (M.own s) (M'.own s) w w3) ∧
  (l≠[]→∃ w3,(Instr.mapUpdate 248 (.map (some b)) (.int .i64 k) (.slice (some ⟨g,0,none⟩) l.length cap)).run Tryz.prog w1=.ok () w3∧∃ M',Raw C w3 s (N+1) M' h wa (updT ln k l)∧KeptO (M.own s) (M'.own s) w w3):=by
 have hbl:=r.ml.lt hb
 have hlen:=r.len k
 have hB:∀ i,i<w.heap.size→(∀ v,M.lv k=some v→v.ownBlock≠some i)→w1.heap[i]?=w.heap[i]?:=fun i hi hn =>
  hgr.block i hi (fun e=>by cases e;exact hn _ hv rfl)
 have hI:IMap w b N M.lv:=MapIs.at (hb▸r.ml)
 have hI1:=hI.same (hB b hbl (fun v hv e=>(r.row_ne hv e).2.2.2 hb))
 refine⟨?_,fun hn=>?_,fun hn=>?_⟩
 ·refine (World.cell?_of_block (a:=⟨s,C.o+2,none⟩) (hB s r.lt (fun v hv e=>(r.row_ne hv e).1 rfl))).trans ?_
  rw [r.c2,hb]
 ·obtain⟨w3,hrun,hI3,hg3⟩:=hI1.del Tryz.underlying248 hk 0
  exact⟨w3,hrun,_,r.turnL (N':=N+1) (u:=none) (l:=l) hb (Nat.le_succ _) hB hgr.size ⟨hgr.os,hgr.tape,hgr.output⟩ (.inl ⟨hn,rfl⟩) (by omega) (hI3.mono (Nat.le_succ _)) hg3⟩
 ·obtain⟨w3,hrun,hI3,hg3⟩:=hI1.store Tryz.underlying248 (by unfold maxLen;omega) hk (.slice (some ⟨g,0,none⟩) l.length cap)
  exact⟨w3,hrun,_,r.turnL (N':=N+1) (l:=l) hb (Nat.le_succ _) hB hgr.size ⟨hgr.os,hgr.tape,hgr.output⟩ (.inr ⟨hn,_,rfl,ho,fun g' e=>.inl ⟨_,hv,e⟩⟩) (by omega) hI3 hg3⟩
set_option maxRecDepth 100000 in
set_option maxHeartbeats 4000000 in
theorem leave_some (s N:Nat) (M:LkM) (h wa:Int→Option Int) (ln:Int→List Int) (tx k:Int) (w:World) (r:Raw C w s N M h wa ln) (hx:I64 tx) (hk:I64 k) (hw:wa tx=some k) (hn:ln k≠[]) (hN:N≤100000) :
  Calls Tryz.prog 336 #[.pointer (some ⟨s,C.o,none⟩),.int .i64 tx] w fun e w'=>e=.returned (.tuple #[]) ∧
   ∃ M',Raw C w' s (N+1) M' h (updT wa tx none) (updT ln k ((ln k).filter (fun x=>x != tx)))∧KeptO (M.own s) (M'.own s) w w':=by
 obtain⟨b1,hm,_⟩:=r.mw.imap (a:=tx) (by rw [hw];simp)
 obtain⟨v0,hv0,ho0⟩:=r.ln1 k hn
 obtain⟨b2,hml,_⟩:=r.ml.imap (a:=k) (by rw [hv0];simp)
 have hA:Below w.heap.size w (w.alloc (.cells #[.int .i64 tx] 3)):=(Below.refl _ _).alloc (Nat.le_refl _) _
 have hs:=r.lt
 have c1:=r.c1
 rw [hm] at c1
 have hl:∀ q,(Instr.lookup 131 (.map (some b1)) (.int .i64 tx) true).run Tryz.prog ((w.alloc (.cells #[.int .i64 tx] 3)).drewN q)=.ok (.tuple #[.int .i64 k,.bool true]) ((w.alloc (.cells #[.int .i64 tx] 3)).drewN q):=fun q=>by
  have:=((r.below hA).below (below_drewN (Below.refl _ _) q)).lookW hx
  rw [hw,hm] at this
  exact this
 have HA:=hid hA
 have HR:=hid r
 clear hw r hA
 go_enter Tryz.func336,Tryz.ntmps336
 go_wp2
 go_quiet (fail)
 have hB1:=below_drewN HA.out (nq+1)
 have r1:=HR.out.below hB1
 have hcB:(w.alloc (.cells #[.int .i64 tx] 3)).heap[w.heap.size]?=some (.cells #[.int .i64 tx] 3 (0,0)):=heap_alloc_new w _
 clear hl
 obtain⟨W,hW⟩:∃ W,(w.alloc (.cells #[.int .i64 tx] 3)).drewN nq=W:=⟨_,rfl⟩
 have hcB1:W.heap[w.heap.size]?=some (.cells #[.int .i64 tx] 3 (0,0)):=by rw [← hW];exact ((below_drewN (Below.refl (w.heap.size+1) _) nq).block _ (Nat.lt_succ_self _)).trans hcB
 have r1:Raw C W.drew s N M h wa ln:=by rw [← hW];exact r1
 have hB1:Below w.heap.size w W.drew:=by rw [← hW];exact hB1
 rw [hW]
 clear hW hcB c1
 have c1:=r1.c1
 rw [hm] at c1
 have cB:W.cell? ⟨w.heap.size,0,none⟩=some (.int .i64 tx):=(cell_of_row _ _ 0 _ 3 (0,0) hcB1).trans rfl
 obtain⟨w2,hrun,hI,hg⟩:=(MapIs.at (show MapIs W.drew (some b1) N _ from hm▸r1.mw)).del Tryz.underlying131 hx 0
 obtain⟨r2,k2⟩:=r1.turnW (wa':=updT wa tx none) hm (Nat.le_refl N) (by rw [updT_map];exact hI) hg
 have hBb:w.heap.size≠b1:=by have:=HR.out.mw.lt hm;omega
 have hcB2:w2.heap[w.heap.size]?=some (.cells #[.int .i64 tx] 3 (0,0)):=(hg.block w.heap.size (Array.getElem?_eq_some_iff.1 hcB1).1 (fun e=>hBb (by cases e;rfl))).trans hcB1
 have cB2:w2.cell? ⟨w.heap.size,0,none⟩=some (.int .i64 tx):=(cell_of_row _ _ 0 _ 3 (0,0) hcB2).trans rfl
 have c12:=r2.c1
 rw [hm] at c12
 have c22:=r2.c2
 rw [hml] at c22
 have hl2:=r2.lookL hk
 rw [hml,hv0] at hl2
 simp only [Option.getD_some] at hl2
 have HR2:=hid r2
 have HB1:=hid hB1
 have HK2:=hid k2
 clear r1 hI hg r2 k2 hB1 hcB1 hcB2
 go_wp2
 go_region_held3 (fun W=>W.cell? ⟨s,C.o+1,none⟩=some (.map (some b1))∧W.cell? ⟨w.heap.size,0,none⟩=some (.int .i64 tx))
  (first
   | go_keep
   | exact⟨c12,cB2⟩)
  (refine step_del (by rfl) _ _ _ _ (by rfl) _ _ (by rfl) (by rfl) hrun ?_)
 rcases row_slice ho0 with ⟨_,e0⟩ | ⟨g,cap,rfl,hgl,_⟩
 ·exact (hn (List.eq_nil_of_length_eq_zero e0)).elim
 clear hrun c12 c1 cB
 have hlen:=HR2.out.len k
 have hgB:w.heap.size≠g:=by omega
 have ho2:=(HR2.out.row hv0).2
 go_wp2_with fail
 refine (del_any g cap w.heap.size (ln k) tx _ ho2 cB2 hgB (by omega)).mono ?_
 rintro e w3 ⟨rfl,ho3,hg3⟩
 have hfl:((ln k).filter (fun x=>x != tx)).length≤(ln k).length:=List.length_filter_le _ _
 obtain⟨c3,hE,hF⟩:=leave_end HR2.out hml hk (by omega) hv0 ho3 hg3 hfl
 have HKK:=hid ((KeptO.of_below (o:=M.own s) HB1.out).trans HK2.out)
 clear hl2 c22 ho2 cB2 hgB ho3 hg3 hm hml hv0 ho0
 obtain⟨l,hle⟩:∃ l,(ln k).filter (fun x=>x != tx)=l:=⟨_,rfl⟩
 rw [hle] at hE hF hfl ⊢
 have HL:=hid hle
 clear hle
 by_cases hl0:l=[]
 ·obtain⟨w4,hrun,hpost⟩:=hE hl0
  have HP:=hid hpost
  have e1:(((l.length:Nat):Int)==0)=true:=by simp [hl0]
  clear hE hF hpost hl0
  go_wp2_with (at_delete;refine wpList_del (by rfl) _ _ _ _ (by rfl) _ _ (by rfl) (by rfl) hrun ?_)
  refine bodyPost_ret (results_none rfl _ _ _) rfl ?_
  rw [HL.out]
  obtain⟨M',hM,hK'⟩:=HP.out
  exact⟨rfl,M',hM,HKK.out.trans hK'⟩
 ·obtain⟨w4,hrun,hpost⟩:=hF hl0
  have HP:=hid hpost
  have e1:(((l.length:Nat):Int)==0)=false:=by simp [hl0]
  clear hE hF hpost hl0
  go_wp2
  refine bodyPost_end (results_none rfl _ _ _) rfl ?_
  rw [HL.out]
  obtain⟨M',hM,hK'⟩:=HP.out
  exact⟨rfl,M',hM,HKK.out.trans hK'⟩
end Go.Proofs.YtjefgmeejhakbabGreatDoor
