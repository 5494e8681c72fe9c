/- The document's store behind one cell of a greater block (as FsMem): Read. -/
import Derived.Test.YtjefgmeejhakbaaGreatDoorMgAJ
import Derived.Test.YtjefgmeejhakbaaGreatDoorFsInst
namespace Go.Proofs.YtjefgmeejhakbaaGreatDoor.Gs
open Go.RowKit
structure GTail where
 pre:Value
 post:List Value
 tt:TypeId
def gcells (P:GTail) (lv:Value) (last:Int):Array Value:=(P.pre::lv::.int .i64 last::P.post).toArray
variable {P:GTail}
structure Ref (P:GTail) (w:World) (base R:Nat) (last:Int) (lv:Value) (L:List (Int × Int × Int)):Prop where
 blk:w.heap[R]?=some (.cells (gcells P lv last) P.tt (0,0))
 own:w.ownsRow base 235 3 lv L.length (krow L)
 nl:L=[]→lv=.slice none 0 0
 rb:R<base
section
variable {w w':World} {base R:Nat} {last:Int} {lv:Value} {L:List (Int × Int × Int)}
theorem Ref.lt (h:Ref P w base R last lv L):R<w.heap.size:=(Array.getElem?_eq_some_iff.1 h.blk).1
theorem Ref.kept (h:Ref P w base R last lv L) (hs:w'.heap[R]?=w.heap[R]?) (hr:∀ g,lv.ownBlock=some g→w'.heap[g]?=w.heap[g]?):Ref P w' base R last lv L :=
 ⟨hs.trans h.blk,owns_same h.own hr,h.nl,h.rb⟩
theorem Ref.below (h:Ref P w base R last lv L) (hB:Below w.heap.size w w'):Ref P w' base R last lv L :=
 h.kept (hB.block R h.lt) (fun g hg=>hB.block g (h.own.lt g hg).2)
theorem Ref.c0 (h:Ref P w base R last lv L):w.cell? ⟨R,1,none⟩=some lv:=(cell_of_row _ _ 1 _ P.tt (0,0) h.blk).trans (by simp [gcells])
theorem Ref.c1 (h:Ref P w base R last lv L):w.cell? ⟨R,2,none⟩=some (.int .i64 last):=(cell_of_row _ _ 2 _ P.tt (0,0) h.blk).trans (by simp [gcells])
theorem Ref.slice (h:Ref P w base R last lv L):(lv=.slice none 0 0∧L=[])∨∃ g cap,lv=.slice (some ⟨g,0,none⟩) L.length cap∧g<w.heap.size∧base≤g ∧
  ∀ j k a v,L[j]?=some (k,a,v)→w.cell? ⟨g,j*3,none⟩=some (.int .i64 k)∧w.cell? ⟨g,j*3+1,none⟩=some (.int .i64 a)∧w.cell? ⟨g,j*3+2,none⟩=some (.int .i64 v):=by
 rcases h.own.2 with ⟨e,e0⟩ | ⟨g,cap,cur,e,hb,hg,_⟩
 ·exact .inl ⟨e,List.eq_nil_of_length_eq_zero e0⟩
 ·refine .inr ⟨g,cap,e,(Array.getElem?_eq_some_iff.1 hg).1,hb,fun j k a v hj=>?_⟩
  have hc:=h.own.cells (g:=g) (by rw [e];rfl)
  obtain⟨h1,h2,h3⟩:=krow_get L j k a v hj
  have c1:=hc _ _ h1
  have c2:=hc _ _ h2
  have c3:=hc _ _ h3
  rw [addr_add] at c1 c2 c3
  exact⟨c1,c2,c3⟩
end
set_option maxRecDepth 100000 in
set_option maxHeartbeats 2000000 in
theorem refRead_walk (base R g cap:Nat) (k t last:Int) (L:List (Int × Int × Int)) (w:World) (hk:inB k 0 9=true) (hlen:L.length≤100000) (h:Ref P w base R last (.slice (some ⟨g,0,none⟩) L.length cap) L) :
  Calls Tryz.prog 135 #[.pointer (some ⟨R,1,none⟩),.int .i64 k,.int .i64 t] w fun e w' =>
   e=.returned (.tuple #[.agg #[.int .i64 ((best k t L).getD (0,0)).1,.int .i64 ((best k t L).getD (0,0)).2],.int .i64 (errOf (best k t L))])∧Below w.heap.size w w':=by
 have hc:=h.c0
 have hR:=h.lt
 obtain⟨hgl,hcells⟩:g<w.heap.size∧∀ j k a v,L[j]?=some (k,a,v)→w.cell? ⟨g,j*3,none⟩=some (.int .i64 k)∧w.cell? ⟨g,j*3+1,none⟩=some (.int .i64 a)∧w.cell? ⟨g,j*3+2,none⟩=some (.int .i64 v):=by
  rcases h.slice with ⟨e,_⟩ | ⟨g',cp,e,h1,h2,h3⟩
  ·cases e
  ·cases e;exact⟨h1,h3⟩
 have HC:=hid hcells
 clear hcells
 go_enter Tryz.func135,Tryz.ntmps135
 go_wp2_with (go_at_call 54;refine (in_any _ _ _ _).mono ?_;rintro e w' ⟨rfl,rfl⟩)
 go_loopw [9,22] (fun sv i wr=>∃ (j:Nat) (b:Option (Int × Int)),j≤L.length∧i=.int .i64 j∧b=best k t (L.take j)∧sv=.bool b.isSome∧wr.heap[w.heap.size]?=some (.cells #[.int .i64 0,.int .i64 0] 199 (0,0))∧wr.heap[w.heap.size+1]?=some (.cells #[.int .i64 (b.getD (0,0)).1,.int .i64 (b.getD (0,0)).2] 199 (0,0))∧Below w.heap.size w wr) (fun _ i _=>L.length-(intOf i).toNat)
 case atStart=>exact⟨0,none,Nat.zero_le _,rfl,by simp [best],rfl,(Below.heap_alloc _ _ _ (by simp)).trans (World.alloc_heap_new w _),by have:=World.alloc_heap_new (w.alloc (.cells #[.int .i64 0,.int .i64 0] 199)) (.cells #[.int .i64 0,.int .i64 0] 199);simpa using this,((Below.refl _ w).alloc (Nat.le_refl _) _).alloc (by simp) _⟩
 case round =>
  obtain⟨j,b,hj,rfl,hb,rfl,hx,hy,hB⟩:=hrel
  have hszX:=(Array.getElem?_eq_some_iff.1 hy).1
  have HB:=hid hb
  clear hb
  by_cases hlt:j<L.length
  ·obtain⟨⟨k',a,v⟩,hav⟩:∃ p,L[j]?=some p:=⟨L[j],List.getElem?_eq_getElem hlt⟩
   obtain⟨d1,d2,d3⟩:=HC.out j k' a v hav
   have e1:=(hB.cell (p:=⟨g,j*3,none⟩) hgl).trans d1
   have e2:=(hB.cell (p:=⟨g,j*3+1,none⟩) hgl).trans d2
   have e3:=(hB.cell (p:=⟨g,j*3+2,none⟩) hgl).trans d3
   have hst:Hid (best k t (L.take (j+1))=bestS k t b (k',a,v)):=by
    show _=_
    rw [List.take_add_one,hav,HB.out]
    exact best_snoc _ _ _ _
   have hj0:(0:Int)≤(j:Int):=by omega
   have hj1:(j:Int)<(L.length:Int):=by omega
   obtain⟨p1,p2,hp⟩:∃ p1 p2,b.getD (0,0)=(p1,p2):=⟨_,_,rfl⟩
   rw [hp] at hy
   simp only at hy
   have f1:wr.cell? ⟨w.heap.size+1,0,none⟩=some (.int .i64 p1):=(cell_of_row _ _ 0 _ 199 (0,0) hy).trans rfl
   have f2:wr.cell? ⟨w.heap.size+1,1,none⟩=some (.int .i64 p2):=(cell_of_row _ _ 1 _ 199 (0,0) hy).trans rfl
   have f3:=frozen_of_row wr (w.heap.size+1) 0 _ 199 hy
   have f4:=frozen_of_row wr (w.heap.size+1) 1 _ 199 hy
   have HP:=hid hp
   have HX:=hid hx
   have HY:=hid hy
   clear hav d1 d2 d3 hx hy hp HC HB
   by_cases q1:k'=k
   ·have q1':(k'==k)=true:=by simpa using q1
    have Q1:=hid q1
    clear q1
    by_cases q2:a≤t
    ·cases b with
     | none =>
      have hs0:(none:Option (Int × Int)).isSome=false:=rfl
      go_wp2
      go_roundw
      case rel =>
       refine⟨j+1,some (a,v),by omega,by go_num,by rw [hst.out];simp [bestS,Q1.out,q2],rfl,?_,?_,?_⟩
       ·rw [Below.heap_alloc _ _ _ (by simp;omega),heap_setCell_other _ _ _ _ (show w.heap.size≠w.heap.size+1 by omega),heap_setCell_other _ _ _ _ (show w.heap.size≠w.heap.size+1 by omega)];exact HX.out
       ·rw [Below.heap_alloc _ _ _ (by simp;omega)];exact two_set HY.out a v
       ·exact ((hB.setCell (p:=⟨w.heap.size+1,0,none⟩) (by simp) _).setCell (p:=⟨w.heap.size+1,1,none⟩) (by simp) _).alloc (by simp;omega) _
      case measure=>simp [intOf];omega
     | some bb =>
      have hs0:(some bb).isSome=true:=rfl
      have hbb:=hid (show bb=(p1,p2) by simpa using HP.out)
      by_cases q3:p1<a
      ·have q3':Hid (bb.1<a):=by show _<_;rw [hbb.out];exact q3
       go_wp2
       go_roundw
       case rel =>
        refine⟨j+1,some (a,v),by omega,by go_num,by rw [hst.out];simp [bestS,Q1.out,q2,q3'.out],rfl,?_,?_,?_⟩
        ·rw [Below.heap_alloc _ _ _ (by simp;omega),heap_setCell_other _ _ _ _ (show w.heap.size≠w.heap.size+1 by omega),heap_setCell_other _ _ _ _ (show w.heap.size≠w.heap.size+1 by omega)];exact HX.out
        ·rw [Below.heap_alloc _ _ _ (by simp;omega)];exact two_set HY.out a v
        ·exact ((hB.setCell (p:=⟨w.heap.size+1,0,none⟩) (by simp) _).setCell (p:=⟨w.heap.size+1,1,none⟩) (by simp) _).alloc (by simp;omega) _
       case measure=>simp [intOf];omega
      ·have q3':Hid (¬ bb.1<a):=by show ¬ _<_;rw [hbb.out];exact q3
       go_wp2
       go_roundw
       case rel =>
        refine⟨j+1,some bb,by omega,by go_num,by rw [hst.out];simp [bestS,q3'.out],rfl,?_,?_,hB.alloc (by omega) _⟩
        ·rw [Below.heap_alloc _ _ _ (by omega)];exact HX.out
        ·rw [Below.heap_alloc _ _ _ (by omega)];rw [Option.getD_some,hbb.out];exact HY.out
       case measure=>simp [intOf];omega
    ·have q2':=hid q2
     go_wp2
     go_roundw
     case rel =>
      refine⟨j+1,b,by omega,by go_num,by rw [hst.out];simp [bestS,q2'.out],rfl,?_,?_,hB.alloc (by omega) _⟩
      ·rw [Below.heap_alloc _ _ _ (by omega)];exact HX.out
      ·rw [Below.heap_alloc _ _ _ (by omega)];rw [HP.out];exact HY.out
     case measure=>simp [intOf];omega
   ·have q1':(k'==k)=false:=by simpa using q1
    have Q1:=hid q1
    clear q1
    go_wp2
    go_roundw
    case rel =>
     refine⟨j+1,b,by omega,by go_num,by rw [hst.out];simp [bestS,Q1.out],rfl,?_,?_,hB.alloc (by omega) _⟩
     ·rw [Below.heap_alloc _ _ _ (by omega)];exact HX.out
     ·rw [Below.heap_alloc _ _ _ (by omega)];rw [HP.out];exact HY.out
    case measure=>simp [intOf];omega
  ·have e:L.take j=L:=List.take_of_length_le (by omega)
   rw [e] at HB
   have g0:wr.cell? ⟨w.heap.size,0,none⟩=some (.int .i64 0):=(cell_of_row _ _ 0 _ 199 (0,0) hx).trans rfl
   have g1:wr.cell? ⟨w.heap.size,1,none⟩=some (.int .i64 0):=(cell_of_row _ _ 1 _ 199 (0,0) hx).trans rfl
   have f0:=frozen_of_row wr w.heap.size 0 _ 199 hx
   have f1:=frozen_of_row wr w.heap.size 1 _ 199 hx
   cases b with
   | none =>
    have hs0:(none:Option (Int × Int)).isSome=false:=rfl
    clear e HC hx hy
    go_wp2
    refine bodyPost_ret (v:=.tuple #[.agg #[.int .i64 0,.int .i64 0],.int .i64 8]) (by simp [results,Tryz.results135,go_sem,g0,g1]) rfl ⟨by rw [← HB.out];rfl,?_⟩
    exact (hB.setCell (p:=⟨w.heap.size,0,none⟩) (by simp) _).setCell (p:=⟨w.heap.size,1,none⟩) (by simp) _
   | some bb =>
    obtain⟨p1,p2⟩:=bb
    have hs0:(some (p1,p2)).isSome=true:=rfl
    simp only [Option.getD_some] at hy
    have k0:wr.cell? ⟨w.heap.size+1,0,none⟩=some (.int .i64 p1):=(cell_of_row _ _ 0 _ 199 (0,0) hy).trans rfl
    have k1:wr.cell? ⟨w.heap.size+1,1,none⟩=some (.int .i64 p2):=(cell_of_row _ _ 1 _ 199 (0,0) hy).trans rfl
    clear e HC hx hy
    go_wp2
    refine bodyPost_ret (v:=.tuple #[.agg #[.int .i64 p1,.int .i64 p2],.int .i64 0]) (by simp [results,Tryz.results135,go_sem,g0,g1]) rfl ⟨by rw [← HB.out];rfl,?_⟩
    exact (hB.setCell (p:=⟨w.heap.size,0,none⟩) (by simp) _).setCell (p:=⟨w.heap.size,1,none⟩) (by simp) _
end Go.Proofs.YtjefgmeejhakbaaGreatDoor.Gs
