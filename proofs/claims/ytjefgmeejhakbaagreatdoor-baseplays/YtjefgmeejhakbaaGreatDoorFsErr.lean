/- The document's Install where something is wrong, or there is nothing to install. -/
import Derived.Test.YtjefgmeejhakbaaGreatDoorMgAJ
import Derived.Test.YtjefgmeejhakbaaGreatDoorFsSweep
import Derived.Test.YtjefgmeejhakbaaGreatDoorMgAH
namespace Go.Proofs.YtjefgmeejhakbaaGreatDoor
open Go.RowKit
variable {P:Tail}
section
variable {w w3:World} {X:Nat}
theorem res_cells (hx:w3.heap[X]?=some (.cells #[.int .i64 0,.int .i64 0] 26 (0,0))) (c p:Int) :
  ((w3.setCell ⟨X,0,none⟩ (.int .i64 c)).setCell ⟨X,1,none⟩ (.int .i64 p)).cell? ⟨X,0,none⟩=some (.int .i64 c) ∧
  ((w3.setCell ⟨X,0,none⟩ (.int .i64 c)).setCell ⟨X,1,none⟩ (.int .i64 p)).cell? ⟨X,1,none⟩=some (.int .i64 p) :=
 ⟨(cell_of_row _ _ 0 _ 26 (0,0) (two_set hx c p)).trans rfl,(cell_of_row _ _ 1 _ 26 (0,0) (two_set hx c p)).trans rfl⟩
end
set_option maxRecDepth 100000 in
set_option maxHeartbeats 2000000 in
theorem refInst_order (base R:Nat) (last t:Int) (lv u:Value) (L:List (Int × Int × Int)) (w:World) (h:Ref P w base R last lv L) (ho:t≤last∨1099511627776<t) :
  Calls Tryz.prog 75 #[.pointer (some ⟨R,0,none⟩),.int .i64 t,u] w fun e w'=>e=.returned (.agg #[.int .i64 10,.int .i64 (-1)])∧Below w.heap.size w w':=by
 have hc0:=h.c1
 have hRl:=h.lt
 have key:∀ w3:World,Below (w.alloc (.cells #[.int .i64 0,.int .i64 0] 26)).heap.size (w.alloc (.cells #[.int .i64 0,.int .i64 0] 26)) w3→w3.heap[w.heap.size]?=some (.cells #[.int .i64 0,.int .i64 0] 26 (0,0)) :=
  fun w3 hB=>(hB.block w.heap.size (by simp)).trans (World.alloc_heap_new w _)
 have HK:=hid key
 clear key h
 by_cases h1:t≤last
 ·go_enter Tryz.func75,Tryz.ntmps75
  go_wp2_with fail
  refine (bareF_any 10 _).mono ?_
  rintro e w3 ⟨rfl,hB3⟩
  have hx3:=HK.out w3 hB3
  have f0:=frozen_of_row w3 w.heap.size 0 _ 26 hx3
  have f1:=frozen_of_row w3 w.heap.size 1 _ 26 hx3
  have c0:w3.cell? ⟨w.heap.size,0,none⟩=some (.int .i64 0):=(cell_of_row _ _ 0 _ 26 (0,0) hx3).trans rfl
  have c1:w3.cell? ⟨w.heap.size,1,none⟩=some (.int .i64 0):=(cell_of_row _ _ 1 _ 26 (0,0) hx3).trans rfl
  have G:=hid (res_cells hx3 10 (-1))
  have HB:=hid (((Below.refl w.heap.size w).alloc (Nat.le_refl _) (.cells #[.int .i64 0,.int .i64 0] 26)).trans (hB3.mono (by simp)))
  clear hx3 hB3
  go_wp2
  exact bodyPost_ret (v:=.agg #[.int .i64 10,.int .i64 (-1)]) (by simp [results,Tryz.results75,go_sem,G.out.1,G.out.2]) rfl ⟨rfl,(HB.out.setCell (p:=⟨w.heap.size,0,none⟩) (Nat.le_refl _) _).setCell (p:=⟨w.heap.size,1,none⟩) (Nat.le_refl _) _⟩
 ·have h2:1099511627776<t:=by omega
  go_enter Tryz.func75,Tryz.ntmps75
  go_wp2_with fail
  refine (bareF_any 10 _).mono ?_
  rintro e w3 ⟨rfl,hB3⟩
  have hx3:=HK.out w3 hB3
  have f0:=frozen_of_row w3 w.heap.size 0 _ 26 hx3
  have f1:=frozen_of_row w3 w.heap.size 1 _ 26 hx3
  have c0:w3.cell? ⟨w.heap.size,0,none⟩=some (.int .i64 0):=(cell_of_row _ _ 0 _ 26 (0,0) hx3).trans rfl
  have c1:w3.cell? ⟨w.heap.size,1,none⟩=some (.int .i64 0):=(cell_of_row _ _ 1 _ 26 (0,0) hx3).trans rfl
  have G:=hid (res_cells hx3 10 (-1))
  have HB:=hid (((Below.refl w.heap.size w).alloc (Nat.le_refl _) (.cells #[.int .i64 0,.int .i64 0] 26)).trans (hB3.mono (by simp)))
  clear hx3 hB3
  go_wp2
  exact bodyPost_ret (v:=.agg #[.int .i64 10,.int .i64 (-1)]) (by simp [results,Tryz.results75,go_sem,G.out.1,G.out.2]) rfl ⟨rfl,(HB.out.setCell (p:=⟨w.heap.size,0,none⟩) (Nat.le_refl _) _).setCell (p:=⟨w.heap.size,1,none⟩) (Nat.le_refl _) _⟩
set_option maxRecDepth 100000 in
set_option maxHeartbeats 4000000 in
theorem refInst_empty (base R cap:Nat) (ad:Option Addr) (last t:Int) (lv:Value) (L:List (Int × Int × Int)) (w:World) (h:Ref P w base R last lv L) (h1:last<t) (h2:t≤1099511627776) :
  Calls Tryz.prog 75 #[.pointer (some ⟨R,0,none⟩),.int .i64 t,.slice ad 0 cap] w fun e w'=>e=.returned (.agg #[.int .i64 0,.int .i64 (-1)]) ∧
   Ref P w' base R t lv L∧KeptS R w w':=by
 have hc0:=h.c1
 have hRl:=h.lt
 have d1:decide (t≤last)=false:=by simp;omega
 have d2:decide (1099511627776<t)=false:=by simp;omega
 have HR:=hid h
 clear h
 go_enter Tryz.func75,Tryz.ntmps75
 go_wp2
 go_loopw [26] (fun i wr=>i=.int .i64 0∧wr=w.alloc (.cells #[.int .i64 0,.int .i64 0] 26)) (fun _ _=>0)
 case atStart=>exact⟨rfl,rfl⟩
 case round =>
  obtain⟨rfl,rfl⟩:=hrel
  go_wp2
  go_loopw [44] (fun i wz=>∃ j:Nat,j≤10∧i=.int .i64 j∧wz=w.alloc (.cells #[.int .i64 0,.int .i64 0] 26)) (fun i _=>10-(intOf i).toNat)
  case atStart=>exact⟨0,by omega,rfl,rfl⟩
  case round =>
   obtain⟨j,hj,rfl,rfl⟩:=hrel
   by_cases hjl:j<10
   ·have hj0:(0:Int)≤(j:Int):=by omega
    have hj1:(j:Int)<10:=by omega
    go_wp2
    go_loopw [10,49] (fun lt i wz=>i=.int .i64 0∧lt=.int .i64 (-1)∧wz=w.alloc (.cells #[.int .i64 0,.int .i64 0] 26)) (fun _ _ _=>0)
    case atStart=>exact⟨rfl,rfl,rfl⟩
    case round =>
     obtain⟨rfl,rfl,rfl⟩:=hrel
     go_wp2
     go_roundw
     case rel=>exact⟨j+1,by omega,by go_num,trivial⟩
     case measure=>simp [intOf];omega
   ·have hj10:j=10:=by omega
    subst hj10
    have hRz:=hid (HR.out.below ((Below.refl w.heap.size w).alloc (Nat.le_refl _) (.cells #[.int .i64 0,.int .i64 0] 26)))
    obtain⟨wa,hwa⟩:∃ wa,w.alloc (.cells #[.int .i64 0,.int .i64 0] 26)=wa:=⟨_,rfl⟩
    have hsa:wa.heap.size=w.heap.size+1:=by rw [← hwa];simp
    have hxa:wa.heap[w.heap.size]?=some (.cells #[.int .i64 0,.int .i64 0] 26 (0,0)):=by rw [← hwa];exact World.alloc_heap_new w _
    have hKa:KeptS R w wa:=by rw [← hwa];exact KeptS.of_below ((Below.refl w.heap.size w).alloc (Nat.le_refl _) _)
    rw [hwa] at hRz ⊢
    have cL:=hRz.out.c1
    have fL:=frozen_of_row wa R 1 _ P.tt hRz.out.blk
    have hRlt:=hRz.out.lt
    have hxne:w.heap.size≠R:=by omega
    have HX:=hid hxa
    clear hxa hwa
    go_wp2_with fail
    refine (bareF_any 0 _).mono ?_
    rintro e w3 ⟨rfl,hB3⟩
    have hs3:=hB3.size
    simp only [World.size_setCell] at hs3
    have hx3:w3.heap[w.heap.size]?=some (.cells #[.int .i64 0,.int .i64 0] 26 (0,0)):=(hB3.block w.heap.size (by simp;omega)).trans ((heap_setCell_other _ _ _ _ hxne).trans HX.out)
    have f0:=frozen_of_row w3 w.heap.size 0 _ 26 hx3
    have f1:=frozen_of_row w3 w.heap.size 1 _ 26 hx3
    have c0:w3.cell? ⟨w.heap.size,0,none⟩=some (.int .i64 0):=(cell_of_row _ _ 0 _ 26 (0,0) hx3).trans rfl
    have c1:w3.cell? ⟨w.heap.size,1,none⟩=some (.int .i64 0):=(cell_of_row _ _ 1 _ 26 (0,0) hx3).trans rfl
    have G:=hid (res_cells hx3 0 (-1))
    clear hx3
    go_wp2
    refine bodyPost_ret (v:=.agg #[.int .i64 0,.int .i64 (-1)]) (by simp [results,Tryz.results75,go_sem,G.out.1,G.out.2]) rfl ⟨rfl,?_,?_⟩
    ·have hRn:R≠w.heap.size:=fun e=>hxne e.symm
     refine⟨(heap_setCell_other _ _ _ _ hRn).trans ((heap_setCell_other _ _ _ _ hRn).trans ((hB3.block R (by simpa using hRlt)).trans ((heap_setCell_same wa R 1 _ P.tt _ hRz.out.blk).trans (by simp [fcells])))),owns_same hRz.out.own (fun g e=>?_),hRz.out.nl,hRz.out.rb⟩
     have hgl:=hRz.out.own.lt g e
     have hgw:=HR.out.own.lt g e
     have hgR:g≠R:=by have:=hRz.out.rb;omega
     have hgn:g≠w.heap.size:=by omega
     exact (heap_setCell_other _ _ _ _ hgn).trans ((heap_setCell_other _ _ _ _ hgn).trans ((hB3.block g (by simpa using hgl.2)).trans (heap_setCell_other _ _ _ _ hgR)))
    ·refine⟨hB3.os.trans hKa.os,hB3.tape.trans hKa.tape,hB3.output.trans hKa.output,by simp;omega,fun b' hb' hne=>?_⟩
     have hbn:b'≠w.heap.size:=by omega
     exact (heap_setCell_other _ _ _ _ hbn).trans ((heap_setCell_other _ _ _ _ hbn).trans ((hB3.block b' (by simp;omega)).trans ((heap_setCell_other _ _ _ _ hne).trans (hKa.block b' hb' hne))))
end Go.Proofs.YtjefgmeejhakbaaGreatDoor
