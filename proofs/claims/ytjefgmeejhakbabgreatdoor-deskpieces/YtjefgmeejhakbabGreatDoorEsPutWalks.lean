/- The walks of (*Store).put: the last version is of the same time; of another; there is none. -/
import Derived.Test.YtjefgmeejhakbabGreatDoorMgAB
import Derived.Test.YtjefgmeejhakbabGreatDoorMgAF
import Derived.WalkSpells
import Derived.BigQuiet
import Derived.Deep.QuietTactic
import Derived.Deep.AppendLies
import Derived.Deep.RegionHeld3
import Derived.KernelRfl
namespace Go.Proofs.YtjefgmeejhakbabGreatDoor
open Go.RowKit
variable {P:Tail}
theorem info44:(Tryz.prog.info? 198).map (fun i=>(i.zero,i.size,i.bytes))=some (some (.agg #[.int .i64 0,.int .i64 0]),2,16):=by kernel_rfl
set_option maxRecDepth 100000 in
set_option maxHeartbeats 1000000 in
theorem put_same (s k g m cap:Nat) (t x y:Int) (w:World) (hk:k<10) (hm:m<1000000) (hc:w.cell? ⟨s,1+k,none⟩=some (.slice (some ⟨g,0,none⟩) (m+1) cap))
  (h1:w.cell? ⟨g,m*2,none⟩=some (.int .i64 t)) (h2:w.cell? ⟨g,m*2+1,none⟩=some (.int .i64 y)) (hf:w.frozen? ⟨g,m*2+1,none⟩=false) :
  Calls Tryz.prog 311 #[.pointer (some ⟨s,0,none⟩),.int .i64 t,.agg #[.int .i64 (k:Int),.int .i64 x]] w fun e w'=>e=.returned (.tuple #[]) ∧
   ∃ n,w'=((w.alloc (.cells #[.int .i64 (k:Int),.int .i64 x] 122)).drewN n).setCell ⟨g,m*2+1,none⟩ (.int .i64 x):=by
 have hk0:(0:Int)≤(k:Int):=by omega
 have hk1:(k:Int)<10:=by omega
 have hs:s<w.heap.size:=World.block_lt_of_cell? w _ hc
 have hg:g<w.heap.size:=World.block_lt_of_cell? w _ h1
 have hm0:(0:Int)≤(m:Int):=by omega
 go_enter Tryz.func311,Tryz.ntmps311
 go_wp2
 go_quiet (fail)
 go_wp2
 refine bodyPost_ret (results_none rfl _ _ _) rfl ?_
 exact⟨rfl,nq,rfl⟩
set_option maxRecDepth 100000 in
set_option maxHeartbeats 1000000 in
theorem put_later (s k g m cap base:Nat) (t x u:Int) (xs:List Value) (w:World) (hk:k<10) (hm:m<1000000) (hc:w.cell? ⟨s,1+k,none⟩=some (.slice (some ⟨g,0,none⟩) (m+1) cap))
    (h1:w.cell? ⟨g,m*2,none⟩=some (.int .i64 u)) (hu:(u==t)=false) (hf:w.frozen? ⟨s,1+k,none⟩=false) (hsg:s≠g)
    (hown:w.ownsRow base 198 2 (.slice (some ⟨g,0,none⟩) (m+1) cap) (m+1) xs) (hbase:base≤w.heap.size) :
    Calls Tryz.prog 311 #[.pointer (some ⟨s,0,none⟩),.int .i64 t,.agg #[.int .i64 (k:Int),.int .i64 x]] w fun e w'=>e=.returned (.tuple #[]) ∧
      ∃ gg cap' w1,w'=w1.setCell ⟨s,1+k,none⟩ (.slice (some ⟨gg,0,none⟩) (m+2) cap')∧w1.ownsRow base 198 2 (.slice (some ⟨gg,0,none⟩) (m+2) cap') (m+2) (xs++[.int .i64 t,.int .i64 x]) ∧
        w.grownBy w1 (some g)∧(gg=g∨w.heap.size≤gg)∧gg<w1.heap.size:=by
  obtain⟨i0,hi0,hz0,hz1,hz2⟩:=info_parts info44
  have hk0:(0:Int)≤(k:Int):=by omega
  have hk1:(k:Int)<10:=by omega
  have hs:s<w.heap.size:=World.block_lt_of_cell? w _ hc
  have hg:g<w.heap.size:=World.block_lt_of_cell? w _ h1
  have hm0:(0:Int)≤(m:Int):=by omega
  go_enter Tryz.func311,Tryz.ntmps311
  go_wp2
  go_quiet (fail)
  go_wp2
  have a0:((w.alloc (.cells #[.int .i64 (k:Int),.int .i64 x] 122)).drewN nq).cell? ⟨w.heap.size,0,none⟩=some (.int .i64 (k:Int)):=(cell_of_row _ w.heap.size 0 _ 122 (0,0) (World.alloc_heap_new w _)).trans rfl
  have a1:((w.alloc (.cells #[.int .i64 (k:Int),.int .i64 x] 122)).drewN nq).cell? ⟨w.heap.size,1,none⟩=some (.int .i64 x):=(cell_of_row _ w.heap.size 1 _ 122 (0,0) (World.alloc_heap_new w _)).trans rfl
  have aG:w.grownBy ((w.alloc (.cells #[.int .i64 (k:Int),.int .i64 x] 122)).drewN nq) (some g):=⟨rfl,rfl,rfl,by simp,fun b hb _=>Below.heap_alloc _ _ _ hb⟩
  have aO:((w.alloc (.cells #[.int .i64 (k:Int),.int .i64 x] 122)).drewN nq).ownsRow base 198 2 (.slice (some ⟨g,0,none⟩) (m+1) cap) (m+1) xs:=hown.kept (row:=none) ⟨rfl,rfl,rfl,by simp,fun b hb _=>Below.heap_alloc _ _ _ hb⟩ (.inr (by simp [Value.ownBlock]))
  have aS:((w.alloc (.cells #[.int .i64 (k:Int),.int .i64 x] 122)).drewN nq).heap.size=w.heap.size+1:=by simp
  obtain⟨W1,hW1⟩:∃ W1,(w.alloc (.cells #[.int .i64 (k:Int),.int .i64 x] 122)).drewN nq=W1:=⟨_,rfl⟩
  have aN:∀ o,(((w.alloc (.cells #[.int .i64 (k:Int),.int .i64 x] 122)).drewN nq).alloc o).heap[w.heap.size+1]?=some o:=fun o=>by
    have:=heap_alloc_new ((w.alloc (.cells #[.int .i64 (k:Int),.int .i64 x] 122)).drewN nq) o
    rwa [aS] at this
  rw [hW1] at a0 a1 aG aO aS aN ⊢
  clear hW1
  have c1:W1.cell? ⟨s,1+k,none⟩=some (.slice (some ⟨g,0,none⟩) (m+1) cap):=(aG.cell_far _ hs (by simpa using hsg)).trans hc
  have f1:W1.frozen? ⟨s,1+k,none⟩=false:=(aG.frozen_far _ hs (by simpa using hsg)).trans hf
  have wg:w.heap.size≠g:=by omega
  have hne:¬ w.heap.size=s:=by omega
  have hne':¬ s=w.heap.size:=by omega
  clear hc h1 hf hown
  go_region_held3 (fun w'=>w'.cell? ⟨w.heap.size,0,none⟩=some (.int .i64 (k:Int))∧w'.cell? ⟨w.heap.size,1,none⟩=some (.int .i64 x))
    (first
      | go_keep
      | (go_split_ands
         refine⟨?_,?_⟩
         · (rw [hgrow.cell_far _ (by simp;omega) (by simpa [Value.ownBlock] using wg)];assumption)
         · (rw [hgrow.cell_far _ (by simp;omega) (by simpa [Value.ownBlock] using wg)];assumption)))
    ((refine step_append_lies _ (by rfl) _ _ _ (by rfl) base 198 i0 _ 2 16 Tryz.underlying244 hi0 hz0 hz1 hz2 rfl (by omega) (.slice (some ⟨g,0,none⟩) (m+1) cap) (m+1) xs (by rfl) ((aO.alloc _).drew)
        ⟨w.heap.size+1,0,none⟩ 1 1 [.int .i64 t,.int .i64 x] (by rfl) (by rfl) (World.news_of_block (cs:=#[.int .i64 t,.int .i64 x]) (t:=198) (fr:=(0,0)) (aN _)) (by simp [Value.oneCell'])
        (by omega) (by unfold maxLen;omega) (by omega) (by simp;omega) (w.heap.size+1+1) (by simp [aS]) ?_;intro gg cap' w1 hown1 hgrow hat hlt
      have c2:w1.cell? ⟨s,1+k,none⟩=some (.slice (some ⟨g,0,none⟩) (m+1) cap):=(hgrow.cell_far ⟨s,1+k,none⟩ (by simp;omega) (by simpa [Value.ownBlock] using hsg)).trans ((World.cell?_of_block (a:=⟨s,1+k,none⟩) (Below.heap_alloc W1 _ s (by omega))).trans c1)
      have f2:w1.frozen? ⟨s,1+k,none⟩=false:=(hgrow.frozen_far ⟨s,1+k,none⟩ (by simp;omega) (by simpa [Value.ownBlock] using hsg)).trans ((World.frozen?_of_block (a:=⟨s,1+k,none⟩) (Below.heap_alloc W1 _ s (by omega))).trans f1)))
  go_end0
  refine⟨rfl,gg,cap',w1,rfl,hown1,⟨hgrow.os.trans aG.os,hgrow.tape.trans aG.tape,hgrow.output.trans aG.output,?_,?_⟩,?_,hlt⟩
  · have h1:=aG.size
    have h2:=hgrow.size
    simp at h2
    omega
  · intro b hb hne
    have hb1:b<W1.heap.size:=by omega
    refine (hgrow.block b (by simp;omega) hne).trans (((Below.heap_alloc W1 _ b hb1)).trans (aG.block b hb hne))
  · rcases hat with h | h
    · left;simp [Value.ownBlock] at h;exact h.symm
    · right;omega
set_option maxRecDepth 100000 in
set_option maxHeartbeats 1000000 in
theorem put_first (s k cap base:Nat) (ad:Option Addr) (t x:Int) (xs:List Value) (w:World) (hk:k<10) (hc:w.cell? ⟨s,1+k,none⟩=some (.slice ad 0 cap))
    (hf:w.frozen? ⟨s,1+k,none⟩=false) (hsg:some s≠(Value.slice ad 0 cap).ownBlock) (hwg:some w.heap.size≠(Value.slice ad 0 cap).ownBlock)
    (hown:w.ownsRow base 198 2 (.slice ad 0 cap) 0 xs) (hbase:base≤w.heap.size) :
    Calls Tryz.prog 311 #[.pointer (some ⟨s,0,none⟩),.int .i64 t,.agg #[.int .i64 (k:Int),.int .i64 x]] w fun e w'=>e=.returned (.tuple #[]) ∧
      ∃ gg cap' w1,w'=w1.setCell ⟨s,1+k,none⟩ (.slice (some ⟨gg,0,none⟩) 1 cap')∧w1.ownsRow base 198 2 (.slice (some ⟨gg,0,none⟩) 1 cap') 1 (xs++[.int .i64 t,.int .i64 x]) ∧
        w.grownBy w1 (Value.slice ad 0 cap).ownBlock∧((Value.slice ad 0 cap).ownBlock=some gg∨w.heap.size≤gg)∧gg<w1.heap.size:=by
  obtain⟨i0,hi0,hz0,hz1,hz2⟩:=info_parts info44
  have hk0:(0:Int)≤(k:Int):=by omega
  have hk1:(k:Int)<10:=by omega
  have hs:s<w.heap.size:=World.block_lt_of_cell? w _ hc
  go_enter Tryz.func311,Tryz.ntmps311
  go_wp2
  go_quiet (fail)
  go_wp2
  have a0:((w.alloc (.cells #[.int .i64 (k:Int),.int .i64 x] 122)).drewN nq).cell? ⟨w.heap.size,0,none⟩=some (.int .i64 (k:Int)):=(cell_of_row _ w.heap.size 0 _ 122 (0,0) (World.alloc_heap_new w _)).trans rfl
  have a1:((w.alloc (.cells #[.int .i64 (k:Int),.int .i64 x] 122)).drewN nq).cell? ⟨w.heap.size,1,none⟩=some (.int .i64 x):=(cell_of_row _ w.heap.size 1 _ 122 (0,0) (World.alloc_heap_new w _)).trans rfl
  have aG:w.grownBy ((w.alloc (.cells #[.int .i64 (k:Int),.int .i64 x] 122)).drewN nq) (Value.slice ad 0 cap).ownBlock:=⟨rfl,rfl,rfl,by simp,fun b hb _=>Below.heap_alloc _ _ _ hb⟩
  have aO:((w.alloc (.cells #[.int .i64 (k:Int),.int .i64 x] 122)).drewN nq).ownsRow base 198 2 (.slice ad 0 cap) 0 xs:=hown.kept (row:=none) ⟨rfl,rfl,rfl,by simp,fun b hb _=>Below.heap_alloc _ _ _ hb⟩ (by cases (Value.slice ad 0 cap).ownBlock<;>simp)
  have aS:((w.alloc (.cells #[.int .i64 (k:Int),.int .i64 x] 122)).drewN nq).heap.size=w.heap.size+1:=by simp
  obtain⟨W1,hW1⟩:∃ W1,(w.alloc (.cells #[.int .i64 (k:Int),.int .i64 x] 122)).drewN nq=W1:=⟨_,rfl⟩
  have aN:∀ o,(((w.alloc (.cells #[.int .i64 (k:Int),.int .i64 x] 122)).drewN nq).alloc o).heap[w.heap.size+1]?=some o:=fun o=>by
    have:=heap_alloc_new ((w.alloc (.cells #[.int .i64 (k:Int),.int .i64 x] 122)).drewN nq) o
    rwa [aS] at this
  rw [hW1] at a0 a1 aG aO aS aN ⊢
  clear hW1
  have c1:W1.cell? ⟨s,1+k,none⟩=some (.slice ad 0 cap):=(aG.cell_far _ hs hsg).trans hc
  have f1:W1.frozen? ⟨s,1+k,none⟩=false:=(aG.frozen_far _ hs hsg).trans hf
  have hne:¬ w.heap.size=s:=by omega
  have hne':¬ s=w.heap.size:=by omega
  clear hc hf hown
  go_region_held3 (fun w'=>w'.cell? ⟨w.heap.size,0,none⟩=some (.int .i64 (k:Int))∧w'.cell? ⟨w.heap.size,1,none⟩=some (.int .i64 x))
    (first
      | go_keep
      | (go_split_ands
         refine⟨?_,?_⟩
         · (rw [hgrow.cell_far ⟨w.heap.size,0,none⟩ (by simp;omega) hwg];assumption)
         · (rw [hgrow.cell_far ⟨w.heap.size,1,none⟩ (by simp;omega) hwg];assumption)))
    ((refine step_append_lies _ (by rfl) _ _ _ (by rfl) base 198 i0 _ 2 16 Tryz.underlying244 hi0 hz0 hz1 hz2 rfl (by omega) (.slice ad 0 cap) 0 xs (by rfl) ((aO.alloc _).drew)
        ⟨w.heap.size+1,0,none⟩ 1 1 [.int .i64 t,.int .i64 x] (by rfl) (by rfl) (World.news_of_block (cs:=#[.int .i64 t,.int .i64 x]) (t:=198) (fr:=(0,0)) (aN _)) (by simp [Value.oneCell'])
        (by omega) (by unfold maxLen;omega) (by omega) (by simp;omega) (w.heap.size+1+1) (by simp [aS]) ?_;intro gg cap' w1 hown1 hgrow hat hlt
      have c2:w1.cell? ⟨s,1+k,none⟩=some (.slice ad 0 cap):=(hgrow.cell_far ⟨s,1+k,none⟩ (by simp;omega) hsg).trans ((World.cell?_of_block (a:=⟨s,1+k,none⟩) (Below.heap_alloc W1 _ s (by omega))).trans c1)
      have f2:w1.frozen? ⟨s,1+k,none⟩=false:=(hgrow.frozen_far ⟨s,1+k,none⟩ (by simp;omega) hsg).trans ((World.frozen?_of_block (a:=⟨s,1+k,none⟩) (Below.heap_alloc W1 _ s (by omega))).trans f1)))
  go_end0
  refine⟨rfl,gg,cap',w1,rfl,hown1,⟨hgrow.os.trans aG.os,hgrow.tape.trans aG.tape,hgrow.output.trans aG.output,?_,?_⟩,?_,hlt⟩
  · have h1:=aG.size
    have h2:=hgrow.size
    simp at h2
    omega
  · intro b hb hne
    have hb1:b<W1.heap.size:=by omega
    refine (hgrow.block b (by simp;omega) hne).trans (((Below.heap_alloc W1 _ b hb1)).trans (aG.block b hb hne))
  · rcases hat with h | h
    · left;exact h
    · right;omega
end Go.Proofs.YtjefgmeejhakbabGreatDoor
