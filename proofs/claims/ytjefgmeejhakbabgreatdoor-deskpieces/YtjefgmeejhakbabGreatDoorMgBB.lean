/- OrCompact OrQueue OrPop: put together for a claim. -/
import Derived.Test.YtjefgmeejhakbabGreatDoorMgAK
import Derived.Test.YtjefgmeejhakbabGreatDoorMgAV
import Derived.Lib.SliceRun
import Derived.Laws.StructEq
import Derived.Test.YtjefgmeejhakbabGreatDoorMgAB
import Derived.Test.YtjefgmeejhakbabGreatDoorMgAH
namespace Go.Proofs.YtjefgmeejhakbabGreatDoor
open Go.RowKit
theorem comp_snoc:∀ (l:List (Int × Int)) (a b:Int × Int),compP (l++[a,b])=if a=b then compP (l++[a]) else compP (l++[a])++[b]
 | [],a,b=>by by_cases e:a=b<;>simp [compP,e]
 | [x],a,b=>by
  simp only [List.cons_append,List.nil_append,compP]
  by_cases e:x=a<;>by_cases e2:a=b<;>simp [e,e2]
 | x::y::r,a,b=>by
  have ih:=comp_snoc (y::r) a b
  simp only [List.cons_append,compP] at ih ⊢
  rw [ih]
  by_cases e:x=y<;>by_cases e2:a=b<;>simp [e,e2]
theorem compTo_step {d:List (Int × Int)} {i:Nat} {a b:Int × Int} (h1:d[i]?=some a) (h2:d[i+1]?=some b):compP (d.take (i+1+1))=if a=b then compP (d.take (i+1)) else compP (d.take (i+1))++[b]:=by
 have e1:d.take (i+1)=d.take i++[a]:=by rw [List.take_add_one,h1];rfl
 have e2:d.take (i+1+1)=d.take i++[a,b]:=by rw [List.take_add_one,h2,e1];simp
 rw [e1,e2,comp_snoc]
theorem comp_one {d:List (Int × Int)}:compP (d.take (0+1))=d.take (0+1):=by
 cases d with
 | nil=>rfl
 | cons a r=>rfl
theorem comp_len:∀ d:List (Int × Int),(compP d).length≤d.length
 | []=>Nat.le_refl _
 | [_]=>Nat.le_refl _
 | a::b::r=>by
  have:=comp_len (b::r)
  rw [compP]
  split<;>simp at*<;> omega
theorem eqW (a b c d:Int) (w:World):(binOp .eql 122 (.agg #[.int .i64 a,.int .i64 b]) (.agg #[.int .i64 c,.int .i64 d])).run Tryz.prog w=.ok (.bool (a==c&&b==d)) w:=by
 have hS:Tryz.prog.underlying 122=some (.struct (Tryz.prog.fieldsOf 122)):=by kernel_rfl
 have hp:Tryz.prog.stoodInHeld 122=false:=by kernel_rfl
 have u3:=Tryz.underlying3
 have a3:=Tryz.isAgg3
 have z3:=Tryz.sizeOf3
 rw [run_eql_struct,show (10000:Nat)=9999+1 from rfl,run_equalIn_agg w 9999 122 _ _ hS hp]
 simp only [Program.fieldsOf,Tryz.underlying122]
 go_simp
 by_cases h1:a=c<;>by_cases h2:b=d<;>simp [h1,h2]
theorem neW (a b c d:Int) (w:World):(binOp .neq 122 (.agg #[.int .i64 a,.int .i64 b]) (.agg #[.int .i64 c,.int .i64 d])).run Tryz.prog w=.ok (.bool (!(a==c&&b==d))) w:=by
 have hS:Tryz.prog.underlying 122=some (.struct (Tryz.prog.fieldsOf 122)):=by kernel_rfl
 have hp:Tryz.prog.stoodInHeld 122=false:=by kernel_rfl
 have u3:=Tryz.underlying3
 have a3:=Tryz.isAgg3
 have z3:=Tryz.sizeOf3
 rw [run_neq_struct,show (10000:Nat)=9999+1 from rfl,run_equalIn_agg w 9999 122 _ _ hS hp]
 simp only [Program.fieldsOf,Tryz.underlying122]
 go_simp
 by_cases h1:a=c<;>by_cases h2:b=d<;>simp [h1,h2]
theorem grown_drewN (w:World) (q:Nat) (r:Option Nat):w.grownBy (w.drewN q) r :=
 let b:=below_drewN (Below.refl w.heap.size w) q
 ⟨b.os,b.tape,b.output,b.size,fun k hk _=>b.block k hk⟩
theorem grown_trans {a b c:World} {r:Option Nat} (h:a.grownBy b r) (k:b.grownBy c r):a.grownBy c r :=
 ⟨k.os.trans h.os,k.tape.trans h.tape,k.output.trans h.output,Nat.le_trans h.size k.size,fun i hi hne=>(k.block i (Nat.lt_of_lt_of_le hi h.size) hne).trans (h.block i hi hne)⟩
theorem grown_setTwo (w:World) (g i j:Nat) (u v:Value):w.grownBy ((w.setCell ⟨g,i,none⟩ u).setCell ⟨g,j,none⟩ v) (some g) :=
 ⟨rfl,rfl,rfl,by simp,fun k _ hne=>(heap_setCell_other _ ⟨g,j,none⟩ k v (fun e=>hne (by rw [e]))).trans (heap_setCell_other w ⟨g,i,none⟩ k u (fun e=>hne (by rw [e])))⟩
theorem heap_setCells_keep {g:Nat} {e:TypeId}:∀ (vs:List Value) (o:Nat) (w:World) (cur:Array Value),w.heap[g]?=some (.cells cur e (0,0))→∃ cur',(w.setCells g o vs).heap[g]?=some (.cells cur' e (0,0))∧cur'.size=cur.size∧∀ i,i<o→cur'[i]?=cur[i]?
 | [],_,_,cur,h=>⟨cur,h,rfl,fun _ _=>rfl⟩
 | v::r,o,w,cur,h=>by
  rw [World.setCells]
  obtain⟨cur',h1,h2,h3⟩:=heap_setCells_keep r (o+1) _ _ (heap_setCell_same w g o cur e v h)
  refine⟨cur',h1,by rw [h2];simp,fun i hi=>?_⟩
  rw [h3 i (by omega),Array.getElem?_setIfInBounds,if_neg (by omega)]
theorem size_setCells' (b:Nat):∀ (vs:List Value) (o:Nat) (w:World),(w.setCells b o vs).heap.size=w.heap.size
 | [],_,_=>rfl
 | v::r,o,w=>by rw [World.setCells,size_setCells' b r];simp
theorem grown_setCells {g:Nat}:∀ (vs:List Value) (o:Nat) (w:World),w.grownBy (w.setCells g o vs) (some g)
 | [],_,w=>⟨rfl,rfl,rfl,Nat.le_refl _,fun _ _ _=>rfl⟩
 | v::r,o,w=>by
  have h:=grown_setCells (g:=g) r (o+1) (w.setCell ⟨g,o,none⟩ v)
  rw [World.setCells]
  exact⟨h.os,h.tape,h.output,by simp,fun k hk hne=>(h.block k (by simpa using hk) hne).trans (heap_setCell_other w ⟨g,o,none⟩ k v (fun e=>hne (by rw [e])))⟩
theorem owns_setTwo {w:World} {N g n cap:Nat} {m:List (Int × Int)} {e:TypeId} (h:w.ownsRow N e 2 (.slice (some ⟨g,0,none⟩) n cap) n (vrow m)) (k:Nat) (a b:Int) (hm:m.length=n) (hk:k<n) :
  ((w.setCell ⟨g,k*2,none⟩ (.int .i64 a)).setCell ⟨g,k*2+1,none⟩ (.int .i64 b)).ownsRow N e 2 (.slice (some ⟨g,0,none⟩) n cap) n (vrow (m.set k (a,b))):=by
 refine⟨by rw [vrow_length,List.length_set,hm],?_⟩
 rcases h.2 with ⟨e1,_⟩ | ⟨g',cap',cur,e1,hb,hg,h1,h2,h3,h4⟩
 ·cases e1
 ·cases e1
  refine .inr ⟨g,cap,_,rfl,hb,heap_setCell_same _ g (k*2+1) _ e _ (heap_setCell_same w g (k*2) cur e _ hg),h1,h2,by simpa using h3,?_⟩
  have hv:vrow (m.set k (a,b))=((vrow m).set (k*2) (.int .i64 a)).set (k*2+1) (.int .i64 b):=by
   clear h h1 h2 h3 h4 hg hb
   induction m generalizing k n with
   | nil=>simp at hm;omega
   | cons x r ih =>
    obtain⟨x1,x2⟩:=x
    cases k with
    | zero=>simp [vrow]
    | succ k =>
     have:=ih (n:=r.length) k rfl (by simp at hm;omega)
     simp only [List.set_cons_succ,vrow]
     rw [this,show (k+1)*2=k*2+1+1 by omega]
     simp
  rw [hv,← h4]
  simp [List.take_set]
theorem clear_keeps2 {w:World} {N g n cap k:Nat} {m:List (Int × Int)} (h:w.ownsRow N 122 2 (.slice (some ⟨g,0,none⟩) n cap) n (vrow m)) (hk:k≤n) (ty:TypeId) (c:Nat) :
  ∃ w',(Builtin.clear_ #[120] ty #[.slice (some ⟨g,k*2,none⟩) (n-k) c]).run Tryz.prog w=.ok (.tuple #[]) w'∧w'.ownsRow N 122 2 (.slice (some ⟨g,0,none⟩) k cap) k (vrow (m.take k))∧w.grownBy w' (some g):=by
 have hml:m.length=n:=by have:=h.1;rw [vrow_length] at this;omega
 have hvt:(vrow m).take (k*2)=vrow (m.take k):=by
  clear h
  induction m generalizing k n with
  | nil=>simp [vrow]
  | cons x r ih =>
   obtain⟨x1,x2⟩:=x
   cases k with
   | zero=>simp [vrow]
   | succ k =>
    rw [show (k+1)*2=k*2+1+1 by omega]
    simp only [vrow,List.take_succ_cons]
    rw [ih (n:=r.length) (by simp at hml;omega) rfl]
 rcases h.2 with ⟨e1,_⟩ | ⟨g',cap',cur,e1,hb,hg,h1,h2,h3,h4⟩
 ·cases e1
 ·cases e1
  have fin:∀ (w':World) (cur':Array Value),w'.heap[g]?=some (.cells cur' 122 (0,0))→cur'.size=cur.size→(∀ i,i<k*2→cur'[i]?=cur[i]?)→w'.ownsRow N 122 2 (.slice (some ⟨g,0,none⟩) k cap) k (vrow (m.take k)):=by
   intro w' cur' hg' hs' hi'
   refine⟨by rw [vrow_length,List.length_take];omega,.inr ⟨g,cap,cur',rfl,hb,hg',by omega,h2,by rw [hs',h3],?_⟩⟩
   rw [← hvt,← h4,List.take_take,Nat.min_eq_left (by omega)]
   apply List.ext_getElem?
   intro i
   rw [List.getElem?_take,List.getElem?_take]
   by_cases hi:i<k*2
   ·rw [if_pos hi,if_pos hi,Array.getElem?_toList,Array.getElem?_toList];exact hi' i hi
   ·rw [if_neg hi,if_neg hi]
  by_cases e0:n-k=0
  ·rw [e0]
   refine⟨w,?_,fin w cur hg rfl (fun _ _=>rfl),⟨rfl,rfl,rfl,Nat.le_refl _,fun _ _ _=>rfl⟩⟩
   simp [Builtin.clear_,run_underlying Tryz.underlying120]
  ·obtain⟨vs,hvs⟩:∃ vs,(Builtin.zeroCells (Value.agg #[.int .i64 0,.int .i64 0]).cells (n-k)).toList=vs:=⟨_,rfl⟩
   have hvl:vs.length=(n-k)*2:=by rw [← hvs];simp [Builtin.zeroCells,Value.cells]
   have hv1:∀ v∈vs,v.oneCell'=true:=by
    intro v hv
    rw [← hvs] at hv
    simp only [Builtin.zeroCells,Value.cells,Array.toList_map,List.mem_map] at hv
    obtain⟨i,_,rfl⟩:=hv
    have:∀ j,((#[Value.int .i64 0,Value.int .i64 0]:Array Value)[j%2]!).oneCell'=true:=fun j=>by
     rcases Nat.mod_two_eq_zero_or_one j with e | e<;>rw [e]<;>rfl
    exact this i
   have hcs:∀ j,j<vs.length→(w.cell? ⟨g,k*2+j,none⟩).isSome=true:=fun j hj=>by
    rw [cell_of_row w g (k*2+j) cur _ (0,0) hg,Array.getElem?_eq_getElem (by rw [h3];omega)];rfl
   have hst:=run_storeCells_cells (P:=Tryz.prog) g (k*2) vs 0 w (by simpa using hcs) (fun j _=>by simp [World.frozen?,hg]) hv1
   simp only [Nat.add_zero] at hst
   obtain⟨q,hq⟩:∃ q,n-k=q+1:=⟨n-k-1,by omega⟩
   obtain⟨cur',g1,g2,g3⟩:=heap_setCells_keep vs (k*2) w cur hg
   refine⟨w.setCells g (k*2) vs,?_,fin _ cur' g1 g2 g3,grown_setCells vs (k*2) w⟩
   have hzv:∀ w,(zeroValue 122).run Tryz.prog w=.ok (.agg #[.int .i64 0,.int .i64 0]) w:=fun w=>by kernel_rfl
   rw [hq] at hvs ⊢
   simp [Builtin.clear_,run_underlying Tryz.underlying120,hzv,hvs,hst]
end Go.Proofs.YtjefgmeejhakbabGreatDoor
namespace Go.Proofs.YtjefgmeejhakbabGreatDoor
open Go.RowKit
open Go.Sort (swp swp_left swp_right swp_other size_swp)
structure QAt (w:World) (Q:Nat) (v:Value) (d:Array Int):Prop where
 blk:w.heap[Q]?=some (.cells #[v] 269 (0,0))
 row:w.ownsRow 0 3 1 v d.size (intsV d.toList)
 ne:v.ownBlock≠some Q
def qOwn (Q:Nat) (v:Value) (b:Nat):Prop:=b=Q∨v.ownBlock=some b
section
variable {w w':World} {Q:Nat} {v:Value} {d:Array Int}
theorem QAt.lt (h:QAt w Q v d):Q<w.heap.size:=(Array.getElem?_eq_some_iff.1 h.blk).1
theorem QAt.cell (h:QAt w Q v d):w.cell? ⟨Q,0,none⟩=some v:=(cell_of_row w Q 0 _ 269 (0,0) h.blk).trans rfl
theorem QAt.free (h:QAt w Q v d):w.frozen? ⟨Q,0,none⟩=false:=by simp [World.frozen?,h.blk]
theorem QAt.same (h:QAt w Q v d) (hs:∀ b,qOwn Q v b→w'.heap[b]?=w.heap[b]?):QAt w' Q v d :=
 ⟨(hs Q (.inl rfl)).trans h.blk,owns_same h.row (fun g e=>hs g (.inr e)),h.ne⟩
theorem QAt.own_lt (h:QAt w Q v d) {b:Nat} (hb:qOwn Q v b):b<w.heap.size:=by
 rcases hb with rfl | e
 ·exact h.lt
 ·exact (h.row.lt b e).2
theorem QAt.below (h:QAt w Q v d) (hB:Below w.heap.size w w'):QAt w' Q v d:=h.same (fun b hb=>hB.block b (h.own_lt hb))
theorem QAt.rowAt (h:QAt w Q v d) (hd:0<d.size):∃ g cap,v=.slice (some ⟨g,0,none⟩) d.size cap∧g<w.heap.size∧(∀ j,w.frozen? ⟨g,j,none⟩=false)∧∀ j,j<d.size→w.cell? ⟨g,j,none⟩=some (.int .i64 d[j]!):=by
 rcases h.row.2 with ⟨e,e0⟩ | ⟨g,cap,cur,e,hb,hg,_⟩
 ·omega
 ·refine⟨g,cap,e,(Array.getElem?_eq_some_iff.1 hg).1,fun j=>by simp [World.frozen?,hg],fun j hj=>?_⟩
  have:=h.row.cells (g:=g) (by rw [e];rfl) j (.int .i64 d[j]!) (intsV_get (by simp [hj]))
  rwa [addr_add] at this
theorem QAt.form (h:QAt w Q v d):∃ ad cap,v=.slice ad d.size cap:=row_form h.row
end
set_option maxRecDepth 10000 in
theorem mVal (name:String) (f:Nat) (hn:((Tryz.prog.info? 273).bind (fun i=>i.methods.find? (·.name==name))).map (fun m=>(m.path,m.func))=some (#[],some (f,false))) (Q:Nat) (v:Value) (w:World) (hc:w.cell? ⟨Q,0,none⟩=some v) :
  (method 570 273 (.pointer (some ⟨Q,0,none⟩)) name).run Tryz.prog w=.ok (f,v) w:=by
 have h2:∀ s w,(receiverAt 273 (.val (.pointer (some ⟨Q,0,none⟩))) false (some s)).run Tryz.prog w=(loadVar 269 ⟨Q,0,none⟩).run Tryz.prog w:=fun s w=>by kernel_rfl
 have h3:∀ w,(isAgg 269).run Tryz.prog w=.ok false w:=fun w=>by kernel_rfl
 have h4:∀ w,(loadVar 269 ⟨Q,0,none⟩).run Tryz.prog w=(Go.load ⟨Q,0,none⟩).run Tryz.prog w:=fun w=>by simp [loadVar,h3]
 obtain⟨i,hi⟩:∃ i,Tryz.prog.info? 273=some i:=by
  cases h:Tryz.prog.info? 273 with
  | none=>rw [h] at hn;simp at hn
  | some i=>exact⟨i,rfl⟩
 rw [hi] at hn
 simp only [Option.bind_some,Option.map_eq_some_iff,Prod.mk.injEq] at hn
 obtain⟨m,hm,hp,hf⟩:=hn
 rw [show (570:Nat)=569+1 from rfl,method]
 simp [typeInfo,hi,hm,hp,hf,follow,h2,h4,hc]
set_option maxRecDepth 10000 in
theorem mPtr (name:String) (f:Nat) (hn:((Tryz.prog.info? 273).bind (fun i=>i.methods.find? (·.name==name))).map (fun m=>(m.path,m.func))=some (#[],some (f,true))) (Q:Nat) (w:World) :
  (method 570 273 (.pointer (some ⟨Q,0,none⟩)) name).run Tryz.prog w=.ok (f,.pointer (some ⟨Q,0,none⟩)) w:=by
 have h2:∀ s w,(receiverAt 273 (.val (.pointer (some ⟨Q,0,none⟩))) true (some s)).run Tryz.prog w=.ok (.pointer (some ⟨Q,0,none⟩)) w:=fun s w=>by kernel_rfl
 obtain⟨i,hi⟩:∃ i,Tryz.prog.info? 273=some i:=by
  cases h:Tryz.prog.info? 273 with
  | none=>rw [h] at hn;simp at hn
  | some i=>exact⟨i,rfl⟩
 rw [hi] at hn
 simp only [Option.bind_some,Option.map_eq_some_iff,Prod.mk.injEq] at hn
 obtain⟨m,hm,hp,hf⟩:=hn
 rw [show (570:Nat)=569+1 from rfl,method]
 simp [typeInfo,hi,hm,hp,hf,follow,h2]
theorem mLen {Q:Nat} {v:Value} {w:World} (hc:w.cell? ⟨Q,0,none⟩=some v):(method 570 273 (.pointer (some ⟨Q,0,none⟩)) "Len").run Tryz.prog w=.ok (410,v) w:=mVal "Len" _ (by kernel_rfl) Q v w hc
theorem mLess {Q:Nat} {v:Value} {w:World} (hc:w.cell? ⟨Q,0,none⟩=some v):(method 570 273 (.pointer (some ⟨Q,0,none⟩)) "Less").run Tryz.prog w=.ok (411,v) w:=mVal "Less" _ (by kernel_rfl) Q v w hc
theorem mSwap {Q:Nat} {v:Value} {w:World} (hc:w.cell? ⟨Q,0,none⟩=some v):(method 570 273 (.pointer (some ⟨Q,0,none⟩)) "Swap").run Tryz.prog w=.ok (412,v) w:=mVal "Swap" _ (by kernel_rfl) Q v w hc
theorem mPush (Q:Nat) (w:World):(method 570 273 (.pointer (some ⟨Q,0,none⟩)) "Push").run Tryz.prog w=.ok (414,.pointer (some ⟨Q,0,none⟩)) w:=mPtr "Push" _ (by kernel_rfl) Q w
theorem mPop (Q:Nat) (w:World):(method 570 273 (.pointer (some ⟨Q,0,none⟩)) "Pop").run Tryz.prog w=.ok (413,.pointer (some ⟨Q,0,none⟩)) w:=mPtr "Pop" _ (by kernel_rfl) Q w
set_option maxHeartbeats 1000000 in
theorem qLen (ad:Option Addr) (n c:Nat) (w:World):Calls Tryz.prog 410 #[.slice ad n c] w fun e w'=>e=.returned (.int .i64 n)∧w'=w:=by
 go_enter Tryz.func410,Tryz.ntmps410
 go_wp2
 go_ret
 exact⟨rfl,rfl⟩
set_option maxHeartbeats 1000000 in
theorem qLess (g n c i j:Nat) (x y:Int) (w:World) (hi:i<n) (hj:j<n) (c1:w.cell? ⟨g,i,none⟩=some (.int .i64 x)) (c2:w.cell? ⟨g,j,none⟩=some (.int .i64 y)) :
  Calls Tryz.prog 411 #[.slice (some ⟨g,0,none⟩) n c,.int .i64 i,.int .i64 j] w fun e w'=>e=.returned (.bool (decide (x<y)))∧∃ q,w'=w.drewN q:=by
 have hi0:(0:Int)≤(i:Int):=by omega
 have hi1:(i:Int)<(n:Int):=by omega
 have hj0:(0:Int)≤(j:Int):=by omega
 have hj1:(j:Int)<(n:Int):=by omega
 go_enter Tryz.func411,Tryz.ntmps411
 go_wp2
 go_quiet (fail)
 go_wp2
 go_ret
 exact⟨rfl,_,rfl⟩
set_option maxHeartbeats 2000000 in
theorem qSwap (g n c i j:Nat) (x y:Int) (w:World) (hi:i<n) (hj:j<n) (c1:w.cell? ⟨g,i,none⟩=some (.int .i64 x)) (c2:w.cell? ⟨g,j,none⟩=some (.int .i64 y)) (f1:w.frozen? ⟨g,i,none⟩=false) (f2:w.frozen? ⟨g,j,none⟩=false) :
  Calls Tryz.prog 412 #[.slice (some ⟨g,0,none⟩) n c,.int .i64 i,.int .i64 j] w fun e w'=>e=.returned (.tuple #[])∧∃ q,w'=((w.setCell ⟨g,i,none⟩ (.int .i64 y)).setCell ⟨g,j,none⟩ (.int .i64 x)).drewN q:=by
 obtain⟨v',hy'⟩:=cell?_setCell_some (w:=w) (p:=⟨g,i,none⟩) (x:=.int .i64 y) (q:=⟨g,j,none⟩) c2
 have hi0:(0:Int)≤(i:Int):=by omega
 have hi1:(i:Int)<(n:Int):=by omega
 have hj0:(0:Int)≤(j:Int):=by omega
 have hj1:(j:Int)<(n:Int):=by omega
 go_enter Tryz.func412,Tryz.ntmps412
 go_wp2
 go_region
 all_goals (try go_wp2)
 all_goals go_end0
 all_goals exact⟨rfl,1,rfl⟩
theorem owns_setCell {w:World} {base:Nat} {e:TypeId} {v:Value} {n g:Nat} {xs:List Value} (h:w.ownsRow base e 1 v n xs) (hv:v.ownBlock=some g) (j:Nat) (u:Value):(w.setCell ⟨g,j,none⟩ u).ownsRow base e 1 v n (xs.set j u):=by
 refine⟨by rw [List.length_set];exact h.1,?_⟩
 rcases h.2 with ⟨e1,_⟩ | ⟨g',cap,cur,e1,hb,hg,h1,h2,h3,h4⟩
 ·rw [e1] at hv;cases hv
 ·rw [e1] at hv;cases hv
  refine .inr ⟨g',cap,_,e1,hb,heap_setCell_same w g' j cur e u hg,h1,h2,by simpa using h3,?_⟩
  rw [← h4]
  simp [List.take_set]
theorem QAt.swapped {w:World} {Q:Nat} {v:Value} {d:Array Int} (h:QAt w Q v d) {g:Nat} (hg:v.ownBlock=some g) {i j:Nat} (q:Nat) :
  QAt (((w.setCell ⟨g,i,none⟩ (.int .i64 d[j]!)).setCell ⟨g,j,none⟩ (.int .i64 d[i]!)).drewN q) Q v (swp d i j)∧KeptO (qOwn Q v) (qOwn Q v) w (((w.setCell ⟨g,i,none⟩ (.int .i64 d[j]!)).setCell ⟨g,j,none⟩ (.int .i64 d[i]!)).drewN q):=by
 have hk:∀ b,b≠g→((w.setCell ⟨g,i,none⟩ (.int .i64 d[j]!)).setCell ⟨g,j,none⟩ (.int .i64 d[i]!)).heap[b]?=w.heap[b]?:=fun b hb=>by
  rw [heap_setCell_other _ ⟨g,j,none⟩ b _ hb,heap_setCell_other _ ⟨g,i,none⟩ b _ hb]
 have hQg:Q≠g:=fun e=>h.ne (by rw [hg,e])
 have hK:KeptO (qOwn Q v) (qOwn Q v) w ((w.setCell ⟨g,i,none⟩ (.int .i64 d[j]!)).setCell ⟨g,j,none⟩ (.int .i64 d[i]!)):=⟨rfl,rfl,rfl,by simp,fun b _ hn=>hk b (fun e=>hn (.inr (by rw [hg,e]))),fun _ h=>.inl h⟩
 suffices hs:QAt ((w.setCell ⟨g,i,none⟩ (.int .i64 d[j]!)).setCell ⟨g,j,none⟩ (.int .i64 d[i]!)) Q v (swp d i j) from ⟨hs.below (below_drewN (Below.refl _ _) q),hK.drewN q⟩
 refine⟨(hk Q hQg).trans h.blk,?_,h.ne⟩
 have h1:=owns_setCell (owns_setCell h.row hg i (.int .i64 d[j]!)) hg j (.int .i64 d[i]!)
 have e2:(((intsV d.toList).set i (.int .i64 d[j]!)).set j (.int .i64 d[i]!))=intsV (swp d i j).toList:=by
  rw [swp_list];simp [intsV,List.map_set]
 rw [e2] at h1
 rw [size_swp]
 exact h1
theorem QAt.put {w w1:World} {Q:Nat} {v u:Value} {d d':Array Int} (h:QAt w Q v d) (hg:w.grownBy w1 v.ownBlock) (ho:w1.ownsRow 0 3 1 u d'.size (intsV d'.toList)) (hu:∀ g,u.ownBlock=some g→v.ownBlock=some g∨w.heap.size≤g) :
  QAt (w1.setCell ⟨Q,0,none⟩ u) Q u d'∧KeptO (qOwn Q v) (qOwn Q u) w (w1.setCell ⟨Q,0,none⟩ u):=by
 have hQ:=h.lt
 have hb:w1.heap[Q]?=some (.cells #[v] 269 (0,0)):=(hg.block Q hQ (fun e=>h.ne e.symm)).trans h.blk
 have hne:u.ownBlock≠some Q:=fun e=>by
  rcases hu Q e with e | e
  ·exact h.ne e
  ·omega
 refine⟨⟨(heap_setCell_same w1 Q 0 _ 269 u hb).trans rfl,owns_same ho (fun g e=>heap_setCell_other w1 ⟨Q,0,none⟩ g u (fun e2=>hne (by rw [e,e2]))),hne⟩,?_⟩
 refine⟨hg.os,hg.tape,hg.output,by simpa using hg.size,fun b hbl hn=>(heap_setCell_other w1 ⟨Q,0,none⟩ b u (fun e=>hn (.inl e))).trans (hg.block b hbl (fun e=>hn (.inr e.symm))),fun g hg=>?_⟩
 rcases hg with e | e
 ·exact .inl (.inl e)
 ·rcases hu g e with e | e
  ·exact .inl (.inr e)
  ·exact .inr e
set_option maxRecDepth 100000 in
set_option maxHeartbeats 2000000 in
theorem qPush (Q:Nat) (v:Value) (d:Array Int) (x:Int) (w:World) (h:QAt w Q v d) (hd:d.size≤100000000) :
  Calls Tryz.prog 414 #[.pointer (some ⟨Q,0,none⟩),.iface 3 (.int .i64 x)] w fun e w'=>e=.returned (.tuple #[])∧∃ v',QAt w' Q v' (d.push x)∧KeptO (qOwn Q v) (qOwn Q v') w w':=by
 obtain⟨i0,hi0,hz0,hz1,hz2⟩:=info_parts info3
 have c0:=h.cell
 have hta:∀ xT w,(Instr.typeAssert (.iface 3 (.int .i64 x)) xT 3 true).run Tryz.prog w=.ok (.tuple #[.int .i64 x,.bool true]) w:=fun _ _=>by kernel_rfl
 have hA:Below w.heap.size w (w.alloc (.cells #[.int .i64 x] 3)):=(Below.refl _ _).alloc (Nat.le_refl _) _
 have hA2:=hA.size
 have HH:=hid (h.below hA)
 have HK:=hid (KeptO.of_below (o:=qOwn Q v) hA)
 clear h hA
 go_enter Tryz.func414,Tryz.ntmps414
 go_wp2_with (at_builtin;refine wpList_append_lies _ rfl _ _ _ rfl 0 3 i0 _ 1 8 Tryz.underlying269 hi0 hz0 hz1 hz2 rfl (by omega) v _ _ rfl HH.out.row ⟨w.heap.size,0,none⟩ 1 1 [.int .i64 x] rfl rfl (World.news_of_block (cs:=#[.int .i64 x]) (t:=3) (fr:=(0,0)) (heap_alloc_new w _)) (by simp [Value.oneCell']) (by omega) (by unfold maxLen;omega) (by omega) (by simp) (w.heap.size+1) (by simp) ?_;intro g cap w1 ho hgrow hat hlt;have c1:=(World.cell?_of_block (a:=⟨Q,0,none⟩) (hgrow.block Q HH.out.lt (fun e=>HH.out.ne e.symm))).trans HH.out.cell;have f1:=(World.frozen?_of_block (a:=⟨Q,0,none⟩) (hgrow.block Q HH.out.lt (fun e=>HH.out.ne e.symm))).trans HH.out.free)
 refine bodyPost_end (results_none rfl _ _ _) rfl ?_
 have hp:=HH.out.put (d':=d.push x) hgrow (by rw [Array.size_push,Array.toList_push,intsV_append];exact ho) (fun g' e=>by
  cases e
  rcases hat with e | e
  ·exact .inl e
  ·exact .inr (by simp [e]))
 exact⟨rfl,_,hp.1,HK.out.trans hp.2⟩
end Go.Proofs.YtjefgmeejhakbabGreatDoor
namespace Go.Proofs.YtjefgmeejhakbabGreatDoor
open Go.RowKit
open Go.Sort (swp swp_left swp_right swp_other size_swp)
set_option maxRecDepth 100000 in
set_option maxHeartbeats 2000000 in
theorem qPop (Q:Nat) (v:Value) (d:Array Int) (w:World) (h:QAt w Q v d) (hd:d.size≤100000000) (h0:0<d.size) :
  Calls Tryz.prog 413 #[.pointer (some ⟨Q,0,none⟩)] w fun e w'=>∃ u,e=.returned u∧∃ v',QAt w' Q v' d.pop∧KeptO (qOwn Q v) (qOwn Q v') w w':=by
 have c0:=h.cell
 have f0:=h.free
 obtain⟨g,cap,rfl,hg,_,hc⟩:=h.rowAt h0
 have c1:=hc (d.size-1) (by omega)
 obtain⟨n,hn⟩:∃ n,d.size=n+1:=⟨d.size-1,by omega⟩
 have hcap:n+1≤cap∧cap≤maxLen:=by
  rcases h.row.2 with ⟨e,_⟩ | ⟨g',cap',cur,e,_,_,h1,h2,_⟩
  ·cases e
  ·cases e;rw [hn] at h1;exact⟨h1,h2⟩
 have HH:=hid h
 rw [hn] at c0 c1 HH ⊢
 rw [Nat.add_sub_cancel] at c1
 have hn1:((n+1:Nat):Int)-1=(n:Int):=by omega
 clear h hc
 go_enter Tryz.func413,Tryz.ntmps413
 go_wp2
 go_ret
 have hg0:w.grownBy w (some g):=⟨rfl,rfl,rfl,Nat.le_refl _,fun _ _ _=>rfl⟩
 have hp:=HH.out.put (d':=d.pop) (u:=.slice (some ⟨g,0,none⟩) n cap) hg0 ?_ (fun g' e=>.inl e)
 ·exact⟨_,rfl,_,hp⟩
 ·have hz:d.pop.size=n:=by rw [Array.size_pop,hn];rfl
  have hl:d.pop.toList=d.toList.take n:=by rw [Array.toList_pop,List.dropLast_eq_take,Array.length_toList,hn];rfl
  rw [hz,hl]
  refine⟨by simp [intsV,hn],?_⟩
  have hr:=HH.out.row
  rw [hn] at hr
  rcases hr.2 with ⟨e,_⟩ | ⟨g',cap',cur,e,hb,hgg,_,h2,h3,h4⟩
  ·cases e
  ·cases e
   refine .inr ⟨g,cap,cur,rfl,hb,hgg,by omega,h2,h3,?_⟩
   have e4:intsV (d.toList.take n)=(intsV d.toList).take n:=by simp [intsV,List.map_take]
   rw [e4,← h4,List.take_take]
   congr 1
   omega
set_option maxRecDepth 100000 in
set_option maxHeartbeats 600000 in
theorem up_any (Q:Nat) (v:Value) (d:Array Int) (j:Nat) (w:World) (h:QAt w Q v d) (hd:d.size≤100000000) (hj:j<d.size) (hu:UpHole d d.size j) :
  Calls Tryz.prog 255 #[.iface 273 (.pointer (some ⟨Q,0,none⟩)),.int .i64 j] w fun e w'=>e=.returned (.tuple #[])∧∃ d',QAt w' Q v d'∧HeapP d' d'.size∧d'.toList.Perm d.toList∧KeptO (qOwn Q v) (qOwn Q v) w w':=by
 have H0:=hid h
 have HU:=hid hu
 clear h hu
 go_enter Tryz.func255,Tryz.ntmps255
 go_wp2
 go_loopw [1] (fun vj wr=>∃ (j:Nat) (dk:Array Int),vj=.int .i64 j∧j<dk.size∧dk.size=d.size∧QAt wr Q v dk∧UpHole dk dk.size j∧dk.toList.Perm d.toList∧KeptO (qOwn Q v) (qOwn Q v) w wr) (fun vj _=>(intOf vj).toNat)
 case atStart=>exact⟨j,d,rfl,hj,rfl,H0.out,HU.out,List.Perm.refl _,KeptO.refl _ _⟩
 case round =>
  obtain⟨j,dk,rfl,hj,hs,hQ,hu,hp,hK⟩:=hrel
  have HR:=hid (And.intro hQ (And.intro hu (And.intro hp hK)))
  have hdk:dk.size≤100000000:=by omega
  have HS:=hid hs
  clear hs
  have c0:=hQ.cell
  obtain⟨g,cap,rfl,hg,hfz,hc⟩:=hQ.rowAt (by omega)
  by_cases hj0:j=0
  ·subst hj0
   have HU1:=hid (up_zero hu)
   clear hQ hu hp hK hc
   go_wp2
   refine bodyPost_end (results_none rfl _ _ _) rfl ?_
   exact⟨rfl,dk,HR.out.1,HU1.out,HR.out.2.2⟩
  ·obtain⟨i,hi⟩:∃ i,(j-1) / 2=i:=⟨_,rfl⟩
   have hij:i<j:=by omega
   have hq:Int.tdiv ((j:Int)-1) 2=(i:Int):=by rw [Int.tdiv_eq_ediv_of_nonneg (by omega)];omega
   have e1:((i:Int)==(j:Int))=false:=by simp;omega
   have cj:=hc j hj
   have ci:=hc i (by omega)
   have fj:=hfz j
   have fi:=hfz i
   have hmL:=mLess c0
   have hmS:∀ q,(method 570 273 (.pointer (some ⟨Q,0,none⟩)) "Swap").run Tryz.prog (wr.drewN q)=.ok (412,.slice (some ⟨g,0,none⟩) dk.size cap) (wr.drewN q):=fun q=>mSwap (hQ.below (below_drewN (Below.refl _ _) q)).cell
   obtain⟨x,hx⟩:∃ x,dk[j]! = x:=⟨_,rfl⟩
   obtain⟨y,hy⟩:∃ y,dk[i]! = y:=⟨_,rfl⟩
   rw [hx] at cj
   rw [hy] at ci
   by_cases hlt:x<y
   ·have hb:decide (x<y)=true:=by simpa using hlt
    have HU1:=hid (up_step hu (by omega) hj (Nat.le_refl _) (by rw [hi,hx,hy];exact hlt))
    clear hQ hu hp hK hc hfz
    go_wp2_with (first
     | (go_at_call 411;refine (qLess g dk.size cap j i x y _ hj (by omega) cj ci).mono ?_;rw [hb];rintro e w' ⟨rfl,q,rfl⟩)
     | (go_at_call 412;refine (qSwap g dk.size cap i j y x _ (by omega) hj (by simpa using ci) (by simpa using cj) (by simpa using fi) (by simpa using fj)).mono ?_;rintro e w' ⟨rfl,q2,rfl⟩))
    go_roundw
    case rel =>
     have hsw:=(HR.out.1.below (below_drewN (Below.refl _ _) q)).swapped (g:=g) (i:=i) (j:=j) rfl q2
     rw [hx,hy] at hsw
     refine⟨i,swp dk i j,rfl,by rw [size_swp];omega,by rw [size_swp];exact HS.out,hsw.1,?_,?_,(HR.out.2.2.2.drewN q).trans hsw.2⟩
     ·rw [size_swp,← hi];exact HU1.out
     ·exact (swp_perm dk i j (by omega) hj).trans HR.out.2.2.1
    case measure=>simp [intOf];omega
   ·have hb:decide (x<y)=false:=by simpa using hlt
    have HU1:=hid (up_stop hu (by rw [hi,hx,hy];omega))
    clear hQ hu hp hK hc hfz
    go_wp2_with (go_at_call 411;refine (qLess g dk.size cap j i x y _ hj (by omega) cj ci).mono ?_;rw [hb];rintro e w' ⟨rfl,q,rfl⟩)
    refine bodyPost_end (results_none rfl _ _ _) rfl ?_
    exact⟨rfl,dk,HR.out.1.below (below_drewN (Below.refl _ _) q),HU1.out,HR.out.2.2.1,HR.out.2.2.2.drewN q⟩
set_option maxRecDepth 100000 in
set_option maxHeartbeats 1000000 in
theorem heapPush_any (Q:Nat) (v:Value) (d:Array Int) (x:Int) (w:World) (h:QAt w Q v d) (hd:d.size≤10000000) (hh:HeapP d d.size) :
  Calls Tryz.prog 190 #[.iface 273 (.pointer (some ⟨Q,0,none⟩)),.iface 3 (.int .i64 x)] w fun e w'=>e=.returned (.tuple #[])∧∃ v' d',QAt w' Q v' d'∧HeapP d' d'.size∧d'.toList.Perm (x::d.toList)∧KeptO (qOwn Q v) (qOwn Q v') w w':=by
 have H0:=hid h
 have HH:=hid hh
 have hm:=mPush Q
 clear h hh
 go_enter Tryz.func190,Tryz.ntmps190
 go_wp2_with fail
 refine (qPush Q v d x w H0.out (by omega)).mono ?_
 rintro e w1 ⟨rfl,v1,hQ1,hK1⟩
 obtain⟨ad,cap,rfl⟩:=hQ1.form
 have hmL:=mLen hQ1.cell
 have hsz:(d.push x).size=d.size+1:=Array.size_push ..
 have H1:=hid hQ1
 have HK:=hid hK1
 rw [hsz] at hmL H1 HK
 clear hQ1 hK1
 go_wp2_with fail
 refine (qLen ad (d.size+1) cap w1).mono ?_
 rintro e w2 ⟨rfl,rfl⟩
 go_wp2_with fail
 refine (up_any Q _ (d.push x) d.size w2 H1.out (by omega) (by omega) (by rw [hsz];exact up_start HH.out x)).mono ?_
 rintro e w3 ⟨rfl,d',hQ3,hh3,hp3,hK3⟩
 have HF:=hid (And.intro hQ3 (And.intro hh3 (And.intro hp3 (HK.out.trans hK3))))
 clear hQ3 hh3 hp3 hK3
 go_wp2
 refine bodyPost_end (results_none rfl _ _ _) rfl ?_
 refine⟨rfl,_,d',HF.out.1,HF.out.2.1,HF.out.2.2.1.trans ?_,HF.out.2.2.2⟩
 rw [Array.toList_push]
 exact List.perm_append_singleton x d.toList
end Go.Proofs.YtjefgmeejhakbabGreatDoor
