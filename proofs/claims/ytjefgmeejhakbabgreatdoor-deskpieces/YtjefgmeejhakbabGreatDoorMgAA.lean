/- LkBase Back Latest BsSum: put together for a claim. -/
import Derived.Test.YtjefgmeejhakbabGreatDoorProg
import Derived.WalkKit
import Derived.WalkSpells
import Derived.BigQuiet
import Derived.Deep.QuietTactic
import Derived.Deep.AppendLies
import Derived.Deep.RegionHeld3
import Derived.Deep.RegionLaw
import Derived.Laws.AppendOwnNone
import Derived.KernelRfl
import Derived.RangeFuncNested
import Derived.RangeFuncBound
import Derived.RangeFuncCalls
import Derived.RangeFuncLeaves
import Derived.Shelf.Abstract
import Derived.Shelf.RegionOpen
import Derived.OwnWalkIn
import Derived.TacticsInMore
import Derived.LoopNIn
import Derived.LoopIn
import Derived.Laws.BitsAllLaws
namespace Go.Proofs.YtjefgmeejhakbabGreatDoor
open Go.RowKit
theorem hid {p:Prop} (h:p):Hid p:=h
theorem addr_add (g j:Nat):(⟨g,0,none⟩:Addr).add j=⟨g,j,none⟩:=by unfold Addr.add;split<;>simp_all
def vrow:List (Int × Int)→List Value
 | []=>[]
 | (a,v)::r=>.int .i64 a::.int .i64 v::vrow r
theorem vrow_length:∀ l:List (Int × Int),(vrow l).length=l.length*2
 | []=>rfl
 | (_,_)::r=>by simp [vrow,vrow_length r];omega
theorem vrow_append:∀ l m:List (Int × Int),vrow (l++m)=vrow l++vrow m
 | [],_=>rfl
 | (_,_)::r,m=>by simp [vrow,vrow_append r m]
theorem vrow_get:∀ (l:List (Int × Int)) (j:Nat) (a v:Int),l[j]?=some (a,v)→(vrow l)[j*2]?=some (.int .i64 a)∧(vrow l)[j*2+1]?=some (.int .i64 v)
 | [],j,a,v,h=>by simp at h
 | (x,y)::r,0,a,v,h=>by simp at h;obtain⟨rfl,rfl⟩:=h;simp [vrow]
 | (x,y)::r,j+1,a,v,h=>by
  have:=vrow_get r j a v (by simpa using h)
  rw [show (j+1)*2=j*2+1+1 from by omega]
  simpa [vrow] using this
def intsV (l:List Int):List Value:=l.map (Value.int .i64)
theorem intsV_append (l m:List Int):intsV (l++m)=intsV l++intsV m:=by simp [intsV]
theorem intsV_length (l:List Int):(intsV l).length=l.length:=by simp [intsV]
theorem intsV_get {l:List Int} {j:Nat} {x:Int} (h:l[j]?=some x):(intsV l)[j]?=some (.int .i64 x):=by simp [intsV,h]
theorem owns_same {w w':World} {base:Nat} {e:TypeId} {size:Nat} {v:Value} {n:Nat} {xs:List Value} (h:w.ownsRow base e size v n xs) (hs:∀ g,v.ownBlock=some g→w'.heap[g]?=w.heap[g]?):w'.ownsRow base e size v n xs:=by
 refine⟨h.1,?_⟩
 rcases h.2 with hn | ⟨g,cap,cur,rfl,hb,hg,r⟩
 ·exact .inl hn
 ·exact .inr ⟨g,cap,cur,rfl,hb,(hs g rfl).trans hg,r⟩
theorem owns_base {w:World} {base base':Nat} {e:TypeId} {size:Nat} {v:Value} {n:Nat} {xs:List Value} (h:w.ownsRow base e size v n xs) (hb:base'≤base):w.ownsRow base' e size v n xs:=by
 refine⟨h.1,?_⟩
 rcases h.2 with hn | ⟨g,cap,cur,rfl,hg0,r⟩
 ·exact .inl hn
 ·exact .inr ⟨g,cap,cur,rfl,Nat.le_trans hb hg0,r⟩
theorem row_slice {w:World} {base:Nat} {e:TypeId} {size:Nat} {v:Value} {n:Nat} {xs:List Value} (h:w.ownsRow base e size v n xs) :
  (v=.slice none 0 0∧n=0)∨∃ g cap,v=.slice (some ⟨g,0,none⟩) n cap∧g<w.heap.size∧∀ j u,xs[j]?=some u→w.cell? ⟨g,j,none⟩=some u:=by
 rcases h.2 with ⟨e,e0⟩ | ⟨g,cap,cur,e,hb,hg,_⟩
 ·exact .inl ⟨e,e0⟩
 ·refine .inr ⟨g,cap,e,(Array.getElem?_eq_some_iff.1 hg).1,fun j u hu=>?_⟩
  have:=h.cells (g:=g) (by rw [e];rfl) j u hu
  rwa [addr_add] at this
theorem row_form {w:World} {base:Nat} {e:TypeId} {size:Nat} {v:Value} {n:Nat} {xs:List Value} (h:w.ownsRow base e size v n xs):∃ ad cap,v=.slice ad n cap:=by
 rcases row_slice h with ⟨e1,e2⟩ | ⟨g,cap,e1,_⟩
 ·exact⟨none,0,by rw [e1,e2]⟩
 ·exact⟨_,cap,e1⟩
theorem below_drewN {B:Nat} {a w:World} (h:Below B a w):∀ q,Below B a (w.drewN q)
 | 0=>h
 | q+1=>⟨(below_drewN h q).os,(below_drewN h q).tape,(below_drewN h q).output,(below_drewN h q).size,(below_drewN h q).block⟩
theorem info3:(Tryz.prog.info? 3).map (fun i=>(i.zero,i.size,i.bytes))=some (some (.int .i64 0),1,8):=by kernel_rfl
theorem info122:(Tryz.prog.info? 122).map (fun i=>(i.zero,i.size,i.bytes))=some (some (.agg #[.int .i64 0,.int .i64 0]),2,16):=by kernel_rfl
end Go.Proofs.YtjefgmeejhakbabGreatDoor
namespace Go.Proofs.YtjefgmeejhakbabGreatDoor
open Go.RowKit Go.Shelf
attribute [local go_sem] Oper.semAt_some
def Row (W:World) (g:Nat) (l:List (Int × Int)):Prop :=
 ∀ j a v,l[j]?=some (a,v)→W.cell? ⟨g,j*2,none⟩=some (.int .i64 a)∧W.cell? ⟨g,j*2+1,none⟩=some (.int .i64 v)
theorem Row.below {n₀:Nat} {A B:World} (h:Below n₀ A B) {g:Nat} (hg:g<n₀) {l:List (Int × Int)} (hr:Row A g l):Row B g l :=
 fun j a v e=>⟨(h.cell (p:=⟨g,j*2,none⟩) hg).trans (hr j a v e).1,(h.cell (p:=⟨g,j*2+1,none⟩) hg).trans (hr j a v e).2⟩
def came (l:List (Int × Int)) (m:Nat):List (Nat × (Int × Int)):=(((List.range l.length).map fun j=>(j,l[j]?.getD (0,0))).drop m).reverse
theorem came_all (l:List (Int × Int)):came l l.length=[]:=by simp [came]
theorem came_length (l:List (Int × Int)) (m:Nat):(came l m).length=l.length-m:=by simp [came]
theorem came_step (l:List (Int × Int)) (m:Nat) (a v:Int) (h:l[m]?=some (a,v)):came l m=came l (m+1)++[(m,(a,v))]:=by
 have hm:m<l.length:=(List.getElem?_eq_some_iff.1 h).1
 unfold came
 rw [List.drop_eq_getElem_cons (i:=m) (by simpa using hm)]
 simp [h]
def encV (x:Nat × (Int × Int)):Array Value:=#[.int .i64 (x.1:Int),.agg #[.int .i64 x.2.1,.int .i64 x.2.2]]
set_option maxRecDepth 100000 in
set_option maxHeartbeats 2000000 in
theorem back1_in (F:Fence) (n:Nat) (h7:F.fn 337) (hro:F.round=none) (hn:1≤n) (l Bs n₀ b cap:Nat) (zs:List (Int × Int)) (hreach:zs.length≤1000000) (hb:b<n₀) (J Jx:List (Nat × (Int × Int))→World→Prop)
    (hY:∀ pre x W,J pre W→pre.length<zs.length→YieldAt F (n-1) Tryz.prog l (encV x) W fun e W' =>
      (e=.returned (.bool true)∧J (pre++[x]) W'∧Below n₀ W W')∨(e=.returned (.bool false)∧Jx (pre++[x]) W'))
    (W:World) (hBs0:Bs<n₀) (hBs:W.cell? ⟨Bs,0,none⟩=some (.slice (some ⟨b,0,none⟩) zs.length cap)) (hc:Row W b zs) (h0:J [] W) :
    CallsIn F n Tryz.prog 337 #[.func (.yield l) #[] #[],.pointer (some ⟨Bs,0,none⟩)] W fun e W'=>(∃ v,e=.returned v) ∧
      ((∃ ys,ys=came zs 0∧J ys W')∨(∃ pre,(∃ m,m<zs.length∧pre=came zs m)∧Jx pre W')):=by
  refine callsIn_of_wp Tryz.func337 rfl h7 ?_ hro
  simp only [Tryz.ntmps337,List.size_toArray,List.length_cons,List.length_nil,Nat.reduceAdd,Nat.reduceSub,Array.replicate_succ,Array.replicate_zero,List.push_toArray,List.append_toArray,List.nil_append,List.cons_append]
  gi_wp2
  gi_loopw [3] (fun i wr=>∃ m:Nat,m≤zs.length∧i=.int .i64 ((m:Int)-1)∧J (came zs m) wr∧Below n₀ W wr)
    (fun i _=>(intOf i+1).toNat)
  case atStart=>exact⟨zs.length,Nat.le_refl _,by simp,by rw [came_all];exact h0,Below.refl _ _⟩
  case round =>
    obtain⟨m,hm,rfl,hJs,hnx⟩:=hrel
    have hBs':wr.cell? ⟨Bs,0,none⟩=some (.slice (some ⟨b,0,none⟩) zs.length cap):=(hnx.cell (p:=⟨Bs,0,none⟩) hBs0).trans hBs
    cases m with
    | zero =>
      gi_wp2
      go_end0
      exact⟨⟨_,rfl⟩,.inl ⟨_,rfl,hJs⟩⟩
    | succ m =>
      obtain⟨⟨a,v⟩,hav⟩:∃ p,zs[m]?=some p:=⟨zs[m],List.getElem?_eq_getElem (by omega)⟩
      obtain⟨hc1,hc2⟩:=(hc.below hnx hb) m a v hav
      obtain⟨fn,tmps,assign,body,hy,hR⟩:=hY _ (m,(a,v)) wr hJs (by rw [came_length];omega)
      have hst:Hid (came zs m=came zs (m+1)++[(m,(a,v))]):=came_step zs m a v hav
      rw [show (((m+1:Nat):Int)-1)=(m:Int) from by omega]
      simp only [encV] at hy
      clear hav
      have hml:(m:Int)<(zs.length:Int):=by omega
      gi_wp2
      refine hR.mono ?_
      rintro e W3 (⟨rfl,hJ3,hk3⟩ | ⟨rfl,hJx3⟩)
      · gi_wp2
        go_roundw
        case rel=>exact⟨m,by omega,by simp,by rw [hst.out];exact hJ3,hnx.trans hk3⟩
        case measure=>simp [intOf]
      · gi_wp2
        refine bodyPost_ret (results_none rfl _ _ _) rfl ?_
        exact⟨⟨_,rfl⟩,.inr ⟨_,⟨m,by omega,rfl⟩,by rw [hst.out];exact hJx3⟩⟩
set_option maxRecDepth 100000 in
set_option maxHeartbeats 1000000 in
theorem back1_nil_in (F:Fence) (n:Nat) (h7:F.fn 337) (hro:F.round=none) (l Bs:Nat) (J:List (Nat × (Int × Int))→World→Prop) (W:World) (hBs:W.cell? ⟨Bs,0,none⟩=some (.slice none 0 0)) (h0:J [] W) :
  CallsIn F n Tryz.prog 337 #[.func (.yield l) #[] #[],.pointer (some ⟨Bs,0,none⟩)] W fun e W'=>(∃ v,e=.returned v)∧J [] W':=by
 refine callsIn_of_wp Tryz.func337 rfl h7 ?_ hro
 simp only [Tryz.ntmps337,List.size_toArray,List.length_cons,List.length_nil,Nat.reduceAdd,Nat.reduceSub,Array.replicate_succ,Array.replicate_zero,List.push_toArray,List.append_toArray,List.nil_append,List.cons_append]
 gi_wp2
 gi_loopw [3] (fun i wr=>i=.int .i64 (-1)∧J [] wr) (fun _ _=>0)
 case atStart=>exact⟨rfl,h0⟩
 case round =>
  obtain⟨rfl,hJs⟩:=hrel
  gi_wp2
  go_end0
  exact⟨⟨_,rfl⟩,hJs⟩
set_option maxHeartbeats 1000000 in
theorem back_in (F:Fence) (n:Nat) (h5:F.fn 288) (hro:F.round=none) (a:Option Addr) (len cap:Nat) (w:World) :
  CallsIn F n Tryz.prog 288 #[.slice a len cap] w fun e w'=>e=.returned (.func (.func 337) #[] #[.pointer (some ⟨w.heap.size,0,none⟩)])∧w'=w.alloc (.cells #[.slice a len cap] 244):=by
 refine callsIn_of_wp Tryz.func288 rfl h5 ?_ hro
 simp only [Tryz.ntmps288,List.size_toArray,List.length_cons,List.length_nil,Nat.reduceAdd,Nat.reduceSub,Array.replicate_succ,Array.replicate_zero,List.push_toArray,List.append_toArray,List.nil_append,List.cons_append]
 gi_wp2
 go_ret
 exact⟨rfl,rfl⟩
def Vers (n₀:Nat) (W:World) (sv:Value) (zs:List (Int × Int)):Prop :=
 (sv=.slice none 0 0∧zs=[])∨∃ b cap,sv=.slice (some ⟨b,0,none⟩) zs.length cap∧b<n₀∧Row W b zs
theorem Vers.below {n₀:Nat} {A B:World} (h:Below n₀ A B) {sv:Value} {zs:List (Int × Int)}:Vers n₀ A sv zs→Vers n₀ B sv zs
 | .inl e=>.inl e
 | .inr ⟨b,cap,e,hb,hc⟩=>.inr ⟨b,cap,e,hb,hc.below h hb⟩
theorem back_stops (F:Fence) (n:Nat) (h7:F.fn 337) (hro:F.round=none) (hn:1≤n) (Bs n₀:Nat) (sv:Value) (zs:List (Int × Int)) (hreach:zs.length≤1000000) (w:World) (hBs:Bs<n₀) (hn₀:n₀≤w.heap.size)
  (hc:w.cell? ⟨Bs,0,none⟩=some sv) (hI:Vers n₀ w sv zs) :
  SeqStopsK F n Tryz.prog 337 #[.pointer (some ⟨Bs,0,none⟩)] encV (Below n₀) (fun ys=>ys=came zs 0)
   (fun pre=>∃ m,m<zs.length∧pre=came zs m) zs.length w:=fun l J Jx W hW _ _ hY h0=>by
 have hc':=(hW.cell (p:=⟨Bs,0,none⟩) (Nat.lt_of_lt_of_le hBs hn₀)).trans hc
 rcases hI.below (hW.mono hn₀) with ⟨rfl,rfl⟩ | ⟨b,cap,rfl,hb,hcs⟩
 ·exact (back1_nil_in F n h7 hro l Bs J W hc' h0).mono fun e W' ⟨he,hj⟩=>⟨he,.inl ⟨_,rfl,hj⟩⟩
 ·exact back1_in F n h7 hro hn l Bs n₀ b cap zs hreach hb J Jx hY W hBs hc' hcs h0
end Go.Proofs.YtjefgmeejhakbabGreatDoor
namespace Go.Proofs.YtjefgmeejhakbabGreatDoor
open Go.RowKit Go.Shelf
attribute [local go_sem] Oper.semAt_some
def latN (l:List (Int × Int)) (t:Int):Nat→Int
 | 0=>-1
 | m+1=>if (l[m]?.getD (0,0)).1≤t then (m:Int) else latN l t m
def lat (l:List (Int × Int)) (t:Int):Int:=latN l t l.length
def NoneYet (t:Int) (pre:List (Nat × (Int × Int))):Prop:=∀ p∈pre,t<p.2.1
theorem NoneYet.snoc {t:Int} {pre:List (Nat × (Int × Int))} (h:NoneYet t pre) {i:Nat} {x1 x2:Int} (hx:t<x1):NoneYet t (pre++[(i,x1,x2)]):=by
 intro p hp
 rcases List.mem_append.1 hp with hp | hp
 ·exact h p hp
 ·simp at hp;subst hp;exact hx
theorem lat_came (l:List (Int × Int)) (t:Int) (m:Nat) (hm:m≤l.length) (h:NoneYet t (came l m)):lat l t=latN l t m:=by
 unfold lat
 obtain⟨d,hd⟩:∃ d,l.length=m+d:=⟨l.length-m,by omega⟩
 have key:∀ d,m+d≤l.length→latN l t (m+d)=latN l t m:=by
  intro d
  induction d with
  | zero=>intro _;rfl
  | succ d ih =>
   intro hle
   rw [show m+(d+1)=(m+d)+1 from by omega,latN,if_neg,ih (by omega)]
   have:=h (m+d,l[m+d]?.getD (0,0)) (by
    simp only [came,List.mem_reverse,List.mem_drop_iff_getElem]
    exact⟨d,by simp;omega,by simp⟩)
   simp only at this
   omega
 rw [hd]
 exact key d (by omega)
set_option maxRecDepth 100000 in
set_option maxHeartbeats 2000000 in
theorem latest_in (F:Fence) (n:Nat) (h29:F.fn 229) (h34:F.fn 288) (h40:F.fn 337) (hro:F.round=none) (hn:3≤n) (a:Option Addr) (len cap:Nat) (t:Int) (zs:List (Int × Int)) (hreach:zs.length≤1000000) (w:World) (hI:Vers w.heap.size w (.slice a len cap) zs) :
  CallsIn F n Tryz.prog 229 #[.slice a len cap,.int .i64 t] w fun e W'=>e=.returned (.int .i64 (lat zs t))∧Below w.heap.size w W':=by
 have h1:1≤n:=by omega
 refine callsIn_of_wp_marks Tryz.func229 rfl h29 ?_ hro
 simp only [Tryz.ntmps229,List.size_toArray,List.length_cons,List.length_nil,Nat.reduceAdd,Nat.reduceSub,Array.replicate_succ,Array.replicate_zero,List.push_toArray,List.append_toArray,List.nil_append,List.cons_append]
 gi_wp2_with (gi_at_call 288;refine (back_in F (n-1) h34 hro _ _ _ _).mono ?_;rintro e w' ⟨rfl,rfl⟩)
 have bT:=((Boxed.new w 3 (.int .i64 t)).alloc (.cells #[.int .i64 0] 3)).alloc (.cells #[.slice a len cap] 244)
 have bR:=(Boxed.new (w.alloc (.cells #[.int .i64 t] 3)) 3 (.int .i64 0)).alloc (.cells #[.slice a len cap] 244)
 have bS:=Boxed.new ((w.alloc (.cells #[.int .i64 t] 3)).alloc (.cells #[.int .i64 0] 3)) 244 (.slice a len cap)
 simp only [World.size_alloc] at bR bS
 have hB0:Below w.heap.size w (((w.alloc (.cells #[.int .i64 t] 3)).alloc (.cells #[.int .i64 0] 3)).alloc (.cells #[.slice a len cap] 244)):=(((Below.refl _ w).alloc (Nat.le_refl _) _).alloc (by simp) _).alloc (by simp;omega) _
 have hsz:(((w.alloc (.cells #[.int .i64 t] 3)).alloc (.cells #[.int .i64 0] 3)).alloc (.cells #[.slice a len cap] 244)).heap.size=w.heap.size+3:=by simp
 obtain⟨W0,hW0⟩:∃ W0,((w.alloc (.cells #[.int .i64 t] 3)).alloc (.cells #[.int .i64 0] 3)).alloc (.cells #[.slice a len cap] 244)=W0:=⟨_,rfl⟩
 rw [hW0] at bT bR bS hB0 hsz ⊢
 clear hW0
 have hsz1:w.heap.size+3≤W0.heap.size:=by omega
 have hsz2:W0.heap.size≤w.heap.size+3:=by omega
 clear hsz
 have hI0:Vers W0.heap.size W0 (.slice a len cap) zs:=by
  rcases hI.below hB0 with h | ⟨b,cp,e,hb,hc⟩
  ·exact .inl h
  ·exact .inr ⟨b,cp,e,by omega,hc⟩
 refine wpIn_rangeFunc_ownH hro h1 (gf:=337) (lb:=#[.pointer (some ⟨w.heap.size+1+1,0,none⟩)]) rfl h40 (enters_of Tryz.func337 (by kernel_rfl) rfl)
  (back_stops F (n-1) h40 hro (by omega) (w.heap.size+1+1) W0.heap.size _ zs hreach W0 (by omega) (Nat.le_refl _) bS.cell hI0) belowK_t (belowK_b (Nat.le_refl _)) (Below.refl _ _) (fun _=>rfl)
  (fun pre W=>(NoneYet t pre∧Boxed W w.heap.size 3 (.int .i64 t)∧Boxed W (w.heap.size+1) 3 (.int .i64 0))∧Below w.heap.size w W∧Below W0.heap.size W0 W)
  (fun c pre W=>(c=.ret∧∃ ini last,pre=ini++[last]∧NoneYet t ini∧last.2.1≤t∧Boxed W (w.heap.size+1) 3 (.int .i64 (last.1:Int)))∧Below w.heap.size w W)
  (OwnFrom.and (OwnFrom.and (ownFrom_pure _ _) (OwnFrom.and (Own.from (boxed_own _ _ _) _) (Own.from (boxed_own _ _ _) _))) (OwnFrom.and (ownFrom_below (Nat.le_refl _) (by omega)) (ownFrom_below (Nat.le_refl _) (Nat.le_refl _))))
  (fun c=>OwnFrom.and (fun s X Y row hs hg hr=>by obtain⟨hc,ini,last,e1,e2,e3,e4⟩:=hs;exact⟨hc,ini,last,e1,e2,e3,boxed_own (w.heap.size+1) 3 (fun (_:Unit)=>Value.int .i64 (last.1:Int)) () X Y row e4 hg (fun r e=>(hr r e).2)⟩) (ownFrom_below (Nat.le_refl _) (by omega)))
  ⟨⟨by simp [NoneYet],bT,bR⟩,hB0,Below.refl _ _⟩
  (fun x a' W=>∃ Bx,w.heap.size+2<Bx∧W.cell? ⟨Bx,0,none⟩=some (.int .i64 x.2.1)∧a'={ tmps:=#[.slice a len cap,.int .i64 t,undef,.pointer (some ⟨w.heap.size,0,none⟩),.pointer (some ⟨w.heap.size+1,0,none⟩),.int .i64 (x.1:Int),.pointer (some ⟨Bx,0,none⟩),.slice a len cap,.func (.func 337) #[] #[.pointer (some ⟨w.heap.size+1+1,0,none⟩)],.int .i64 (x.1:Int),.agg #[.int .i64 x.2.1,.int .i64 x.2.2],undef,undef,undef,undef,undef],defers:=[] })
  (fun x a' _ X Y row hs hg hr=>by obtain⟨Bx,h1,h2,h3⟩:=hs;exact⟨Bx,h1,cell_kept h2 hg (fun r e=>(hr r e).2),h3⟩)
  ?assign ?body ?done ?stop
 case assign =>
  rintro l pre ⟨i,x1,x2⟩ W K ⟨⟨hp,bT1,bR1⟩,hB1,hB2⟩ hK
  simp only [encV] at *
  gi_wp2
  have hs2:=hB2.size
  exact hK _ _ ((KeepsOthers.alloc _ _).from _) ((Below.refl _ W).alloc hs2 _) ⟨⟨hp,bT1.alloc _,bR1.alloc _⟩,hB1.alloc hB1.size _,hB2.alloc hs2 _⟩
   ⟨W.heap.size,by omega,(cell_of_row _ W.heap.size 0 _ 198 (0,0) (World.alloc_heap_new W _)).trans rfl,rfl⟩
 case body =>
  rintro l pre ⟨i,x1,x2⟩ a' W hl ⟨r,hr⟩ ⟨⟨hp,bT1,bR1⟩,hB1,hB2⟩ ⟨Bx,hBx,cX,rfl⟩ hlt
  have cT:=bT1.cell
  have cR:=bR1.cell
  have fR:=bR1.frozen
  simp only at cX
  by_cases hx:x1≤t
  ·gi_wp2
   exact⟨(KeepsOthers.setCell _ _ _).from _,⟨rfl,pre,(i,x1,x2),rfl,hp,hx,bR1.set _⟩,hB1.setCell (p:=⟨w.heap.size+1,0,none⟩) (by simp) _⟩
  ·gi_wp2
   exact⟨KeepsFrom.refl _ _,Below.refl _ _,⟨hp.snoc hx,bT1,bR1⟩,hB1,hB2⟩
 case done =>
  rintro D ys W hD rfl ⟨⟨hne,bT1,bR1⟩,hB1,hB2⟩ hK
  have cR:=bR1.cell
  have fR:=bR1.frozen
  gi_wp2
  have hK':=(KeepsOthers.setCell W ⟨w.heap.size+1,0,none⟩ (.int .i64 (-1))).same D _ hK rfl
  refine⟨by simp,.inl ⟨_,_,rfl,run_takeDeferred hK',?_⟩⟩
  have hc5:=cell_kept (bR1.set (.int .i64 (-1))).cell (grownBy_putObj' _ D (.deferred none)) (fun r e=>by cases e;exact⟨_,hK',rfl⟩)
  refine⟨.int .i64 (-1),?_,?_,(hB1.setCell (p:=⟨w.heap.size+1,0,none⟩) (by simp) _).trans (belowK_b (w:=w) (Nat.le_refl _) _ D _ _ (by omega) hK' rfl rfl)⟩
  ·simp [results,Tryz.f229,go_sem,hc5]
  ·rw [lat_came zs t 0 (Nat.zero_le _) hne];rfl
 case stop =>
  rintro D c pre W hD ⟨m,hm,rfl⟩ ⟨⟨rfl,ini,last,e1,e2,e3,bR1⟩,hB⟩ hK
  gi_wp2
  refine⟨by simp,.inl ⟨_,_,rfl,run_takeDeferred hK,?_⟩⟩
  have hc5:=cell_kept bR1.cell (grownBy_putObj' _ D (.deferred none)) (fun r e=>by cases e;exact⟨_,hK,rfl⟩)
  obtain⟨⟨x,y⟩,hxy⟩:∃ p,zs[m]?=some p:=⟨zs[m],List.getElem?_eq_getElem hm⟩
  rw [came_step zs m x y hxy] at e1
  obtain⟨rfl,e5⟩:=List.append_inj' e1 rfl
  obtain rfl:(m,(x,y))=last:=by simpa using e5
  refine⟨.int .i64 (m:Int),?_,?_,hB.trans (belowK_b (w:=w) (Nat.le_refl _) W D _ _ (by omega) hK rfl rfl)⟩
  ·simp [results,Tryz.f229,go_sem,hc5]
  ·rw [lat_came zs t (m+1) hm e2,latN,if_pos (by rw [hxy];exact e3)]
theorem latest_any (a:Option Addr) (len cap:Nat) (t:Int) (zs:List (Int × Int)) (hreach:zs.length≤1000000) (w:World) (hI:Vers w.heap.size w (.slice a len cap) zs) :
  Calls Tryz.prog 229 #[.slice a len cap,.int .i64 t] w fun e W'=>e=.returned (.int .i64 (lat zs t))∧Below w.heap.size w W' :=
 (callsIn_wide (n:=3)).1 (latest_in Fence.wide 3 trivial trivial trivial rfl (Nat.le_refl _) a len cap t zs hreach w hI)
end Go.Proofs.YtjefgmeejhakbabGreatDoor
namespace Go.Proofs.YtjefgmeejhakbabGreatDoor
open Go.RowKit
def BytesAt (w:World) (ad:Option Addr) (l:List Int):Prop:=∀ (i:Nat) (x:Int),l[i]?=some x→(0≤x∧x<256)∧∃ g off,ad=some ⟨g,off,none⟩∧w.cell? ⟨g,off+i,none⟩=some (.int .u8 x)
def sumStep (s x:Int):Int:=IntKind.u64.wrap (IntKind.u64.wrap (IntKind.u64.wrap (s*257)+x)+1)
def sumP (l:List Int):Int:=l.foldl sumStep 0
theorem sumP_take {l:List Int} {i:Nat} {x:Int} (h:l[i]?=some x):sumP (l.take (i+1))=sumStep (sumP (l.take i)) x:=by
 rw [List.take_add_one,h]
 unfold sumP
 rw [List.foldl_append]
 rfl
set_option maxRecDepth 100000 in
set_option maxHeartbeats 400000 in
theorem bsum_any (ad:Option Addr) (cap:Nat) (l:List Int) (w:World) (hn:l.length≤100000) (hA:BytesAt w ad l) :
  Calls Tryz.prog 235 #[.slice ad l.length cap] w fun e w'=>e=.returned (.int .u64 (sumP l))∧w'=w:=by
 have HA:=hid hA
 clear hA
 go_enter Tryz.func235,Tryz.ntmps235
 go_wp2
 go_loopw [3,7] (fun sv iv wr=>∃ i:Nat,iv=.int .i64 i∧i≤l.length∧sv=.int .u64 (sumP (l.take i))∧wr=w) (fun _ iv _=>l.length-(intOf iv).toNat)
 case atStart=>exact⟨0,rfl,Nat.zero_le _,rfl,rfl⟩
 case round =>
  obtain⟨i,rfl,hi,rfl,rfl⟩:=hrel
  by_cases hlt:i<l.length
  ·obtain⟨x,hx⟩:∃ x,l[i]?=some x:=⟨_,List.getElem?_eq_getElem hlt⟩
   obtain⟨hb,g,off,rfl,hc⟩:=HA.out i x hx
   have gi0:(0:Int)≤(i:Int):=by omega
   have gi1:(i:Int)<(l.length:Int):=by omega
   have hstep:=sumP_take hx
   go_wp2
   go_roundw
   case rel=>exact⟨i+1,by go_num,by omega,by rw [hstep];rfl,by first | rfl | trivial⟩
   case measure=>simp [intOf];omega
  ·obtain rfl:i=l.length:=by omega
   have gi1:¬ (l.length:Int)<(l.length:Int):=by omega
   go_wp2
   go_ret
   exact⟨rfl,rfl⟩
def numN (l:List Int):Nat→Nat
 | 0=>0
 | i+1=>numN l i+(l[i]?.getD 0).toNat*2 ^ (8*i)
theorem numN_lt {l:List Int} (h:∀ x∈l,0≤x∧x<256):∀ i,numN l i<2 ^ (8*i)
 | 0=>by simp [numN]
 | i+1=>by
  have ih:=numN_lt h i
  have hx:(l[i]?.getD 0).toNat≤255:=by
   cases hl:l[i]? with
   | none=>simp
   | some x=>have:=h x (List.mem_of_getElem? hl);simp;omega
  unfold numN
  rw [show 8*(i+1)=8*i+8 by omega,Nat.pow_add]
  have:=Nat.mul_le_mul_right (2 ^ (8*i)) hx
  omega
theorem or_add (a b i:Nat) (h:a<2 ^ i):a ||| (b*2 ^ i)=a+b*2 ^ i:=by
 rw [Nat.or_comm,← Nat.shiftLeft_eq,← Nat.shiftLeft_add_eq_or_of_lt h,Nat.shiftLeft_eq]
 omega
set_option maxRecDepth 100000 in
set_option maxHeartbeats 400000 in
theorem bnumber_any (ad:Option Addr) (n cap:Nat) (l:List Int) (w:World) (hn:8≤n) (hA:BytesAt w ad l) (hl:8≤l.length) :
  Calls Tryz.prog 309 #[.slice ad n cap] w fun e w'=>e=.returned (.int .u64 (numN l 8:Nat))∧w'=w:=by
 have hall:∀ x∈l,0≤x∧x<256:=fun x hx=>by
  obtain⟨i,hi,e⟩:=List.getElem_of_mem hx
  exact (hA i x (by rw [List.getElem?_eq_getElem hi,e])).1
 have HA:=hid hA
 have HL:=hid (numN_lt hall)
 clear hA hall
 go_enter Tryz.func309,Tryz.ntmps309
 go_wp2
 go_loopw [3,5] (fun sv iv wr=>∃ i:Nat,iv=.int .i64 i∧i≤8∧sv=.int .u64 (numN l i:Nat)∧wr=w) (fun _ iv _=>8-(intOf iv).toNat)
 case atStart=>exact⟨0,rfl,Nat.zero_le _,rfl,rfl⟩
 case round =>
  obtain⟨i,rfl,hi,rfl,rfl⟩:=hrel
  by_cases hlt:i<8
  ·obtain⟨x,hx⟩:∃ x,l[i]?=some x:=⟨_,List.getElem?_eq_getElem (by omega)⟩
   obtain⟨hb,g,off,rfl,hc⟩:=HA.out i x hx
   have gi0:(0:Int)≤(i:Int):=by omega
   have gi1:(i:Int)<(n:Int):=by omega
   have gi8:(i:Int)<8:=by omega
   have gm:IntKind.i64.wrap (8*(i:Int))=8*(i:Int):=IntWalk.i64_in _ (by omega)
   have key:bits BinOp.or IntKind.u64 (numN l i:Nat) (IntKind.u64.wrap (x*2 ^ (8*i)))=((numN l (i+1):Nat):Int):=by
    have h1:=HL.out i
    have h3:2 ^ (8*i)≤2 ^ 56:=Nat.pow_le_pow_right (by decide) (by omega)
    have h4:=HL.out (i+1)
    have h5:2 ^ (8*(i+1))≤2 ^ 64:=Nat.pow_le_pow_right (by decide) (by omega)
    obtain⟨y,rfl⟩:=Int.eq_ofNat_of_zero_le hb.1
    have hy:y≤255:=by omega
    have h6:y*2 ^ (8*i)≤255*2 ^ 56:=Nat.mul_le_mul hy h3
    have e1:((y:Int)*2 ^ (8*i))=((y*2 ^ (8*i):Nat):Int):=by simp
    have e2:IntKind.u64.wrap ((y*2 ^ (8*i):Nat):Int)=((y*2 ^ (8*i):Nat):Int):=IntWalk.u64_in _ (by omega)
    rw [e1,e2,u64_or_nat _ _ (by omega) (by omega),or_add _ _ _ h1,numN,hx]
    simp
   go_wp2
   go_roundw
   case rel=>exact⟨i+1,by go_num,by omega,rfl,by first | rfl | trivial⟩
   case measure=>simp [intOf];omega
  ·obtain rfl:i=8:=by omega
   go_wp2
   go_ret
   exact⟨rfl,rfl⟩
def byteOf (n:Nat) (i:Nat):Int:=((n / 2 ^ (8*i)%256:Nat):Int)
def bytesN (n:Nat):Nat→List Int
 | 0=>[]
 | i+1=>bytesN n i++[byteOf n i]
theorem bytesN_len (n:Nat):∀ i,(bytesN n i).length=i
 | 0=>rfl
 | i+1=>by unfold bytesN;rw [List.length_append,bytesN_len n i];rfl
theorem bytesN_get (n:Nat):∀ (i j:Nat),j<i→(bytesN n i)[j]?=some (byteOf n j)
 | 0,j,h=>by omega
 | i+1,j,h=>by
  unfold bytesN
  by_cases e:j<i
  ·rw [List.getElem?_append_left (by rw [bytesN_len];exact e),bytesN_get n i j e]
  ·obtain rfl:j=i:=by omega
   rw [List.getElem?_append_right (by rw [bytesN_len];exact Nat.le_refl _),bytesN_len]
   simp
theorem byteOf_lt (n i:Nat):0≤byteOf n i∧byteOf n i<256:=by
 unfold byteOf
 have:=Nat.mod_lt (n / 2 ^ (8*i)) (show 0<256 by decide)
 omega
theorem bytesN_in (n:Nat):∀ i,∀ x∈bytesN n i,0≤x∧x<256:=fun i x hx=>by
 obtain⟨j,hj,e⟩:=List.getElem_of_mem hx
 have:=bytesN_get n i j (by rw [bytesN_len] at hj;exact hj)
 rw [List.getElem?_eq_getElem hj,e] at this
 injection this with this
 rw [this]
 exact byteOf_lt n j
theorem numN_bytes (n:Nat) (r:List Int):∀ i,i≤8→numN (bytesN n 8++r) i=n%2 ^ (8*i)
 | 0,_=>by simp [numN,Nat.mod_one]
 | i+1,hi=>by
  unfold numN
  rw [numN_bytes n r i (by omega),List.getElem?_append_left (by rw [bytesN_len];omega),bytesN_get n 8 i (by omega)]
  simp only [Option.getD_some,byteOf,Int.toNat_natCast]
  rw [show 8*(i+1)=8*i+8 by omega,Nat.pow_add,Nat.mod_mul,Nat.mul_comm (2 ^ (8*i))]
theorem number_bytes {n:Nat} (h:n<2 ^ 64) (r:List Int):numN (bytesN n 8++r) 8=n:=by
 rw [numN_bytes n r 8 (Nat.le_refl _)]
 exact Nat.mod_eq_of_lt h
theorem info5:(Tryz.prog.info? 5).map (fun i=>(i.zero,i.size,i.bytes))=some (some (.int .u8 0),1,1):=by kernel_rfl
def u8V (l:List Int):List Value:=l.map (Value.int .u8)
theorem u8V_get {l:List Int} {j:Nat} {x:Int} (h:l[j]?=some x):(u8V l)[j]?=some (.int .u8 x):=by simp [u8V,h]
theorem u8V_append (l m:List Int):u8V (l++m)=u8V l++u8V m:=by simp [u8V]
set_option maxRecDepth 100000 in
set_option maxHeartbeats 400000 in
theorem appendNumber_any (v:Value) (l:List Int) (n base:Nat) (w:World) (hl:l.length≤10000) (hb:base≤w.heap.size) (h:w.ownsRow base 5 1 v l.length (u8V l)) :
  Calls Tryz.prog 234 #[v,.int .u64 (n:Int)] w fun e w'=>∃ v',e=.returned v'∧w'.ownsRow base 5 1 v' (l++bytesN n 8).length (u8V (l++bytesN n 8))∧Below base w w':=by
 obtain⟨i0,hi0,hz0,hz1,hz2⟩:=info_parts info5
 have HO:=hid h
 clear h
 go_enter Tryz.func234,Tryz.ntmps234
 go_wp2
 go_loopw [0,6] (fun tv iv wr=>∃ i:Nat,iv=.int .i64 i∧i≤8∧Hid (wr.ownsRow base 5 1 tv (l++bytesN n i).length (u8V (l++bytesN n i))∧Below base w wr)) (fun _ iv _=>8-(intOf iv).toNat)
 case atStart=>exact⟨0,rfl,Nat.zero_le _,by simpa [bytesN] using HO.out,Below.refl _ _⟩
 case round =>
  obtain⟨i,rfl,hi,HX⟩:=hrel
  by_cases hlt:i<8
  ·have gi8:(i:Int)<8:=by omega
   have gm:IntKind.i64.wrap (8*(i:Int))=8*(i:Int):=IntWalk.i64_in _ (by omega)
   have hln:(l++bytesN n i).length=l.length+i:=by rw [List.length_append,bytesN_len]
   have hln2:(l++bytesN n (i+1)).length=l.length+i+1:=by rw [List.length_append,bytesN_len];omega
   have hby:((n:Int) / 2 ^ (8*i)%256)=byteOf n i:=by
    unfold byteOf
    simp
   obtain⟨y,hy⟩:∃ y,byteOf n i=y:=⟨_,rfl⟩
   have hst:Hid (u8V (l++bytesN n (i+1))=u8V (l++bytesN n i)++[.int .u8 y]):=by
    show _=_
    rw [bytesN,← List.append_assoc,u8V_append,hy]
    rfl
   rw [hy] at hby
   have HO2:=hid HX.out.1
   rw [hln] at HO2
   have HB2:=hid HX.out.2
   have hbs:base≤wr.heap.size:=Nat.le_trans hb HX.out.2.size
   have HLN:=hid hln2
   clear hln hln2 hy
   go_wp2_with (at_builtin;refine wpList_append_lies _ rfl _ _ _ rfl base 5 i0 _ 1 1 Tryz.underlying39 hi0 hz0 hz1 hz2 rfl (by omega) u0 _ _ rfl (HO2.out.alloc _) ⟨wr.heap.size,0,none⟩ 1 1 [.int .u8 y] rfl rfl (World.news_of_block (cs:=#[.int .u8 y]) (t:=5) (fr:=(0,0)) (heap_alloc_new wr _)) (by simp [Value.oneCell']) (by omega) (by unfold maxLen;omega) (by omega) (by simp;omega) (wr.heap.size+1) (by simp) ?_;intro g' cap' w2 ho hgrow hat hlt2)
   go_roundw
   case rel =>
    refine⟨i+1,by go_num,by omega,?_,?_⟩
    ·rw [hst.out,HLN.out];exact ho
    ·exact HB2.out.trans ((((Below.refl _ wr).alloc (Nat.le_refl _) _).mono hbs).grown hgrow (by simp;omega) (fun k e=>(HO2.out.lt k e).1))
   case measure=>simp [intOf];omega
  ·obtain rfl:i=8:=by omega
   go_wp2
   go_ret
   exact⟨_,rfl,HX.out⟩
end Go.Proofs.YtjefgmeejhakbabGreatDoor
