/- DkSeq DkRun DkSesB DkSess DkFix DpWalk: put together for a claim. -/
import Derived.Test.YtjefgmeejhakbabGreatDoorDkNew
import Derived.RangeFuncNested
import Derived.RangeFuncBound
import Derived.RangeFuncCalls
import Derived.RangeFuncLeaves
import Derived.Shelf.Abstract
import Derived.OwnWalkIn
import Derived.TacticsInMore
import Derived.LoopNIn
import Derived.LoopIn
namespace Go.Proofs.YtjefgmeejhakbabGreatDoor
open Go.RowKit Go.Shelf
attribute [local go_sem] Oper.semAt_some
def linesP:List UInt8→List (List UInt8)
 | []=>[[]]
 | c::r=>if c=10 then []::linesP r else match linesP r with
  | []=>[[c]]
  | x::xs=>(c::x)::xs
theorem linesP_ne:∀ l,linesP l≠[]
 | []=>by simp [linesP]
 | c::r=>by
  unfold linesP
  by_cases e:c=10
  ·rw [if_pos e];simp
  ·rw [if_neg e]
   cases h:linesP r<;>simp
theorem linesP_one:∀ {l:List UInt8},Lib.indexByte l 10<0→linesP l=[l]
 | [],_=>rfl
 | c::r,h=>by
  unfold Lib.indexByte at h
  unfold linesP
  by_cases e:c=10
  ·rw [if_pos (by simp [e])] at h
   omega
  ·rw [if_neg (by simpa using e)] at h
   rw [if_neg e]
   by_cases e2:Lib.indexByte r 10=-1
   ·rw [linesP_one (l:=r) (by omega)]
   ·rw [if_neg (by simpa using e2)] at h
    by_cases e3:Lib.indexByte r 10<0
    ·rw [linesP_one e3]
    ·omega
theorem linesP_at:∀ {l:List UInt8},0≤Lib.indexByte l 10→(Lib.indexByte l 10).toNat<l.length∧linesP l=l.take (Lib.indexByte l 10).toNat::linesP (l.drop ((Lib.indexByte l 10).toNat+1))
 | [],h=>by
  unfold Lib.indexByte at h
  omega
 | c::r,h=>by
  unfold Lib.indexByte at h ⊢
  by_cases e:c=10
  ·rw [if_pos (by simp [e])]
   refine⟨by simp,?_⟩
   rw [linesP,if_pos e]
   rfl
  ·rw [if_neg (by simpa using e)] at h ⊢
   by_cases e2:Lib.indexByte r 10=-1
   ·rw [if_pos (by simp [e2])] at h
    omega
   ·rw [if_neg (by simpa using e2)] at h ⊢
    by_cases e3:0≤Lib.indexByte r 10
    ·obtain⟨h1,h2⟩:=linesP_at (l:=r) e3
     rw [show (Lib.indexByte r 10+1).toNat=(Lib.indexByte r 10).toNat+1 by omega]
     refine⟨by simp;omega,?_⟩
     rw [linesP,if_neg e,h2]
     rfl
    ·rw [show Lib.indexByte r 10=-1 by omega] at e2
     exact absurd rfl e2
theorem ext_take (r:List UInt8) (m:Nat):(⟨r.toArray⟩:ByteArray).extract 0 m=⟨(r.take m).toArray⟩:=by
 apply ByteArray.ext
 simp [ByteArray.data_extract]
theorem ext_drop (r:List UInt8) (m:Nat):(⟨r.toArray⟩:ByteArray).extract m r.length=⟨(r.drop m).toArray⟩:=by
 apply ByteArray.ext
 simp [ByteArray.data_extract]
 rw [List.take_of_length_le (by simp)]
def LinesIt (n:Nat) (gf:Nat) (lb:Array Value) (Bs:Nat) (Bx:Nat→Prop) (ls:List (List UInt8)) (w:World):Prop :=
 ∀ (l:Nat) (J:List (List UInt8)→World→Prop) (W:World),(∀ pre A v,J pre A→J pre (A.setCell ⟨Bs,0,none⟩ v)) →
  (∀ pre x post W1,J pre W1→pre++x::post=ls→YieldAt Fence.wide (n-1) Tryz.prog l #[txt x] W1 fun e W'=>e=.returned (.bool true)∧J (pre++[x]) W'∧∀ g,Bx g→W'.heap[g]?=W1.heap[g]?) →
  (∀ g,Bx g→W.heap[g]?=w.heap[g]?)→J [] W →
  CallsIn Fence.wide n Tryz.prog gf (#[.func (.yield l) #[] #[]]++lb) W fun e W'=>(∃ v,e=.returned v)∧J ls W'
set_option maxRecDepth 100000 in
set_option maxHeartbeats 4000000 in
theorem split_it (n:Nat) (hn:1≤n) {w:World} {Bs Bp Bq:Nat} {s:List UInt8} (hl:s.length≤100000) (hs:w.heap[Bs]?=some (.cells #[txt s] 9 (0,0))) (hp:w.heap[Bp]?=some (.cells #[txt [10]] 9 (0,0))) (hq:w.heap[Bq]?=some (.cells #[.int .i64 0] 3 (0,0))) (hd:Bs≠Bp∧Bs≠Bq) :
    LinesIt n 125 #[.pointer (some ⟨Bp,0,none⟩),.pointer (some ⟨Bs,0,none⟩),.pointer (some ⟨Bq,0,none⟩)] Bs (fun g=>g=Bs∨g=Bp∨g=Bq) (linesP s) w:=by
  intro l J W hJ hY hW h0
  have hs1:=(hW Bs (.inl rfl)).trans hs
  have hp1:=(hW Bp (.inr (.inl rfl))).trans hp
  have hq1:=(hW Bq (.inr (.inr rfl))).trans hq
  have HY:=hid hY
  have HJ:=hid hJ
  have HD:=hid hd
  clear hW hs hp hq hd hY hJ
  have cP:W.cell? ⟨Bp,0,none⟩=some (txt [10]):=(cell_of_row W Bp 0 _ 9 (0,0) hp1).trans rfl
  refine callsIn_of_wp Tryz.func125 rfl trivial ?_ rfl
  simp only [Tryz.ntmps125,List.size_toArray,List.length_cons,List.length_nil,Nat.reduceAdd,Nat.reduceSub,Array.replicate_succ,Array.replicate_zero,List.push_toArray,List.append_toArray,List.nil_append,List.cons_append]
  gi_wp2
  gi_loopw [7,8] (fun _ _ wr=>∃ pre r,pre++linesP r=linesP s∧r.length≤s.length∧J pre wr∧wr.heap[Bs]?=some (.cells #[txt r] 9 (0,0))∧wr.heap[Bp]?=some (.cells #[txt [10]] 9 (0,0))∧wr.heap[Bq]?=some (.cells #[.int .i64 0] 3 (0,0)))
    (fun _ _ wr=>match wr.cell? ⟨Bs,0,none⟩ with
      | some (.string b)=>b.size
      | _=>0)
  case atStart=>exact⟨[],s,rfl,Nat.le_refl _,h0,hs1,hp1,hq1⟩
  case round =>
    obtain⟨pre,r,hpre,hrl,hJr,b1,b2,b3⟩:=hrel
    have cS:wr.cell? ⟨Bs,0,none⟩=some (txt r):=(cell_of_row wr Bs 0 _ 9 (0,0) b1).trans rfl
    have cP:wr.cell? ⟨Bp,0,none⟩=some (txt [10]):=(cell_of_row wr Bp 0 _ 9 (0,0) b2).trans rfl
    have cQ:wr.cell? ⟨Bq,0,none⟩=some (.int .i64 0):=(cell_of_row wr Bq 0 _ 3 (0,0) b3).trans rfl
    have fS:wr.frozen? ⟨Bs,0,none⟩=false:=by simp [World.frozen?,b1]
    have HIX:Hid (Calls Tryz.prog 127 #[txt r,txt [10]] wr fun e w'=>e=.returned (.int .i64 (Lib.indexByte r 10))∧w'=wr):=hid (Tryz.strings_Index_one ⟨r.toArray⟩ 10 wr)
    have hF:Fence.wide.fn 127:=trivial
    by_cases hi:Lib.indexByte r 10<0
    · have hone:=linesP_one hi
      have hyy:=HY.out pre r [] wr hJr (by rw [← hpre,hone])
      rw [hone] at hpre
      obtain⟨fn,tmps,assign,body,hy,hR⟩:=hyy
      obtain⟨i,hie⟩:∃ i,Lib.indexByte r 10=i:=⟨_,rfl⟩
      rw [hie] at HIX hi
      have HP:=hid hpre
      clear hie hone hpre
      gi_wp2_with (gi_at_call 127;refine (callsIn_wide.2 HIX.out).mono ?_;rintro e w' ⟨rfl,rfl⟩)
      refine hR.mono ?_
      rintro e W3 ⟨rfl,hJ3,_⟩
      gi_wp2
      go_end0
      refine⟨⟨_,rfl⟩,?_⟩
      rw [← HP.out]
      exact hJ3
    · obtain⟨hml,hcons⟩:=linesP_at (l:=r) (by omega)
      obtain⟨m,hm⟩:∃ m:Nat,Lib.indexByte r 10=m:=⟨(Lib.indexByte r 10).toNat,by omega⟩
      rw [hm] at HIX hml hcons hi
      simp only [Int.toNat_natCast] at hml hcons
      have ex1:(⟨r.toArray⟩:ByteArray).extract 0 m=⟨(r.take m).toArray⟩:=ext_take r m
      have hy0:=HY.out pre (r.take m) (linesP (r.drop (m+1))) wr hJr (by rw [← hcons];exact hpre)
      rw [show txt (r.take m)=.string ((⟨r.toArray⟩:ByteArray).extract 0 m) by rw [ex1]] at hy0
      obtain⟨fn,tmps,assign,body,hy,hR⟩:=hy0
      clear ex1
      have HP:=hid hpre
      have HC:=hid hcons
      clear hm hcons hpre hi
      gi_wp2_with (gi_at_call 127;refine (callsIn_wide.2 HIX.out).mono ?_;rintro e w' ⟨rfl,rfl⟩)
      refine hR.mono ?_
      rintro e W3 ⟨rfl,hJ3,hk3⟩
      have d1:=(hk3 Bs (.inl rfl)).trans b1
      have d2:=(hk3 Bp (.inr (.inl rfl))).trans b2
      have d3:=(hk3 Bq (.inr (.inr rfl))).trans b3
      have eS:W3.cell? ⟨Bs,0,none⟩=some (txt r):=(cell_of_row W3 Bs 0 _ 9 (0,0) d1).trans rfl
      have eP:W3.cell? ⟨Bp,0,none⟩=some (txt [10]):=(cell_of_row W3 Bp 0 _ 9 (0,0) d2).trans rfl
      have gS:W3.frozen? ⟨Bs,0,none⟩=false:=by simp [World.frozen?,d1]
      gi_wp2
      rw [ext_drop]
      have n1:(W3.setCell ⟨Bs,0,none⟩ (txt (r.drop (m+1)))).heap[Bs]?=some (.cells #[txt (r.drop (m+1))] 9 (0,0)):=by
        rw [heap_setCell_same W3 Bs 0 _ _ _ d1]
        rfl
      have n2:(W3.setCell ⟨Bs,0,none⟩ (txt (r.drop (m+1)))).cell? ⟨Bs,0,none⟩=some (txt (r.drop (m+1))):=(cell_of_row _ Bs 0 _ 9 (0,0) n1).trans rfl
      refine⟨⟨pre++[r.take m],r.drop (m+1),?_,?_,HJ.out _ _ _ hJ3,n1,(Below.heap_setCell W3 _ _ _ (fun e=>HD.out.1 e.symm)).trans d2,(Below.heap_setCell W3 _ _ _ (fun e=>HD.out.2 e.symm)).trans d3⟩,?_⟩
      · rw [← HP.out,HC.out,List.append_assoc]
        rfl
      · rw [List.length_drop]
        omega
      · rw [n2,cS]
        show ((r.drop (m+1)).toArray).size<r.toArray.size
        simp
        omega
structure Turns (G:Nat→Prop) (A C:World):Prop where
 os:C.os=A.os
 tape:C.tape=A.tape
 output:C.output=A.output
 size:A.heap.size≤C.heap.size
 block:∀ g,g<A.heap.size→¬ G g→C.heap[g]?=A.heap[g]?
theorem Turns.put {G:Nat→Prop} (A:World) {l:Nat} (hl:G l) (o:Obj):Turns G A (A.putObj l o) :=
 ⟨rfl,rfl,rfl,by simp,fun g _ hn=>World.putObj_heap_other (fun e=>hn (e▸hl))⟩
theorem Turns.cell {G:Nat→Prop} (A:World) {l:Nat} (hl:G l) (v:Value):Turns G A (A.setCell ⟨l,0,none⟩ v) :=
 ⟨rfl,rfl,rfl,by simp,fun g _ hn=>Below.heap_setCell A _ _ g (fun e=>hn (e▸hl))⟩
theorem wpIn_lines {n:Nat} {g:Operand} {ps:Array Tmp} {assign body:Code} {Q:Exit→Act→World→Prop} {a:Act} {w:World}
    {gf:Nat} {lb:Array Value} (hg:a.eval g=.func (.func gf) #[] lb) (eg:∀ args w,(callFunc gf args).run Tryz.prog w=.ok (.enter gf args) w)
    {Bs:Nat} {Bx:Nat→Prop} {ls:List (List UInt8)} (hseq:LinesIt (n-1) gf lb Bs Bx ls w) (hps:ps.size=1)
    (hBs:Bx Bs) (hBx:∀ g,Bx g→g<w.heap.size)
    (I:List (List UInt8)→World→Prop) (hI:∀ pre A C,I pre A→Turns (fun g=>Bx g∨g=w.heap.size∨g=w.heap.size+1) A C→I pre C) (h0:∀ W1,Below w.heap.size w W1→w.heap.size+2≤W1.heap.size→I [] W1) (a₁:List UInt8→Act)
    (hassign:∀ (l:Nat) (x:List UInt8) (W:World) (K:Act→World→Prop),K (a₁ x) W →
      assign.wpIn (Fence.wide.inRound l) (n-1-1) Tryz.prog (Exit.then K (fun _ _ _=>False)) { tmps:=(ps.zip #[txt x]).foldl (fun t (p,v)=>t.setIfInBounds p v) a.tmps,defers:=[] } W)
    (hbody:∀ (l:Nat) (pre:List (List UInt8)) (x:List UInt8) (post:List (List UInt8)) (W:World),I pre W→pre++x::post=ls→w.heap.size+2≤W.heap.size→body.wpIn (Fence.wide.inRound l) (n-1-1) Tryz.prog (fun e _ W'=>e=.normal∧I (pre++[x]) W'∧w.heap.size+2≤W'.heap.size∧∀ g,(Bx g∨g=w.heap.size∨g=w.heap.size+1)→W'.heap[g]?=W.heap[g]?) (a₁ x) W)
    (hdone:∀ (W:World),I ls W→W.heap[w.heap.size]?=some (.deferred (some []))→Q .normal { a with defers:={ target:=.collected w.heap.size,args:=#[] }::a.defers } W) :
    (Code.rangeFunc g ps assign body).wpIn Fence.wide n Tryz.prog Q a w:=by
  refine wpIn_rangeFunc ?_
  intro fn hfn
  rw [show Fence.wide.round=none from rfl]
  obtain⟨rec,hrec⟩:∃ rec:LoopState→Option Code→Loop,rec=fun st pe=>{ state:=st,pending:=pe,fn,tmps:=a.tmps,params:=ps,assign,body,defers:=w.heap.size }:=⟨_,rfl⟩
  obtain⟨W1,hW1⟩:∃ W1,(w.alloc (.deferred (some []))).alloc (.loop (rec .ready none))=W1:=⟨_,rfl⟩
  have hL1:W1.heap[w.heap.size+1]?=some (.loop (rec .ready none)):=by
    rw [← hW1];have:=World.alloc_heap_new (w.alloc (.deferred (some []))) (.loop (rec .ready none));rwa [World.size_alloc] at this
  have hK1:W1.heap[w.heap.size]?=some (.deferred (some [])):=by
    rw [← hW1];exact (Below.heap_alloc _ _ _ (by simp)).trans (World.alloc_heap_new w _)
  have hB1:Below w.heap.size w W1:=by rw [← hW1];exact ((Below.refl _ w).alloc (Nat.le_refl _) _).alloc (by simp) _
  have hI1:I [] W1:=h0 W1 hB1 (by rw [← hW1];simp)
  refine⟨w.heap.size+1,[{ target:=.collected w.heap.size,args:=#[] }],W1,{ target:=.fn (.func gf) lb,args:=#[.func (.yield (w.heap.size+1)) #[] #[]] },W1,gf,
    #[.func (.yield (w.heap.size+1)) #[] #[]]++lb,W1,?_,?_,?_,?_,?_,?_⟩
  · rw [← hW1,hrec];exact run_enterLoop_outer _ _ _ _ _
  · simp only [resolve,hg]
    simp [go_sem]
  · intro f' hf';trivial
  · simp [invoke,go_sem,eg]
  · intro h;cases h
  · refine (hseq (w.heap.size+1)
      (fun pre W=>I pre W∧W.heap[w.heap.size+1]?=some (.loop (rec .ready none))∧W.heap[w.heap.size]?=some (.deferred (some [])))
      W1 ?_ ?_ (fun g hg=>hB1.block g (hBx g hg)) ⟨hI1,hL1,hK1⟩).mono ?_
    · rintro pre A v ⟨h1,h2,h3⟩
      have:=hBx Bs hBs
      exact⟨hI _ _ _ h1 (Turns.cell A (.inl hBs) v),(Below.heap_setCell A _ _ _ (by show w.heap.size+1≠Bs;omega)).trans h2,(Below.heap_setCell A _ _ _ (by show w.heap.size≠Bs;omega)).trans h3⟩
    · rintro pre x post W ⟨hi,hl,hk⟩ hls
      have hlt:w.heap.size+1<W.heap.size:=(Array.getElem?_eq_some_iff.1 hl).1
      have hy:=run_yield (P:=Tryz.prog) (args:=#[txt x]) hl (by rw [hrec];exact hps.symm)
      rw [hrec] at hy
      refine⟨fn,_,assign,body,hy,roundIn_of_wpIn hfn (hassign _ x W _ ⟨_,run_beginRound hl (by rw [hrec]),?_⟩)⟩
      have hl2:(W.putObj (w.heap.size+1) (.loop { rec .ready none with state:=.busy })).heap[w.heap.size+1]?=some (.loop { rec .ready none with state:=.busy }):=World.putObj_heap_same hlt
      have hk2:(W.putObj (w.heap.size+1) (.loop { rec .ready none with state:=.busy })).heap[w.heap.size]?=some (.deferred (some [])):=(World.putObj_heap_other (by omega)).trans hk
      refine wpIn_mono (hbody _ pre x post _ (hI _ _ _ hi (Turns.put W (.inr (.inr rfl)) _)) hls (by simp;omega)) ?_
      rintro e a3 W3 ⟨rfl,hi3,hz3,hk3⟩
      have hl3:=(hk3 _ (.inr (.inr rfl))).trans hl2
      have hr:=run_endRound (P:=Tryz.prog) none hl3
      rw [hrec] at hr ⊢
      refine⟨_,_,hr,rfl,⟨hI _ _ _ hi3 (Turns.put W3 (.inr (.inr rfl)) _),World.putObj_heap_same (Array.getElem?_eq_some_iff.1 hl3).1,(World.putObj_heap_other (by omega)).trans ((hk3 _ (.inr (.inl rfl))).trans hk2)⟩,fun g hg=>?_⟩
      have:=hBx g hg
      rw [World.putObj_heap_other (by omega),hk3 g (.inl hg),World.putObj_heap_other (by omega)]
    · rintro e W2 ⟨⟨v,rfl⟩,hi,hl,hk⟩
      exact⟨none,_,by have:=run_endLoop (P:=Tryz.prog) hl (by rw [hrec];simp);rw [hrec] at this;exact this,hdone _ (hI _ _ _ hi (Turns.put W2 (.inr (.inr rfl)) _)) ((World.putObj_heap_other (by omega)).trans hk)⟩
end Go.Proofs.YtjefgmeejhakbabGreatDoor
namespace Go.Proofs.YtjefgmeejhakbabGreatDoor
open Go.RowKit Go.Shelf
attribute [local go_sem] Oper.semAt_some
structure Run (ls:List (List UInt8)) (sts:Nat→Ses) (ts:Nat→List UInt8):Prop where
 zero:sts 0=ses0
 step:∀ (i:Nat) (l:List UInt8),ls[i]?=some l→(ts i).length≤10000000000∧Answers l (sts i) (ts i) (sts (i+1))
def tellT (ts:Nat→List UInt8):Nat→List UInt8
 | 0=>[]
 | n+1=>tellT ts n++ts n++[10]
theorem tellT_pre (ts:Nat→List UInt8) (n:Nat):∀ m,∃ r,tellT ts (n+m)=tellT ts n++r
 | 0=>⟨[],by simp⟩
 | m+1=>by
  obtain⟨r,h⟩:=tellT_pre ts n m
  exact⟨r++ts (n+m)++[10],by rw [← Nat.add_assoc,tellT,h];simp⟩
theorem tellT_len {ls:List (List UInt8)} {sts:Nat→Ses} {ts:Nat→List UInt8} (h:Run ls sts ts):∀ n,n≤ls.length→(tellT ts n).length≤n*10000000001
 | 0,_=>by simp [tellT]
 | n+1,hn=>by
  have ih:=tellT_len h n (by omega)
  have h1:=(h.step n _ (List.getElem?_eq_getElem (by omega))).1
  rw [tellT,List.length_append,List.length_append,List.length_cons,List.length_nil]
  rw [Nat.succ_mul]
  omega
theorem Run.pre {a b:List (List UInt8)} {sts:Nat→Ses} {ts:Nat→List UInt8} (h:Run (a++b) sts ts):Run a sts ts :=
 ⟨h.zero,fun i l hl=>h.step i l (by rw [List.getElem?_append_left (List.getElem?_eq_some_iff.1 hl).1];exact hl)⟩
theorem run_ex (ls:List (List UInt8)) (hn:ls.length≤4000) (hl:∀ l∈ls,l.length≤100000):∃ sts ts,Run ls sts ts:=by
 have key:∀ m,m≤ls.length→∃ sts ts,Run (ls.take m) sts ts∧SesOk m (sts m):=by
  intro m
  induction m with
  | zero=>exact fun _=>⟨fun _=>ses0,fun _=>[],⟨rfl,fun i l h=>by simp at h⟩,ses0_ok⟩
  | succ m ih =>
   intro hm
   obtain⟨sts,ts,hr,hok⟩:=ih (by omega)
   obtain⟨t,st',h1,h2,h3⟩:=answer_any hok (by omega) (line:=ls[m]'(by omega)) (hl _ (List.getElem_mem _))
   refine⟨fun i=>if i=m+1 then st' else sts i,fun i=>if i=m then t else ts i,⟨by simp [hr.zero],fun i l h=>?_⟩,by simpa using h1⟩
   rw [List.getElem?_take] at h
   by_cases e:i=m
   ·subst e
    rw [if_pos (by omega),List.getElem?_eq_getElem (by omega)] at h
    injection h with h
    subst h
    simp only [if_true]
    rw [if_neg (by omega)]
    exact⟨h2,h3⟩
   ·have hi:i<m:=by
     by_cases h4:i<m+1
     ·omega
     ·rw [if_neg h4] at h
      cases h
    rw [if_pos (by omega)] at h
    have:=hr.step i l (by rw [List.getElem?_take,if_pos hi];exact h)
    rw [if_neg e,if_neg (by omega),if_neg (by omega)]
    exact this
 obtain⟨sts,ts,hr,_⟩:=key ls.length (Nat.le_refl _)
 rw [List.take_length] at hr
 exact⟨sts,ts,hr⟩
theorem linesP_len:∀ l:List UInt8,(linesP l).length≤l.length+1∧∀ x∈linesP l,x.length≤l.length
 | []=>by simp [linesP]
 | c::r=>by
  obtain⟨h1,h2⟩:=linesP_len r
  unfold linesP
  by_cases e:c=10
  ·rw [if_pos e]
   refine⟨by simp;omega,fun x hx=>?_⟩
   rcases List.mem_cons.1 hx with rfl | hx
   ·simp
   ·have:=h2 x hx;simp;omega
  ·rw [if_neg e]
   cases h:linesP r with
   | nil=>exact absurd h (linesP_ne r)
   | cons y ys =>
    rw [h] at h1 h2
    refine⟨by simp at h1 ⊢;omega,fun x hx=>?_⟩
    rcases List.mem_cons.1 hx with rfl | hx
    ·have:=h2 y (by simp);simp;omega
    ·have:=h2 x (by simp [hx]);simp;omega
theorem linesP_cat:∀ (a b:List UInt8),linesP (a++10::b)=linesP a++linesP b
 | [],b=>by simp [linesP]
 | c::r,b=>by
  have ih:=linesP_cat r b
  rw [List.cons_append,linesP,linesP]
  by_cases e:c=10
  ·rw [if_pos e,if_pos e,ih]
   rfl
  ·rw [if_neg e,if_neg e,ih]
   cases h:linesP r with
   | nil=>exact absurd h (linesP_ne r)
   | cons y ys=>rfl
theorem splitSeq_any (s p:List UInt8) (w:World):Calls Tryz.prog 14 #[txt s,txt p] w fun e w'=>e=.returned (.func (.func 125) #[] #[.pointer (some ⟨w.heap.size+1,0,none⟩),.pointer (some ⟨w.heap.size,0,none⟩),.pointer (some ⟨w.heap.size+2,0,none⟩)])∧w'=((w.alloc (.cells #[txt s] 9)).alloc (.cells #[txt p] 9)).alloc (.cells #[.int .i64 0] 3):=by
 have HS:Hid (Calls Tryz.prog 48 #[txt s,txt p,.int .i64 0] w fun e w'=>e=.returned (.func (.func 125) #[] #[.pointer (some ⟨w.heap.size+1,0,none⟩),.pointer (some ⟨w.heap.size,0,none⟩),.pointer (some ⟨w.heap.size+2,0,none⟩)])∧w'=((w.alloc (.cells #[txt s] 9)).alloc (.cells #[txt p] 9)).alloc (.cells #[.int .i64 0] 3)):=by
  refine hid ?_
  go_enter Tryz.func48,Tryz.ntmps48
  go_wp2
  go_ret
  simp
 go_enter Tryz.func14,Tryz.ntmps14
 go_wp2_with (go_at_call 48;refine HS.out.mono ?_;rintro e w1 ⟨rfl,rfl⟩)
 go_ret
 exact⟨rfl,rfl⟩
end Go.Proofs.YtjefgmeejhakbabGreatDoor
namespace Go.Proofs.YtjefgmeejhakbabGreatDoor
open Go.RowKit
structure SesB (w:World) (S mb d Pb bb:Nat) (G:Nat→Prop) (st:Ses) (out:List UInt8) (W:World):Prop where
 ex:∃ b L dv v,SesAt w.heap.size W S mb d b L dv st∧BuiAt W w.heap.size bb v out∧(∀ g,oS S mb b d L dv g→¬ bOwn bb v g∧g≠Pb∧¬ G g)∧(∀ g,bOwn bb v g→g≠Pb∧¬ G g)
 box:W.heap[Pb]?=some (.cells #[.pointer (some ⟨S,0,none⟩)] 36 (0,0))
 low:Below w.heap.size w W
 gb:∀ g,G g→w.heap.size≤g∧g<W.heap.size∧g≠Pb
 pb:w.heap.size≤Pb
section
variable {w W C:World} {S mb d Pb bb:Nat} {G:Nat→Prop} {st st':Ses} {out:List UInt8}
theorem Turns.low {k:Nat} (h:Turns G W C) (hG:∀ g,G g→k≤g) (hk:k≤W.heap.size):Below k W C:=⟨h.os,h.tape,h.output,h.size,fun g hg=>h.block g (by omega) (fun e=>by have:=hG g e;omega)⟩
theorem SesB.plt (h:SesB w S mb d Pb bb G st out W):Pb<W.heap.size:=(Array.getElem?_eq_some_iff.1 h.box).1
theorem SesB.turn (h:SesB w S mb d Pb bb G st out W) (ht:Turns G W C):SesB w S mb d Pb bb G st out C:=by
 obtain⟨b,L,dv,v,hs,hb,h1,h2⟩:=h.ex
 have hlow:=ht.low (fun g hg=>(h.gb g hg).1) h.low.size
 refine⟨⟨b,L,dv,v,hs.same ht.size (fun g hg=>ht.block g (hs.own_lt hg) (h1 g hg).2.2) (hs.lib.below hlow hs.room),hb.same (fun g hg=>ht.block g (hb.own_lt hg).2 (h2 g hg).2),h1,h2⟩,(ht.block Pb h.plt (fun e=>(h.gb Pb e).2.2 rfl)).trans h.box,h.low.trans hlow,fun g hg=>⟨(h.gb g hg).1,Nat.lt_of_lt_of_le (h.gb g hg).2.1 ht.size,(h.gb g hg).2.2⟩,h.pb⟩
theorem ans_B (h:SesB w S mb d Pb bb G st out W) {line t:List UInt8} (ha:Answers line st t st'):Calls Tryz.prog 17 #[.pointer (some ⟨S,0,none⟩),txt line] W fun e W'=>e=.returned (txt t)∧SesB w S mb d Pb bb G st' out W'∧W.heap.size≤W'.heap.size∧∀ g,G g→W'.heap[g]?=W.heap[g]?:=by
 obtain⟨b,L,dv,v,hs,hb,h1,h2⟩:=h.ex
 refine (ha _ _ _ _ _ _ _ _ hs).mono ?_
 rintro e W' ⟨rfl,b',L',dv',hs',hK⟩
 have hlow:=kept_low hK hs.low hs.le
 have hG:∀ g,G g→W'.heap[g]?=W.heap[g]?:=fun g hg=>hK.block g (h.gb g hg).2.1 (fun e=>(h1 g e).2.2 hg)
 refine⟨rfl,⟨⟨b',L',dv',v,hs',hb.same (fun g hg=>hK.block g (hb.own_lt hg).2 (fun e=>(h1 g e).1 hg)),fun g hg=>?_,h2⟩,(hK.block Pb h.plt (fun e=>(h1 Pb e).2.1 rfl)).trans h.box,h.low.trans hlow,fun g hg=>⟨(h.gb g hg).1,Nat.lt_of_lt_of_le (h.gb g hg).2.1 hK.size,(h.gb g hg).2.2⟩,h.pb⟩,hK.size,hG⟩
 rcases hK.sub g hg with h3 | h3
 ·exact h1 g h3
 ·exact⟨fun e=>by have:=(hb.own_lt e).2;omega,fun e=>by have:=h.plt;omega,fun e=>by have:=(h.gb g e).2.1;omega⟩
theorem write_B (h:SesB w S mb d Pb bb G st out W) (s:List UInt8) (hlen:out.length+s.length≤140737488355328):Calls Tryz.prog 16 #[.pointer (some ⟨bb,0,none⟩),txt s] W fun e W'=>e=.returned (.tuple #[.int .i64 s.length,.nilIface])∧SesB w S mb d Pb bb G st (out++s) W'∧W.heap.size≤W'.heap.size∧∀ g,G g→W'.heap[g]?=W.heap[g]?:=by
 obtain⟨b,L,dv,v,hs,hb,h1,h2⟩:=h.ex
 refine (writeString_any hb s hlen h.low.size).mono ?_
 rintro e W' ⟨rfl,v',hb',hK⟩
 have hlow:Below w.heap.size W W':=kept_low hK (fun g hg=>(hb.own_lt hg).1) h.low.size
 have hG:∀ g,G g→W'.heap[g]?=W.heap[g]?:=fun g hg=>hK.block g (h.gb g hg).2.1 (fun e=>(h2 g e).2 hg)
 refine⟨rfl,⟨⟨b,L,dv,v',hs.same hK.size (fun g hg=>hK.block g (hs.own_lt hg) (h1 g hg).1) (hs.lib.below hlow hs.room),hb',fun g hg=>⟨fun e=>?_,(h1 g hg).2⟩,fun g hg=>?_⟩,(hK.block Pb h.plt (fun e=>(h2 Pb e).1 rfl)).trans h.box,h.low.trans hlow,fun g hg=>⟨(h.gb g hg).1,Nat.lt_of_lt_of_le (h.gb g hg).2.1 hK.size,(h.gb g hg).2.2⟩,h.pb⟩,hK.size,hG⟩
 ·rcases hK.sub g e with h3 | h3
  ·exact (h1 g hg).1 h3
  ·have:=hs.own_lt hg;omega
 ·rcases hK.sub g hg with h3 | h3
  ·exact h2 g h3
  ·exact⟨fun e=>by have:=h.plt;omega,fun e=>by have:=(h.gb g e).2.1;omega⟩
theorem SesB.cell (h:SesB w S mb d Pb bb G st out W):W.cell? ⟨Pb,0,none⟩=some (.pointer (some ⟨S,0,none⟩)):=(cell_of_row W Pb 0 _ 36 (0,0) h.box).trans rfl
theorem SesB.widen {G':Nat→Prop} (h:SesB w S mb d Pb bb G st out W) (hB:Below W.heap.size W C) (hG:∀ g,G' g→G g∨(W.heap.size≤g∧g<C.heap.size)):SesB w S mb d Pb bb G' st out C:=by
 obtain⟨b,L,dv,v,hs,hb,h1,h2⟩:=h.ex
 have hz:=h.low.size
 have hz2:=hB.size
 have hp:=h.plt
 refine⟨⟨b,L,dv,v,hs.below hB,hb.same (fun g hg=>hB.block g (hb.own_lt hg).2),fun g hg=>⟨(h1 g hg).1,(h1 g hg).2.1,fun e=>?_⟩,fun g hg=>⟨(h2 g hg).1,fun e=>?_⟩⟩,(hB.block Pb h.plt).trans h.box,h.low.trans (hB.mono hz),fun g hg=>?_,h.pb⟩
 ·rcases hG g e with h3 | h3
  ·exact (h1 g hg).2.2 h3
  ·have:=hs.own_lt hg;omega
 ·rcases hG g e with h3 | h3
  ·exact (h2 g hg).2 h3
  ·have:=(hb.own_lt hg).2;omega
 ·rcases hG g hg with h3 | h3
  ·have:=h.gb g h3
   exact⟨this.1,by omega,this.2.2⟩
  ·exact⟨by omega,h3.2,by omega⟩
theorem sesB0 {w w1 W0:World} {mb b:Nat} {L:EnL} {s:List UInt8} (hS:SesAt w.heap.size w1 (w.heap.size+1) mb w.heap.size b L dv0 ses0) (hB:Below w.heap.size w w1)
  (hW:((((w1.alloc (.cells #[.pointer (some ⟨w.heap.size+1,0,none⟩)] 36)).alloc (.cells #[.pointer none,.slice none 0 0] 41)).alloc (.cells #[txt s] 9)).alloc (.cells #[txt [10]] 9)).alloc (.cells #[.int .i64 0] 3)=W0) (hG:∀ g,G g→w1.heap.size+2≤g∧g<w1.heap.size+5) :
  SesB w (w.heap.size+1) mb w.heap.size w1.heap.size (w1.heap.size+1) G ses0 [] W0∧W0.heap.size=w1.heap.size+5∧W0.heap[w1.heap.size+2]?=some (.cells #[txt s] 9 (0,0))∧W0.heap[w1.heap.size+3]?=some (.cells #[txt [10]] 9 (0,0))∧W0.heap[w1.heap.size+4]?=some (.cells #[.int .i64 0] 3 (0,0)):=by
 have hz:W0.heap.size=w1.heap.size+5:=by rw [← hW];simp
 have hB1:Below w1.heap.size w1 W0:=by
  rw [← hW]
  exact (((((Below.refl _ w1).alloc (Nat.le_refl _) _).alloc (by simp) _).alloc (by simp;omega) _).alloc (by simp;omega) _).alloc (by simp;omega) _
 have hs1:=hB.size
 have g0:W0.heap[w1.heap.size]?=some (.cells #[.pointer (some ⟨w.heap.size+1,0,none⟩)] 36 (0,0)):=by
  rw [← hW,Below.heap_alloc _ _ _ (by simp<;>omega),Below.heap_alloc _ _ _ (by simp<;>omega),Below.heap_alloc _ _ _ (by simp<;>omega),Below.heap_alloc _ _ _ (by simp<;>omega)]
  exact heap_alloc_new w1 _
 have g1:W0.heap[w1.heap.size+1]?=some (.cells #[.pointer none,.slice none 0 0] 41 (0,0)):=by
  rw [← hW,Below.heap_alloc _ _ _ (by simp<;>omega),Below.heap_alloc _ _ _ (by simp<;>omega),Below.heap_alloc _ _ _ (by simp<;>omega)]
  have:=heap_alloc_new (w1.alloc (.cells #[.pointer (some ⟨w.heap.size+1,0,none⟩)] 36)) (.cells #[.pointer none,.slice none 0 0] 41)
  rwa [World.size_alloc] at this
 have g2:W0.heap[w1.heap.size+2]?=some (.cells #[txt s] 9 (0,0)):=by
  rw [← hW,Below.heap_alloc _ _ _ (by simp<;>omega),Below.heap_alloc _ _ _ (by simp<;>omega)]
  have:=heap_alloc_new ((w1.alloc (.cells #[.pointer (some ⟨w.heap.size+1,0,none⟩)] 36)).alloc (.cells #[.pointer none,.slice none 0 0] 41)) (.cells #[txt s] 9)
  rwa [World.size_alloc,World.size_alloc] at this
 have g3:W0.heap[w1.heap.size+3]?=some (.cells #[txt [10]] 9 (0,0)):=by
  rw [← hW,Below.heap_alloc _ _ _ (by simp<;>omega)]
  have:=heap_alloc_new (((w1.alloc (.cells #[.pointer (some ⟨w.heap.size+1,0,none⟩)] 36)).alloc (.cells #[.pointer none,.slice none 0 0] 41)).alloc (.cells #[txt s] 9)) (.cells #[txt [10]] 9)
  rwa [World.size_alloc,World.size_alloc,World.size_alloc] at this
 have g4:W0.heap[w1.heap.size+4]?=some (.cells #[.int .i64 0] 3 (0,0)):=by
  rw [← hW]
  have:=heap_alloc_new ((((w1.alloc (.cells #[.pointer (some ⟨w.heap.size+1,0,none⟩)] 36)).alloc (.cells #[.pointer none,.slice none 0 0] 41)).alloc (.cells #[txt s] 9)).alloc (.cells #[txt [10]] 9)) (.cells #[.int .i64 0] 3)
  rwa [World.size_alloc,World.size_alloc,World.size_alloc,World.size_alloc] at this
 refine⟨⟨⟨b,L,dv0,.slice none 0 0,hS.below hB1,⟨by omega,⟨_,.inl rfl,g1⟩,World.ownsRow_nil _ _ _ _,by simp [Value.ownBlock]⟩,fun g hg=>?_,fun g hg=>?_⟩,g0,hB.trans (hB1.mono hs1),fun g hg=>?_,hs1⟩,hz,g2,g3,g4⟩
 ·have:=hS.own_lt hg
  refine⟨fun e=>?_,by omega,fun e=>by have:=hG g e;omega⟩
  rcases e with e | e
  ·omega
  ·simp [Value.ownBlock] at e
 ·rcases hg with e | e
  ·exact⟨by omega,fun e'=>by have:=hG g e';omega⟩
  ·simp [Value.ownBlock] at e
 ·have:=hG g hg
  exact⟨by omega,by omega,by omega⟩
end
end Go.Proofs.YtjefgmeejhakbabGreatDoor
namespace Go.Proofs.YtjefgmeejhakbabGreatDoor
open Go.RowKit Go.Shelf
attribute [local go_sem] Oper.semAt_some
theorem string_any {W:World} {B b D:Nat} {v:Value} {l:List UInt8} {o:Option (List Deferred)} (h:BuiAt W B b v l) (hB:B≤W.heap.size) (hD:W.heap[D]?=some (.deferred o)) (hne:D≠b):Calls Tryz.prog 18 #[.pointer (some ⟨b,0,none⟩)] W fun e w'=>e=.returned (txt l)∧Below B W w'∧w'.heap[D]?=some (.deferred o):=by
 refine (Any.Builder_String_any_k Tryz.lays169 Tryz.Builder_Extra_169 B b l W (Lib.IsBuilderF.of h.is) hB).mono ?_
 rintro e w' ⟨rfl,_,hB,hK⟩
 exact⟨rfl,hB,hK D _ hD (fun e=>hne (by injection e)) (fun c fz e=>by cases e)⟩
set_option maxRecDepth 100000 in
set_option maxHeartbeats 4000000 in
theorem session_in {w:World} (hl:LibAt w) {text:List UInt8} (ht:text.length≤20000) {sts:Nat→Ses} {ts:Nat→List UInt8} {ls:List (List UInt8)} (hls:linesP (Lib.trimSuffix text [10])=ls) (hrun:Run ls sts ts) (hn:ls.length≤4000) :
  CallsIn Fence.wide 3 Tryz.prog 7 #[txt text] w fun e w'=>e=.returned (txt (tellT ts ls.length))∧Below w.heap.size w w':=by
 have HN:=hid (newSes_any hl)
 have HT:Hid (∀ W,Calls Tryz.prog 15 #[txt text,txt [10]] W fun e w'=>e=.returned (txt (Lib.trimSuffix text [10]))∧w'=W):=hid (fun W=>Tryz.strings_TrimSuffix ⟨text.toArray⟩ ⟨#[10]⟩ W (by simp [ByteArray.size];omega))
 have HQ:=hid (fun W=>splitSeq_any (Lib.trimSuffix text [10]) [10] W)
 have f1:Fence.wide.fn 13:=trivial
 have f2:Fence.wide.fn 15:=trivial
 have f3:Fence.wide.fn 14:=trivial
 have HL:=hid hls
 have HR:=hid hrun
 have hln:=hl.room
 clear hls hrun hl
 refine callsIn_of_wp_marks Tryz.func7 rfl trivial ?_ rfl
 simp only [Tryz.ntmps7,List.size_toArray,List.length_cons,List.length_nil,Nat.reduceAdd,Nat.reduceSub,Array.replicate_succ,Array.replicate_zero,List.push_toArray,List.append_toArray,List.nil_append,List.cons_append]
 gi_wp2_with (first
  | (gi_at_call 13;refine (callsIn_wide.2 HN.out).mono ?_;rintro e w1 ⟨rfl,mb,b,L,hS,hB⟩)
  | (gi_at_call 15;refine (callsIn_wide.2 (HT.out _)).mono ?_;rintro e w2 ⟨rfl,rfl⟩)
  | (gi_at_call 14;refine (callsIn_wide.2 (HQ.out _)).mono ?_;rintro e w3 ⟨rfl,rfl⟩))
 obtain⟨W0,hW0⟩:∃ W0,((((w1.alloc (.cells #[.pointer (some ⟨w.heap.size+1,0,none⟩)] 36)).alloc (.cells #[.pointer none,.slice none 0 0] 41)).alloc (.cells #[txt (Lib.trimSuffix text [10])] 9)).alloc (.cells #[txt [10]] 9)).alloc (.cells #[.int .i64 0] 3)=W0:=⟨_,rfl⟩
 rw [hW0]
 obtain⟨_,hz0,b2,b3,b4⟩:=sesB0 (G:=fun _=>False) hS hB hW0 (fun g hg=>hg.elim)
 have htr:(Lib.trimSuffix text [10]).length≤100000:=by
  unfold Lib.trimSuffix
  split
  ·rw [List.length_take];omega
  ·omega
 have hit:=split_it 2 (by omega) htr b2 b3 b4 ⟨by omega,by omega⟩
 rw [HL.out] at hit
 refine wpIn_lines (gf:=125) (lb:=#[.pointer (some ⟨w1.heap.size+3,0,none⟩),.pointer (some ⟨w1.heap.size+2,0,none⟩),.pointer (some ⟨w1.heap.size+4,0,none⟩)]) rfl (enters_of Tryz.func125 (by kernel_rfl) rfl) hit rfl (.inl rfl) (fun g hg=>by omega)
  (fun pre W=>SesB w (w.heap.size+1) mb w.heap.size w1.heap.size (w1.heap.size+1) (fun g=>(g=w1.heap.size+2∨g=w1.heap.size+3∨g=w1.heap.size+4)∨g=W0.heap.size∨g=W0.heap.size+1) (sts pre.length) (tellT ts pre.length) W) ?turn ?start (fun x=>{ tmps:=#[txt text,undef,.string ⟨#[]⟩,.pointer (some ⟨w1.heap.size,0,none⟩),.pointer (some ⟨w1.heap.size+1,0,none⟩),txt x,txt text,.int .i64 (text.length:Int),.bool (decide ((20000:Int)<(text.length:Int))),undef,undef,undef,.pointer (some ⟨w.heap.size+1,0,none⟩),txt text,txt (Lib.trimSuffix text [10]),.func (.func 125) #[] #[.pointer (some ⟨w1.heap.size+1+1+1,0,none⟩),.pointer (some ⟨w1.heap.size+1+1,0,none⟩),.pointer (some ⟨w1.heap.size+1+1+2,0,none⟩)],txt x,undef,undef,undef,undef,undef,undef],defers:=[] }) ?assign ?body ?done
 case turn=>exact fun pre A C hA ht=>SesB.turn hA ht
 case start =>
  intro W1 hB1 hz1
  obtain⟨h1,_⟩:=sesB0 (G:=fun g=>g=w1.heap.size+2∨g=w1.heap.size+3∨g=w1.heap.size+4) hS hB hW0 (fun g hg=>by omega)
  have h2:=h1.widen (G':=fun g=>(g=w1.heap.size+2∨g=w1.heap.size+3∨g=w1.heap.size+4)∨g=W0.heap.size∨g=W0.heap.size+1) hB1 (fun g hg=>hg.imp id (fun h=>by omega))
  show SesB w _ mb _ _ _ _ (sts 0) [] W1
  rw [HR.out.zero]
  exact h2
 case assign =>
  intro l x W K hK
  gi_wp2
  exact hK
 case body =>
  intro l pre x post W hI hpx hz
  have hget:ls[pre.length]?=some x:=by rw [← hpx];simp
  have hpl:pre.length<ls.length:=(List.getElem?_eq_some_iff.1 hget).1
  obtain⟨htl,hans⟩:=HR.out.step _ _ hget
  have hlen:=tellT_len HR.out pre.length (by omega)
  have hlt:(tellT ts pre.length).length+(ts pre.length).length+1≤140737488355328:=by
   have:pre.length*10000000001≤4000*10000000001:=Nat.mul_le_mul_right _ (by omega)
   omega
  have cS:=hI.cell
  have HA:=hid (ans_B hI hans)
  have HLT:=hid hlt
  have HP:Hid ((pre++[x]).length=pre.length+1):=hid (by simp)
  have f4:Fence.wide.fn 17:=trivial
  have f5:Fence.wide.fn 16:=trivial
  clear hI hans hlen hlt hget hpl hpx htl hz0
  gi_wp2_with (first
   | (gi_at_call 17;refine (CallsIn.inRound l (callsIn_wide.2 HA.out)).mono ?_;rintro e w2 ⟨rfl,h2,z2,k2⟩)
   | (gi_at_call 16;refine (CallsIn.inRound l (callsIn_wide.2 (write_B h3 [10] (by have:=HLT.out;rw [List.length_append];simp only [List.length_cons,List.length_nil];omega)))).mono ?_;rintro e w4 ⟨rfl,h4,z4,k4⟩)
   | (gi_at_call 16;refine (CallsIn.inRound l (callsIn_wide.2 (write_B h2 (ts pre.length) (by have:=HLT.out;omega)))).mono ?_;rintro e w3 ⟨rfl,h3,z3,k3⟩))
  exact⟨h4,by omega,fun g hg=>(k4 g hg).trans ((k3 g hg).trans (k2 g hg))⟩
 case done =>
  intro W hI hD
  obtain⟨b',L',dv',v',hs',hb',d1,d2⟩:=hI.ex
  have hlow:=hI.low
  have HZ:=hid (string_any hb' hlow.size hD (fun e=>(d2 _ (.inl rfl)).2 (.inr (.inl e.symm))))
  have f6:Fence.wide.fn 18:=trivial
  clear hs' hb' d1 d2 hI
  gi_wp2_with (gi_at_call 18;refine (callsIn_wide.2 HZ.out).mono ?_;rintro e w5 ⟨rfl,hB5,hD5⟩)
  rw [hz0] at hD5
  refine⟨by simp,.inl ⟨_,_,rfl,run_takeDeferred hD5,?_⟩⟩
  refine⟨txt (tellT ts ls.length),?_,rfl,hlow.trans (hB5.trans (belowK_b (w:=w) (Nat.le_refl _) w5 _ _ _ (by have:=hB.size;omega) hD5 rfl rfl))⟩
  simp [results,Tryz.f7,go_sem]
theorem session_any {w:World} (hl:LibAt w) {text:List UInt8} (ht:text.length≤20000) {sts:Nat→Ses} {ts:Nat→List UInt8} {ls:List (List UInt8)} (hls:linesP (Lib.trimSuffix text [10])=ls) (hrun:Run ls sts ts) (hn:ls.length≤4000) :
  Calls Tryz.prog 7 #[txt text] w fun e w'=>e=.returned (txt (tellT ts ls.length))∧Below w.heap.size w w' :=
 (callsIn_wide (n:=3)).1 (session_in hl ht hls hrun hn)
end Go.Proofs.YtjefgmeejhakbabGreatDoor
namespace Go.Proofs.YtjefgmeejhakbabGreatDoor
open Go.RowKit
section
variable {n:Nat} {st:Ses}
theorem does_begin {x:Int} (hlv:x=0∨x=1∨x=2) (hl:st.E.txs.length<200) (ho:(liveOnes st.E).length<6):DoesD 35 [x] st (.told (Lib.itoa ((st.E.txs.length:Int)+1))) { st with E:={ st.E with txs:=st.E.txs++[newTx x st.E.last] } }:=by
 intro k w S mb d b L dv v hs hv _
 refine (dbegin_ok (P:=fun w1=>SPost k S mb d b L dv { st with E:={ st.E with txs:=st.E.txs++[newTx x st.E.last] } } w w1) hs.engine hv (y:=(st.E.txs.length:Int)+1) (by unfold I64;omega) (fun _ h=>h.lib) (fun q=>(begin_ok (hs.drewN q).bas.en hlv hl ho).mono (fun e w1 hh=>⟨hh.1,by
  obtain⟨_,L',_,x1,x2,x3,_⟩:=hh
  exact SPost.pre (below_drewN (Below.refl _ w) q) ((hs.drewN q).engK x1 x2 x3)⟩))).mono ?_
 rintro e w' ⟨rfl,w1,h1,hB⟩
 exact⟨rfl,h1.below hB⟩
theorem does_write {i:Nat} {t:Tx} (hf:Fits st.E) {q:Int→Nat} (hq:Ranked st.E.T q) (ht:st.E.txs[i]?=some t) (hs0:t.state=0) {key val:Int} (hk:0≤key∧key<10) (hv:-1099511627776≤val∧val≤1099511627776) {E':Eng} (hR:writeE 7 q st.E i key val=some ((true,0),E')) :
  DoesD 47 [(i:Int)+1,key,val] st (.told [119,114,105,116,101]) { st with E:=E' }:=by
 intro k w S mb d b L dv v hs hv' _
 refine (dwrite_ok (y:=true) (P:=fun w1=>SPost k S mb d b L dv { st with E:=E' } w w1) hs.engine hv' (fun _ h=>h.lib) (fun q2=>(write_main (hs.drewN q2).bas.en hf hq ht hs0 hk hv hR).mono (fun e w1 hh=>⟨hh.1,SPost.pre (below_drewN (Below.refl _ w) q2) ((hs.drewN q2).eng hh.2)⟩))).mono ?_
 rintro e w' ⟨rfl,w1,h1,hB⟩
 exact⟨rfl,h1.below hB⟩
theorem does_read {i:Nat} {t:Tx} (ht:st.E.txs[i]?=some t) (hs0:t.state=0) {key y:Int} (hkey:I64 key) (hy:t.vals key=some y) (h64:I64 y) :
  DoesD 43 [(i:Int)+1,key] st (.told ([105,115,32]++Lib.itoa y)) st:=by
 intro k w S mb d b L dv v hs hv' _
 refine (dread_ok (P:=fun w1=>SPost k S mb d b L dv st w w1) hs.engine hv' h64 (fun _ h=>h.lib) (fun q=>by
  obtain⟨l,hl,_⟩:=(hs.drewN q).bas.en.get ht
  exact (read_own (hs.drewN q).bas.en hl ht hs0 hkey hy).mono (fun e w1 hh=>⟨hh.1,by rw [hh.2];exact hs.idle (below_drewN (Below.refl _ w) q)⟩))).mono ?_
 rintro e w' ⟨rfl,w1,h1,hB⟩
 exact⟨rfl,h1.below hB⟩
theorem line_does {line word:List UInt8} {rest:List (List UInt8)} {nums:List Int} {c:Cmd} {l:List UInt8} {st':Ses} (hl:line.length≤100000) (hw:wordsP line=word::rest) (hcm:cmdOf cmds word=some c) (hc:c.many=rest.length) (hn:rest.mapM numOf=some nums) (hd:DoesD c.fn nums st (.told l) st'):Answers line st l st':=by
 intro k w S mb d b L dv hs
 obtain⟨wl,wb⟩:=words_bnd hl
 rw [hw] at wl wb
 simp only [List.length_cons] at wl
 have hwl:=wb word (by simp)
 exact ans_main hs hl hw (by omega) (by omega) hcm hc (cmds_ent (List.mem_of_find?_eq_some hcm)) (fun x hx=>by have:=wb x (by simp [hx]);omega) (.inr ⟨nums,.told l,hn,hd,fun _ e=>(by cases e),rfl⟩)
end
noncomputable def fA:Eng:={ engO 0 [] with txs:=(engO 0 []).txs++[newTx 2 (engO 0 []).last] }
noncomputable def fB:Eng:=((writeE 7 (fun _=>0) fA 0 3 7).map (·.2)).getD eng0
noncomputable def sA:Ses:={ ses0 with E:=fA }
noncomputable def sB:Ses:={ ses0 with E:=fB }
def fixL:List UInt8:=[98,101,103,105,110,32,50,10,119,114,105,116,101,32,49,32,51,32,55,10,114,101,97,100,32,49,32,51,10,120,10]
def fixT:Nat→List UInt8
 | 0=>[49]
 | 1=>[119,114,105,116,101]
 | 2=>[105,115,32,55]
 | _=>errT 3
noncomputable def fixS:Nat→Ses
 | 0=>ses0
 | 1=>sA
 | _=>sB
set_option maxRecDepth 100000
theorem fB_eq:writeE 7 (fun _=>0) fA 0 3 7=some ((true,0),fB):=rfl
theorem fix_lines:linesP (Lib.trimSuffix fixL [10])=[[98,101,103,105,110,32,50],[119,114,105,116,101,32,49,32,51,32,55],[114,101,97,100,32,49,32,51],[120]]:=by decide +kernel
theorem fix_tell:tellT fixT 4=[49,10,119,114,105,116,101,10,105,115,32,55,10,101,114,114,111,114,32,51,10]:=by decide +kernel
theorem fix_run:Run [[98,101,103,105,110,32,50],[119,114,105,116,101,32,49,32,51,32,55],[114,101,97,100,32,49,32,51],[120]] fixS fixT:=by
 refine⟨rfl,fun i l h=>?_⟩
 match i,h with
 | 0,h =>
  simp at h;subst h
  refine⟨by decide,line_does (word:=[98,101,103,105,110]) (rest:=[[50]]) (nums:=[2]) (c:=⟨[98,101,103,105,110],1,35⟩) (by decide) (by decide +kernel) (by rfl) rfl (by decide +kernel) ?_⟩
  have hd:=does_begin (st:=ses0) (x:=2) (.inr (.inr rfl)) (by decide) (by decide)
  rw [show Lib.itoa ((ses0.E.txs.length:Int)+1)=[49] by decide +kernel] at hd
  exact hd
 | 1,h =>
  simp at h;subst h
  refine⟨by decide,line_does (word:=[119,114,105,116,101]) (rest:=[[49],[51],[55]]) (nums:=[1,3,7]) (c:=⟨[119,114,105,116,101],3,47⟩) (by decide) (by decide +kernel) (by rfl) rfl (by decide +kernel) ?_⟩
  obtain⟨t,ht,hs⟩:∃ t,fA.txs[0]?=some t∧t.state=0:=⟨_,rfl,rfl⟩
  have hM:Mid 0 (lastOf []) fA.ce noQ:=(mid_engO (t:=0) (ws:=[]) (by omega) (fun p hp=>by cases hp)).begin (level:=2) (.inr (.inr rfl)) (by decide) (by decide)
  exact does_write (st:=sA) (i:=0) hM.fits (q:=fun _=>0) (fun k x h=>by cases h) ht hs (by omega) (by omega) fB_eq
 | 2,h =>
  simp at h;subst h
  refine⟨by decide,line_does (word:=[114,101,97,100]) (rest:=[[49],[51]]) (nums:=[1,3]) (c:=⟨[114,101,97,100],2,43⟩) (by decide) (by decide +kernel) (by rfl) rfl (by decide +kernel) ?_⟩
  obtain⟨t,ht,hs,hv⟩:∃ t,fB.txs[0]?=some t∧t.state=0∧t.vals 3=some 7:=⟨_,rfl,rfl,rfl⟩
  have hd:=does_read (st:=sB) (i:=0) ht hs (by unfold I64;omega) hv (by unfold I64;omega)
  rw [show [105,115,32]++Lib.itoa 7=[105,115,32,55] by decide +kernel] at hd
  exact hd
 | 3,h =>
  simp at h;subst h
  refine⟨by decide +kernel,fun k w S mb d b L dv hs=>ans_form hs (word:=[120]) (rest:=[]) (by decide) (by decide +kernel) (by decide) (by decide) (by decide +kernel)⟩
 | (i+4),h=>simp at h
end Go.Proofs.YtjefgmeejhakbabGreatDoor
namespace Go.Proofs.YtjefgmeejhakbabGreatDoor
open Go.RowKit
theorem trim_snoc (x:List UInt8) (c:UInt8):Lib.trimSuffix (x++[c]) [10]=if c=10 then x else x++[c]:=by
 unfold Lib.trimSuffix Lib.hasSuffix
 by_cases e:c=10
 ·subst e
  simp
 ·simp [e]
  exact fun h=>e h.symm
theorem trim_nl (a:List UInt8):Lib.trimSuffix (a++[10]) [10]=a:=by rw [trim_snoc,if_pos rfl]
theorem lines_two (a b:List UInt8):∃ l2,linesP (Lib.trimSuffix (a++[10]++b) [10])=linesP a++l2:=by
 rcases List.eq_nil_or_concat b with rfl | ⟨b',c,rfl⟩
 ·exact⟨[],by rw [List.append_nil,trim_nl,List.append_nil]⟩
 ·rw [List.concat_eq_append,← List.append_assoc,trim_snoc]
  by_cases e:c=10
  ·rw [if_pos e]
   exact⟨linesP b',by rw [List.append_assoc];exact linesP_cat a b'⟩
  ·rw [if_neg e]
   exact⟨linesP (b'++[c]),by rw [List.append_assoc,List.append_assoc];exact linesP_cat a (b'++[c])⟩
theorem trim_len (x p:List UInt8):(Lib.trimSuffix x p).length≤x.length:=by
 unfold Lib.trimSuffix
 split
 ·rw [List.length_take];omega
 ·exact Nat.le_refl _
theorem two_runs (a b:List UInt8) (hx:a.length+b.length≤2000):∃ sts ts m,Run (linesP a) sts ts∧∀ W,LibAt W→Calls Tryz.prog 7 #[txt (a++[10]++b)] W fun e w'=>e=.returned (txt (tellT ts ((linesP a).length+m)))∧Below W.heap.size W w':=by
 obtain⟨l2,h2⟩:=lines_two a b
 have hlen:(a++[10]++b).length≤2001:=by simp;omega
 have ht:=trim_len (a++[10]++b) [10]
 obtain⟨k1,k2⟩:=linesP_len (Lib.trimSuffix (a++[10]++b) [10])
 rw [h2] at k1 k2
 obtain⟨sts,ts,hr⟩:=run_ex (linesP a++l2) (by omega) (fun l hl=>by have:=k2 l hl;omega)
 refine⟨sts,ts,l2.length,hr.pre,fun W hW=>?_⟩
 rw [← List.length_append]
 exact session_any hW (by omega) h2 hr (by omega)
set_option maxRecDepth 100000 in
set_option maxHeartbeats 4000000 in
theorem pieces_any {w:World} (hl:LibAt w) (a b:List UInt8) (ha:a.length≤1000000000000000) (hb:b.length≤1000000000000000):Calls Tryz.prog 3 #[txt a,txt b] w fun e w'=>e=.returned (.bool true)∧Below w.heap.size w w':=by
 by_cases hx:2000<a.length+b.length
 ·have hx':(2000:Int)<(a.length:Int)+(b.length:Int):=by omega
  go_enter Tryz.func3,Tryz.ntmps3
  go_wp2
  go_ret
  exact⟨rfl,Below.refl _ _⟩
 ·have hx':¬ (2000:Int)<(a.length:Int)+(b.length:Int):=by omega
  have h1:=session_any hl (text:=fixL) (by decide) fix_lines fix_run (by decide)
  simp only [List.length_cons,List.length_nil] at h1
  rw [fix_tell] at h1
  have H1:Hid (Calls Tryz.prog 7 #[txt [98,101,103,105,110,32,50,10,119,114,105,116,101,32,49,32,51,32,55,10,114,101,97,100,32,49,32,51,10,120,10]] w fun e w'=>e=.returned (txt [49,10,119,114,105,116,101,10,105,115,32,55,10,101,114,114,111,114,32,51,10])∧Below w.heap.size w w'):=hid h1
  obtain⟨sts,ts,m,hrun,hY⟩:=two_runs a b (by omega)
  have HX:Hid (∀ (W:World),LibAt W→Calls Tryz.prog 7 #[.string ((⟨a.toArray⟩:ByteArray)++⟨#[10]⟩)] W fun e w'=>e=.returned (txt (tellT ts (linesP a).length))∧Below W.heap.size W w'):=hid (fun (W:World) (hW:LibAt W)=>by
   rw [ba_app a [10]]
   exact session_any hW (text:=a++[10]) (by rw [List.length_append];simp only [List.length_cons,List.length_nil];omega) (by rw [trim_nl]) hrun (by have:=(linesP_len a).1;omega))
  have HY:Hid (∀ (W:World),LibAt W→Calls Tryz.prog 7 #[.string ((⟨a.toArray⟩:ByteArray)++⟨#[10]⟩++⟨b.toArray⟩)] W fun e w'=>e=.returned (txt (tellT ts ((linesP a).length+m)))∧Below W.heap.size W w'):=hid (fun (W:World) (hW:LibAt W)=>by
   rw [ba_app a [10],ba_app (a++[10]) b]
   exact hY W hW)
  obtain⟨r,hr⟩:=tellT_pre ts (linesP a).length m
  rw [hr] at HY
  have HL:=hid hl
  have hrm:=hl.room
  generalize tellT ts (linesP a).length=x at HX HY
  clear hY hrun hr h1 hl
  go_enter Tryz.func3,Tryz.ntmps3
  go_wp2_with (first
   | (go_at_call 7;with_reducible refine H1.out.mono ?_;rintro e w1 ⟨rfl,hB1⟩)
   | (go_at_call 7;with_reducible refine (HX.out w1 (HL.out.below hB1 hrm)).mono ?_;rintro e w2 ⟨rfl,hB2⟩)
   | (go_at_call 7;with_reducible refine (HY.out w2 ((HL.out.below hB1 hrm).below hB2 (Nat.le_trans hrm hB1.size))).mono ?_;rintro e w3 ⟨rfl,hB3⟩))
  go_ret
  have ht:((⟨(x++r).toArray⟩:ByteArray).extract 0 x.length).toList==x:=by
   rw [ext_take,List.take_left]
   simp
  exact⟨by rw [ht];rfl,hB1.trans ((hB2.mono hB1.size).trans (hB3.mono (Nat.le_trans hB1.size hB2.size)))⟩
end Go.Proofs.YtjefgmeejhakbabGreatDoor
