/- RowBase DkGround EnSmall EnAhead EnTight EnMem AnyInv EnPlain EnFind OrPlain: put together for a claim. -/
import Derived.Test.YtjefgmeejhakbabGreatDoorCards
import Derived.Test.YtjefgmeejhakbabGreatDoorTie
import Derived.Test.YtjefgmeejhakbabGreatDoorMgAB
import Derived.ProofKit
import Derived.OpenShut
import Derived.Carry
import Derived.Deep.Slices
import Derived.Deep.SlicePairs
import Derived.Deep.DeepHandedRow
import Derived.LaidLaws
import Derived.LaidHandle
import Derived.Test.YtjefgmeejhakbabGreatDoorDkShelf
import Derived.Laws.AppendOwnNone
import Derived.Test.YtjefgmeejhakbabGreatDoorMgAI
import Derived.Test.YtjefgmeejhakbabGreatDoorEkDrop
import Derived.Deep.RegionHeld3
import Derived.Deep.Draws
import Derived.BigQuiet
namespace Go.Proofs.YtjefgmeejhakbabGreatDoor
open Go.ChangeShapes Go.WideShapes Go.ChangeAt Go.RowKit
theorem tryd_own:ownKnob Tryz.prog.godebug=none:=by kernel_rfl
theorem tryd_et:Tryz.prog.globalNamed "errors.errorType"=some 0:=by kernel_rfl
theorem tryd_rt:(Tryz.prog.cutTypes.find? (·.1== "internal/reflectlite.rtype")).map (·.2)=some 310:=by kernel_rfl
theorem tryd_oneRow:((List.range 470).filter fun t=>Tryz.prog.rowNamed t [101,114,114,111,114])=[27]:=by kernel_rfl
theorem tryd_size:Tryz.prog.types.size=470:=by kernel_rfl
theorem handle_of_laid {W:World} (h:laidMetH Tryz.prog [("errors.errorType",Rows.laid_errors_errorType)] W):Handle W:=by
 have h':laidMet Tryz.prog [] W∧handlesMet Tryz.prog [("errors.errorType",Rows.laid_errors_errorType)] W:=h
 obtain⟨name,u,ty,e1,e2,e3,e4,e5⟩:=h'.2 _ (List.mem_singleton.2 rfl)
 have en:name=[101,114,114,111,114]:=(Option.some.inj e1).symm
 subst en
 obtain rfl:=Option.some.inj (tryd_rt.symm.trans e2)
 have hm:ty∈(List.range 470).filter fun t=>Tryz.prog.rowNamed t [101,114,114,111,114]:=List.mem_filter.2 ⟨List.mem_range.2 (by rw [← tryd_size];exact e3),e4⟩
 rw [tryd_oneRow] at hm
 obtain rfl:=List.mem_singleton.1 hm
 have hh:typeHandle Tryz.prog 27=.pointer (some ⟨9,27,none⟩):=by kernel_rfl
 rw [hh] at e5
 simpa [Handle] using World.var?_cell tryd_et e5 0
end Go.Proofs.YtjefgmeejhakbabGreatDoor
namespace Go.Proofs.YtjefgmeejhakbabGreatDoor
open Go.RowKit
theorem varBelow {P:Program} {B g:Nat} {W W':World} {n:String} {cs:Array Value} (h:Below B W W') (hg:P.globalNamed n=some g) (hgB:g<B) (hv:W.var? P n=some cs):W'.var? P n=some cs:=by
 unfold World.var? at hv ⊢
 simp only [hg,Option.bind_some] at hv ⊢
 rw [h.block g hgB]
 exact hv
structure LibAt (w:World):Prop where
 hand:Handle w
 tab:Lib.TabIs Tryz.prog w "internal/strconv.uint64pow10" .u64 Lib.pow10Tab
 syn:∃ tp p,w.var? Tryz.prog "strconv.ErrSyntax"=some #[.iface tp p]
 rng:∃ tp p,w.var? Tryz.prog "strconv.ErrRange"=some #[.iface tp p]
 room:9≤w.heap.size
theorem LibAt.below {w w':World} {B:Nat} (h:LibAt w) (hB:Below B w w') (hp:9≤B):LibAt w':=by
 refine⟨h.hand.below hB (by omega),varBelow hB (g:=6) (by kernel_rfl) (by omega) h.tab,?_,?_,Nat.le_trans h.room hB.size⟩
 ·obtain⟨tp,p,hv⟩:=h.syn
  exact⟨tp,p,varBelow hB (g:=4) (by kernel_rfl) (by omega) hv⟩
 ·obtain⟨tp,p,hv⟩:=h.rng
  exact⟨tp,p,varBelow hB (g:=5) (by kernel_rfl) (by omega) hv⟩
theorem LibAt.drewN {w:World} (h:LibAt w) (q:Nat):LibAt (w.drewN q):=h.below (below_drewN (Below.refl _ w) q) h.room
abbrev txt (l:List UInt8):Value:=.string ⟨l.toArray⟩
theorem below_grow (w:World) (os:Array Obj) (k:Nat):Below w.heap.size w (Go.Sort.grow (w.drewN k) os) :=
 ⟨rfl,rfl,rfl,by simp [Go.Sort.grow,World.drewN],fun j hj=>by simp [Go.Sort.grow,World.drewN,Array.getElem?_append,hj]⟩
theorem itoa_any {w:World} (hg:LibAt w) {n:Int} (hn:I64 n):Calls Tryz.prog 31 #[.int .i64 n] w fun e w'=>e=.returned (txt (Lib.itoa n))∧Below w.heap.size w w':=by
 refine (Tryz.strconv_Itoa n hn.1 hn.2 w hg.tab).mono ?_
 rintro e w' ⟨rfl,k,os,rfl⟩
 exact⟨rfl,below_grow w os k⟩
theorem nDigits_le:∀ (k u:Nat),u<10 ^ (k+1)→Lib.nDigits u≤k+1
 | 0,u,h=>by rw [Lib.nDigits_small (by simpa using h)];omega
 | k+1,u,h=>by
  by_cases h1:u<10
  ·rw [Lib.nDigits_small h1];omega
  ·rw [Lib.nDigits_big h1]
   have h2:u / 10<10 ^ (k+1):=by
    rw [Nat.pow_succ] at h
    exact Nat.div_lt_of_lt_mul (by omega)
   have:=nDigits_le k (u / 10) h2
   omega
theorem itoa_len {n:Int} (h:I64 n):(Lib.itoa n).length≤21:=by
 unfold I64 at h
 unfold Lib.itoa
 split
 ·rw [List.length_cons,Lib.decDigits_length]
  have:=nDigits_le 19 n.natAbs (by omega)
  omega
 ·rw [Lib.decDigits_length]
  have:=nDigits_le 19 n.toNat (by omega)
  omega
theorem join_len (sep:List UInt8) (b:Nat):∀ (xs:List (List UInt8)),(∀ x∈xs,x.length≤b)→(Lib.join xs sep).length≤(b+sep.length)*xs.length
 | [],_=>by simp [Lib.join]
 | x::r,h=>by
  rw [Lib.join_cons,List.length_append,Lib.joinTail_length,List.length_cons]
  have h1:=h x (List.mem_cons_self ..)
  have h2:∀ (l:List (List UInt8)),(∀ y∈l,y.length≤b)→Lib.lens l≤b*l.length:=by
   intro l
   induction l with
   | nil=>intro _;simp [Lib.lens]
   | cons y l ih =>
    intro hy
    have a1:=hy y (List.mem_cons_self ..)
    have a2:=ih (fun z hz=>hy z (List.mem_cons_of_mem _ hz))
    simp only [Lib.lens,List.map_cons,List.sum_cons,List.length_cons,Nat.mul_add] at *
    omega
  have h3:=h2 r (fun y hy=>h y (List.mem_cons_of_mem _ hy))
  rw [Nat.add_mul,Nat.mul_add,Nat.mul_add]
  omega
def numsT (l:List Int):List UInt8:=Lib.join (l.map Lib.itoa) [32]
end Go.Proofs.YtjefgmeejhakbabGreatDoor
namespace Go.Proofs.YtjefgmeejhakbabGreatDoor
open Go.RowKit
def liveB (st:Int):Bool:=st==0||st==1
set_option maxRecDepth 100000 in
set_option maxHeartbeats 400000 in
theorem lives_any (b:Nat) (st:Int) (w:World) (h:w.cell? ⟨b,3,none⟩=some (.int .i64 st)) :
  Calls Tryz.prog 170 #[.pointer (some ⟨b,0,none⟩)] w fun e w'=>e=.returned (.bool (liveB st))∧w'=w:=by
 unfold liveB
 by_cases h0:st=0
 ·subst h0
  go_enter Tryz.func170,Tryz.ntmps170
  go_wp2
  go_ret
  exact⟨rfl,rfl⟩
 ·have e0:(st==0)=false:=by simpa using h0
  rw [e0]
  clear h0
  go_enter Tryz.func170,Tryz.ntmps170
  go_wp2
  go_ret
  exact⟨rfl,rfl⟩
def ISet (w:World) (b n:Nat) (s:Int→Bool):Prop:=IMap w b n (fun a=>if s a=true then some (.agg #[]) else none)
theorem ISet.len {w:World} {b n:Nat} {s:Int→Bool} (h:ISet w b n s):∃ k:Nat,k≤n∧(∀ ty,(Builtin.len_ #[257] ty #[.map (some b)]).run Tryz.prog w=.ok (.int .i64 k) w)∧(k=0↔∀ a,s a=false):=by
 obtain⟨k,h1,h2,h3⟩:=IMap.len h Tryz.underlying257
 refine⟨k,h1,h2,h3.trans ⟨fun e a=>?_,fun e a=>by rw [e a];rfl⟩⟩
 have:=e a
 cases hs:s a with
 | false=>rfl
 | true=>rw [hs] at this;cases this
def Between (sa sb:Int→Bool):Prop:=(∃ x,sa x=true)∧∃ x,sb x=true
noncomputable def betB (sa sb:Int→Bool):Bool:=@decide (Between sa sb) (Classical.propDecidable _)
theorem betB_true {sa sb:Int→Bool}:betB sa sb=true↔Between sa sb:=by unfold betB;exact @decide_eq_true_iff _ (Classical.propDecidable _)
theorem betB_false {sa sb:Int→Bool} (h:¬ Between sa sb):betB sa sb=false:=by
 cases hb:betB sa sb with
 | false=>rfl
 | true=>exact (h (betB_true.1 hb)).elim
theorem none_or (s:Int→Bool):(∃ x,s x=true)∨∀ x,s x=false:=by
 rcases Classical.em (∃ x,s x=true) with h | h
 ·exact .inl h
 ·exact .inr (fun x=>by cases hx:s x with | false=>rfl | true=>exact (h ⟨x,hx⟩).elim)
set_option maxRecDepth 100000 in
set_option maxHeartbeats 400000 in
theorem between_any (b ab hb na nb:Nat) (sa sb:Int→Bool) (w:World) (ha:w.cell? ⟨b,20,none⟩=some (.map (some ab))) (hh:w.cell? ⟨b,21,none⟩=some (.map (some hb))) (hA:ISet w ab na sa) (hB:ISet w hb nb sb) :
  Calls Tryz.prog 230 #[.pointer (some ⟨b,0,none⟩)] w fun e w'=>e=.returned (.bool (betB sa sb))∧w'=w:=by
 obtain⟨ka,_,la,za⟩:=hA.len
 obtain⟨kb,_,lb,zb⟩:=hB.len
 have HZ:=hid (And.intro za zb)
 clear za zb hA hB
 have hpos:∀ {k:Nat} {s:Int→Bool},(k=0↔∀ a,s a=false)→(k≠0↔∃ x,s x=true):=fun {k s} h=>by
  constructor
  ·intro hk
   rcases none_or s with e | e
   ·exact e
   ·exact (hk (h.2 e)).elim
  ·rintro⟨x,hx⟩ hk
   rw [h.1 hk x] at hx
   cases hx
 have HP:=hid (And.intro (hpos HZ.out.1) (hpos HZ.out.2))
 clear hpos
 by_cases h1:ka=0
 ·have e1:¬ (0:Int)<(ka:Int):=by omega
  rw [betB_false (show ¬ Between sa sb from fun h=>(HP.out.1.2 h.1) h1)]
  clear h1
  go_enter Tryz.func230,Tryz.ntmps230
  go_wp2
  go_ret
  exact⟨rfl,rfl⟩
 ·have e1:(0:Int)<(ka:Int):=by omega
  by_cases h2:kb=0
  ·have hd:decide (0<kb)=false:=by rw [h2];rfl
   rw [betB_false (show ¬ Between sa sb from fun h=>(HP.out.2.2 h.2) h2)]
   clear h1 h2
   go_enter Tryz.func230,Tryz.ntmps230
   go_wp2
   go_ret
   exact⟨rfl,rfl⟩
  ·have hd:decide (0<kb)=true:=by simp;omega
   rw [betB_true.2 ⟨HP.out.1.1 h1,HP.out.2.1 h2⟩]
   clear h1 h2
   go_enter Tryz.func230,Tryz.ntmps230
   go_wp2
   go_ret
   exact⟨rfl,rfl⟩
noncomputable def stuckB (st:Int) (sa sb:Int→Bool):Bool:=st==2&&betB sa sb
set_option maxRecDepth 100000 in
set_option maxHeartbeats 400000 in
theorem stuck_any (b ab hb na nb:Nat) (st:Int) (sa sb:Int→Bool) (w:World) (hs:w.cell? ⟨b,3,none⟩=some (.int .i64 st)) (ha:w.cell? ⟨b,20,none⟩=some (.map (some ab))) (hh:w.cell? ⟨b,21,none⟩=some (.map (some hb))) (hA:ISet w ab na sa) (hB:ISet w hb nb sb) :
  Calls Tryz.prog 312 #[.pointer (some ⟨b,0,none⟩)] w fun e w'=>e=.returned (.bool (stuckB st sa sb))∧w'=w:=by
 have HC:=hid (between_any b ab hb na nb sa sb w ha hh hA hB)
 clear ha hh hA hB
 unfold stuckB
 by_cases h2:st=2
 ·subst h2
  go_enter Tryz.func312,Tryz.ntmps312
  go_wp2_with fail
  refine HC.out.mono ?_
  rintro e w1 ⟨rfl,rfl⟩
  go_wp2
  go_ret
  exact⟨by simp,rfl⟩
 ·have e2:(st==2)=false:=by simpa using h2
  rw [e2]
  clear h2
  go_enter Tryz.func312,Tryz.ntmps312
  go_wp2
  go_ret
  exact⟨rfl,rfl⟩
end Go.Proofs.YtjefgmeejhakbabGreatDoor
namespace Go.Proofs.YtjefgmeejhakbabGreatDoor
open Go.RowKit
def TxC (w:World) (b:Nat) (num st:Int) (ab hb:Nat):Prop :=
 ∃ cs,w.heap[b]?=some (.cells cs 259 (0,0))∧cs[0]?=some (.int .i64 num)∧cs[3]?=some (.int .i64 st)∧cs[20]?=some (.map (some ab))∧cs[21]?=some (.map (some hb))
section
variable {w w':World} {b ab hb:Nat} {num st:Int}
theorem TxC.c0 (h:TxC w b num st ab hb):w.cell? ⟨b,0,none⟩=some (.int .i64 num):=by obtain⟨cs,h1,h2,_⟩:=h;exact (cell_of_row w b 0 _ _ (0,0) h1).trans h2
theorem TxC.c3 (h:TxC w b num st ab hb):w.cell? ⟨b,3,none⟩=some (.int .i64 st):=by obtain⟨cs,h1,_,h2,_⟩:=h;exact (cell_of_row w b 3 _ _ (0,0) h1).trans h2
theorem TxC.c20 (h:TxC w b num st ab hb):w.cell? ⟨b,20,none⟩=some (.map (some ab)):=by obtain⟨cs,h1,_,_,h2,_⟩:=h;exact (cell_of_row w b 20 _ _ (0,0) h1).trans h2
theorem TxC.c21 (h:TxC w b num st ab hb):w.cell? ⟨b,21,none⟩=some (.map (some hb)):=by obtain⟨cs,h1,_,_,_,h2⟩:=h;exact (cell_of_row w b 21 _ _ (0,0) h1).trans h2
theorem TxC.same (h:TxC w b num st ab hb) (hs:w'.heap[b]?=w.heap[b]?):TxC w' b num st ab hb:=by obtain⟨cs,h1,r⟩:=h;exact⟨cs,hs.trans h1,r⟩
theorem TxC.lt (h:TxC w b num st ab hb):b<w.heap.size:=by obtain⟨cs,h1,_⟩:=h;exact (Array.getElem?_eq_some_iff.1 h1).1
theorem TxC.ne (h:TxC w b num st ab hb) {m n:Nat} {s:Int→Bool} (hm:ISet w m n s):b≠m:=by obtain⟨cs,h1,_⟩:=h;exact (IMap.ne hm h1).symm
end
theorem ISet.same {w w':World} {b n:Nat} {s:Int→Bool} (h:ISet w b n s) (hs:w'.heap[b]?=w.heap[b]?):ISet w' b n s:=IMap.same h hs
theorem ISet.lt {w:World} {b n:Nat} {s:Int→Bool} (h:ISet w b n s):b<w.heap.size:=IMap.lt h
theorem ISet.store {w:World} {b n:Nat} {s:Int→Bool} (h:ISet w b n s) (hn:n<maxLen) {x:Int} (hx:I64 x) :
  ∃ w',(Instr.mapUpdate 257 (.map (some b)) (.int .i64 x) (.agg #[])).run Tryz.prog w=.ok () w'∧ISet w' b (n+1) (fun a=>s a||a==x)∧w.grownBy w' (some b):=by
 obtain⟨w',h1,h2,h3⟩:=IMap.store h Tryz.underlying257 hn hx (.agg #[])
 refine⟨w',h1,h2.congr (fun a=>?_),h3⟩
 by_cases e:a=x
 ·subst e;rw [updT_same];simp
 ·rw [updT_other _ _ e];simp [e]
set_option maxRecDepth 100000 in
set_option maxHeartbeats 1000000 in
theorem putAhead_any (b1 b2 ab1 hb1 ab2 hb2 m1 m2 m3 m4:Nat) (n1 n2 st1 st2:Int) (A1 B1 A2 B2:Int→Bool) (w:World) (h1:TxC w b1 n1 st1 ab1 hb1) (h2:TxC w b2 n2 st2 ab2 hb2)
  (hA1:ISet w ab1 m1 A1) (hB1:ISet w hb1 m2 B1) (hA2:ISet w ab2 m3 A2) (hB2:ISet w hb2 m4 B2) (hn1:I64 n1) (hn2:I64 n2) (hm2:m2≤1000000) (hm3:m3≤1000000)
  (d1:hb1≠ab2) (d2:ab1≠hb1) (d3:ab1≠ab2) (d4:hb2≠hb1) (d5:hb2≠ab2) :
  Calls Tryz.prog 261 #[.pointer (some ⟨b1,0,none⟩),.pointer (some ⟨b2,0,none⟩)] w fun e w' =>
   e=.returned (.bool (!stuckB st1 A1 (fun a=>B1 a||a==n2)&&!stuckB st2 (fun a=>A2 a||a==n1) B2))∧ISet w' hb1 (m2+1) (fun a=>B1 a||a==n2)∧ISet w' ab2 (m3+1) (fun a=>A2 a||a==n1) ∧
   w'.os=w.os∧w'.tape=w.tape∧w'.output=w.output∧w.heap.size≤w'.heap.size∧∀ g,g<w.heap.size→g≠hb1→g≠ab2→w'.heap[g]?=w.heap[g]?:=by
 obtain⟨w1,hrun1,hS1,hg1⟩:=(hB1.same (w':=w.drew) rfl).store (by unfold maxLen;omega) hn2
 have e1:∀ g,g<w.heap.size→g≠hb1→w1.heap[g]?=w.heap[g]?:=fun g hg hne=>hg1.block g hg (fun e=>hne (by injection e))
 have k1:=h1.same (e1 b1 h1.lt (h1.ne hB1))
 have k2:=h2.same (e1 b2 h2.lt (h2.ne hB1))
 obtain⟨w2,hrun2,hS2,hg2⟩:=((hA2.same (e1 ab2 hA2.lt d1.symm)).same (w':=w1.drew) rfl).store (by unfold maxLen;omega) hn1
 have hs1:w.heap.size≤w1.heap.size:=hg1.size
 have e2:∀ g,g<w1.heap.size→g≠ab2→w2.heap[g]?=w1.heap[g]?:=fun g hg hne=>hg2.block g hg (fun e=>hne (by injection e))
 have q1:=k1.same (e2 b1 k1.lt (h1.ne hA2))
 have q2:=k2.same (e2 b2 k2.lt (h2.ne hA2))
 have hB1':=hS1.same (e2 hb1 hS1.lt d1)
 have hA1':=(hA1.same (e1 ab1 hA1.lt d2)).same (e2 ab1 (Nat.lt_of_lt_of_le hA1.lt hs1) d3)
 have hB2':=(hB2.same (e1 hb2 hB2.lt d4)).same (e2 hb2 (Nat.lt_of_lt_of_le hB2.lt hs1) d5)
 have HC1:=hid (stuck_any b1 ab1 hb1 m1 (m2+1) st1 A1 (fun a=>B1 a||a==n2) w2 q1.c3 q1.c20 q1.c21 hA1' hB1')
 have HC2:=hid (stuck_any b2 ab2 hb2 (m3+1) m4 st2 (fun a=>A2 a||a==n1) B2 w2 q2.c3 q2.c20 q2.c21 hS2 hB2')
 have HF:=hid (show ISet w2 hb1 (m2+1) (fun a=>B1 a||a==n2)∧ISet w2 ab2 (m3+1) (fun a=>A2 a||a==n1)∧w2.os=w.os∧w2.tape=w.tape∧w2.output=w.output∧w.heap.size≤w2.heap.size∧∀ g,g<w.heap.size→g≠hb1→g≠ab2→w2.heap[g]?=w.heap[g]? from
  ⟨hB1',hS2,hg2.os.trans hg1.os,hg2.tape.trans hg1.tape,hg2.output.trans hg1.output,Nat.le_trans hs1 hg2.size,fun g hg ha hb=>(e2 g (Nat.lt_of_lt_of_le hg hs1) hb).trans (e1 g hg ha)⟩)
 have c1:=h1.c21
 have c2:=h2.c0
 have y1:=k1.c21
 have y2:=k2.c0
 have y3:=k2.c20
 have y4:=k1.c0
 have z3:=q2.c20
 have z4:=q1.c0
 clear h1 h2 hA1 hB1 hA2 hB2 hS1 hg1 k1 k2 hS2 hg2 e1 e2 q1 q2 hB1' hA1' hB2'
 obtain⟨s1,hs1e⟩:∃ s1,stuckB st1 A1 (fun a=>B1 a||a==n2)=s1:=⟨_,rfl⟩
 obtain⟨s2,hs2e⟩:∃ s2,stuckB st2 (fun a=>A2 a||a==n1) B2=s2:=⟨_,rfl⟩
 rw [hs1e] at HC1
 rw [hs2e] at HC2
 rw [hs1e,hs2e]
 clear hs1e hs2e
 go_enter Tryz.func261,Tryz.ntmps261
 go_wp2
 go_region_held3 (fun W=>W.cell? ⟨b1,21,none⟩=some (.map (some hb1))∧W.cell? ⟨b2,0,none⟩=some (.int .i64 n2))
  (first
   | go_keep
   | exact⟨y1,y2⟩
   | fail)
  (fail)
 go_wp2
 go_region_held3 (fun W=>W.cell? ⟨b2,20,none⟩=some (.map (some ab2))∧W.cell? ⟨b1,0,none⟩=some (.int .i64 n1))
  (first
   | go_keep
   | exact⟨z3,z4⟩
   | fail)
  (fail)
 cases s1 with
 | true =>
  go_wp2_with fail
  refine HC1.out.mono ?_
  rintro e w3 ⟨rfl,hw3⟩
  rw [hw3]
  clear hw3 w3
  go_wp2
  go_ret
  exact⟨rfl,HF.out⟩
 | false =>
  go_wp2_with fail
  refine HC1.out.mono ?_
  rintro e w3 ⟨rfl,hw3⟩
  rw [hw3]
  clear hw3 w3
  go_wp2_with fail
  refine HC2.out.mono ?_
  rintro e w3 ⟨rfl,hw3⟩
  rw [hw3]
  clear hw3 w3
  go_wp2
  go_ret
  exact⟨by cases s2<;>rfl,HF.out⟩
end Go.Proofs.YtjefgmeejhakbabGreatDoor
namespace Go.Proofs.YtjefgmeejhakbabGreatDoor
open Go.RowKit
theorem nodup_le {α:Type}:∀ (l m:List α),l.Pairwise (fun a b=>a≠b)→(∀ x∈l,x∈m)→l.length≤m.length
 | [],_,_,_=>by simp
 | a::r,m,hp,hs=>by
  obtain⟨m1,m2,rfl⟩:=List.append_of_mem (hs a (List.mem_cons_self ..))
  have hp':=List.pairwise_cons.1 hp
  have:=nodup_le r (m1++m2) hp'.2 (fun x hx=>by
   have h1:=hs x (List.mem_cons_of_mem _ hx)
   have h2:=hp'.1 x hx
   rw [List.mem_append,List.mem_cons] at h1
   rw [List.mem_append]
   rcases h1 with h | h | h
   ·exact .inl h
   ·exact (h2 h.symm).elim
   ·exact .inr h)
  simp only [List.length_append,List.length_cons] at this ⊢
  omega
theorem IMap.tight {w:World} {b n:Nat} {f:Int→Option Value} (h:IMap w b n f) (sup:List Int) (hs:∀ a,f a≠none→a∈sup):IMap w b sup.length f:=by
 obtain⟨D,⟨es,clock,hb,F,hz,rfl⟩,h2⟩:=h
 refine⟨_,⟨es,clock,hb,F,?_,rfl⟩,h2⟩
 have hA:=Maps.fit_apart lawI F
 have h3:=nodup_le ((es.toList.map (WideElems.rg Tryz.prog 3 anyElem)).map (fun p=>p.1)) (sup.map (Lit.int .i64)) (by rw [List.pairwise_map];exact hA) (fun x hx=>by
  obtain⟨p,hp,rfl⟩:=List.mem_map.1 hx
  obtain⟨y,hy,rfl⟩:=List.mem_map.1 hp
  obtain⟨v,hv⟩:=Maps.fit_keys F _ hp
  obtain⟨a,_,hk,_⟩:=Maps.keyOf_int_inv Tryz.underlying3 hv
  rw [hk]
  refine List.mem_map.2 ⟨a,hs a (fun e=>?_),rfl⟩
  have h3:=(h2 a).1
  rw [e] at h3
  have h4:Maps.has (DataW.map ((es.toList.map (WideElems.rg Tryz.prog 3 anyElem)).foldr DataW.insert [])) (.int .i64 a)=true:=by
   rw [Maps.has_eq,List.any_eq_true]
   refine⟨_,(WideShapes.sorted_perm _).mem_iff.2 hp,?_⟩
   rw [hk]
   simp [Lit.sameKey]
  rw [h4] at h3
  cases h3)
 simpa using h3
def upTo (n:Nat):List Int:=(List.range n).map Int.ofNat
theorem mem_upTo {n:Nat} {a:Int} (h0:0≤a) (h1:a<n):a∈upTo n:=List.mem_map.2 ⟨a.toNat,by rw [List.mem_range];omega,by simp;omega⟩
theorem upTo_length (n:Nat):(upTo n).length=n:=by simp [upTo]
theorem IMap.upTo {w:World} {b n:Nat} {f:Int→Option Value} (h:IMap w b n f) (m:Nat) (hs:∀ a,f a≠none→0≤a∧a<m):IMap w b m f:=by
 have:=h.tight (Go.Proofs.YtjefgmeejhakbabGreatDoor.upTo m) (fun a ha=>mem_upTo (hs a ha).1 (hs a ha).2)
 rwa [upTo_length] at this
theorem MapIs.upTo {w:World} {mv:Option Nat} {n:Nat} {f:Int→Option Value} (h:MapIs w mv n f) (m:Nat) (hs:∀ a,f a≠none→0≤a∧a<m):MapIs w mv m f:=by
 rcases h with h | ⟨b,e,h⟩
 ·exact .inl h
 ·exact .inr ⟨b,e,h.upTo m hs⟩
end Go.Proofs.YtjefgmeejhakbabGreatDoor
namespace Go.Proofs.YtjefgmeejhakbabGreatDoor
open Go.RowKit
structure Tx where
 level:Int
 start:Int
 state:Int
 why:Int
 bae:Int
 wk:Int
 wv:Int
 vals:Int→Option Int
 reads:List (Int × Int)
 seen:List Bool
 ahead:Int→Bool
 behind:Int→Bool
structure Eng where
 last:Int
 ks:List (List (Int × Int))
 T:Tab
 txs:List Tx
 wr:Int→Option Int
 com:List Nat
 nw:Nat
def Eng.setTx (E:Eng) (i:Nat) (t:Tx):Eng:={ E with txs:=E.txs.set i t }
structure TxL where
 b:Nat
 vb:Nat
 rv:Value
 ab:Nat
 hb:Nat
def TxL.own (l:TxL) (g:Nat):Prop:=g=l.b∨g=l.vb∨g=l.ab∨g=l.hb∨l.rv.ownBlock=some g
structure EnL where
 s:Nat
 vs:List Value
 M:LkM
 av:Value
 wb:Nat
 cv:Value
 txs:List TxL
def EnL.setTx (L:EnL) (i:Nat) (l:TxL):EnL:={ L with txs:=L.txs.set i l }
inductive Tag where
 | eng:Tag
 | srow:Tag
 | lock:Tag
 | all:Tag
 | wr:Tag
 | com:Tag
 | tx:Nat→Tag
def opsV:List (Int × Int × Bool × Int)→List Value
 | []=>[]
 | o::r=>.int .i64 o.1::.int .i64 o.2.1::.bool o.2.2.1::.int .i64 o.2.2.2::opsV r
theorem opsV_append:∀ l m,opsV (l++m)=opsV l++opsV m
 | [],_=>rfl
 | _::r,m=>by simp [opsV,opsV_append r m]
theorem opsV_one:∀ (l:List (Int × Int × Bool × Int)),∀ u∈opsV l,u.oneCell'=true
 | [],u,h=>by simp [opsV] at h
 | o::r,u,h=>by
  simp only [opsV,List.mem_cons] at h
  rcases h with rfl | rfl | rfl | rfl | h
  ·rfl
  ·rfl
  ·rfl
  ·rfl
  ·exact opsV_one r u h
def readOps (n:Int) (l:List (Int × Int)):List (Int × Int × Bool × Int):=l.map fun p=>(n,p.1,false,p.2)
def txCells (n:Int) (l:TxL) (t:Tx):Array Value :=
 (.int .i64 n::.int .i64 t.level::.int .i64 t.start::.int .i64 t.state::.int .i64 t.why::.int .i64 t.bae::.int .i64 t.wk::.int .i64 t.wv::.map (some l.vb)::l.rv::(t.seen.map Value.bool++[.map (some l.ab),.map (some l.hb)])).toArray
structure TxAt (w:World) (n:Int) (l:TxL) (t:Tx):Prop where
 blk:w.heap[l.b]?=some (.cells (txCells n l t) 259 (0,0))
 va:IMap w l.vb 10 (fun k=>(t.vals k).map (Value.int .i64))
 rd:w.ownsRow 0 138 4 l.rv t.reads.length (opsV (readOps n t.reads))
 ah:ISet w l.ab 201 t.ahead
 be:ISet w l.hb 201 t.behind
 d1:l.vb≠l.ab
 d2:l.vb≠l.hb
 d3:l.ab≠l.hb
 sl:t.seen.length=10
 vk:∀ k,t.vals k≠none→0≤k∧k<10
 aN:∀ x,t.ahead x=true→1≤x∧x≤200
 bN:∀ x,t.behind x=true→1≤x∧x≤200
 wkr:0≤t.wk∧t.wk<10
theorem owns_lt {w:World} {base sz:Nat} {T:TypeId} {v:Value} {n:Nat} {vs:List Value} (h:w.ownsRow base T sz v n vs) {g:Nat} (hg:v.ownBlock=some g):g<w.heap.size:=(h.lt g hg).2
theorem owns_typ {w:World} {base sz:Nat} {T:TypeId} {v:Value} {n:Nat} {vs:List Value} (h:w.ownsRow base T sz v n vs) {g:Nat} (hg:v.ownBlock=some g):∃ cur,w.heap[g]?=some (.cells cur T (0,0)):=by
 rcases h.2 with ⟨e,_⟩ | ⟨g',cap,cur,e,_,hc,_⟩
 ·rw [e] at hg;cases hg
 ·rw [e] at hg;cases hg;exact⟨cur,hc⟩
section
variable {w w':World} {n:Int} {l:TxL} {t:Tx}
theorem TxAt.lt (h:TxAt w n l t):l.b<w.heap.size:=(Array.getElem?_eq_some_iff.1 h.blk).1
theorem TxAt.own_lt (h:TxAt w n l t) {g:Nat} (hg:l.own g):g<w.heap.size:=by
 rcases hg with rfl | rfl | rfl | rfl | hg
 ·exact h.lt
 ·exact h.va.lt
 ·exact h.ah.lt
 ·exact h.be.lt
 ·exact owns_lt h.rd hg
theorem TxAt.same (h:TxAt w n l t) (hs:∀ g,l.own g→w'.heap[g]?=w.heap[g]?):TxAt w' n l t :=
 ⟨(hs _ (.inl rfl)).trans h.blk,h.va.same (hs _ (.inr (.inl rfl))),owns_same h.rd (fun g hg=>hs g (.inr (.inr (.inr (.inr hg))))),h.ah.same (hs _ (.inr (.inr (.inl rfl)))),h.be.same (hs _ (.inr (.inr (.inr (.inl rfl))))),h.d1,h.d2,h.d3,h.sl,h.vk,h.aN,h.bN,h.wkr⟩
theorem TxAt.ne_va (h:TxAt w n l t):l.b≠l.vb:=(h.va.ne h.blk).symm
theorem TxAt.ne_ah (h:TxAt w n l t):l.b≠l.ab:=(IMap.ne h.ah h.blk).symm
theorem TxAt.ne_be (h:TxAt w n l t):l.b≠l.hb:=(IMap.ne h.be h.blk).symm
theorem TxAt.rd_ne (h:TxAt w n l t) {g:Nat} (hg:l.rv.ownBlock=some g):g≠l.b∧g≠l.vb∧g≠l.ab∧g≠l.hb:=by
 obtain⟨cur,hc⟩:=owns_typ h.rd hg
 refine⟨?_,(h.va.ne hc).symm,(IMap.ne h.ah hc).symm,(IMap.ne h.be hc).symm⟩
 rintro rfl
 rw [h.blk] at hc
 injection hc with hc
 injection hc with _ hc
 exact absurd hc (by decide)
theorem txCells_get (n:Int) (l:TxL) (t:Tx):(txCells n l t)[0]?=some (.int .i64 n)∧(txCells n l t)[1]?=some (.int .i64 t.level)∧(txCells n l t)[2]?=some (.int .i64 t.start)∧(txCells n l t)[3]?=some (.int .i64 t.state)∧(txCells n l t)[4]?=some (.int .i64 t.why)∧(txCells n l t)[5]?=some (.int .i64 t.bae) ∧
  (txCells n l t)[6]?=some (.int .i64 t.wk)∧(txCells n l t)[7]?=some (.int .i64 t.wv)∧(txCells n l t)[8]?=some (.map (some l.vb))∧(txCells n l t)[9]?=some l.rv:=by
 unfold txCells;simp
theorem txCells_seen (n:Int) (l:TxL) (t:Tx) {k:Nat} {b:Bool} (h:t.seen[k]?=some b):(txCells n l t)[10+k]?=some (.bool b):=by
 have hk:=(List.getElem?_eq_some_iff.1 h).1
 unfold txCells
 rw [List.getElem?_toArray,show 10+k=k+1+1+1+1+1+1+1+1+1+1 from by omega]
 simp only [List.getElem?_cons_succ]
 rw [List.getElem?_append_left (by simpa using hk)]
 simp [h]
theorem txCells_last (n:Int) (l:TxL) (t:Tx) (h:t.seen.length=10):(txCells n l t)[20]?=some (.map (some l.ab))∧(txCells n l t)[21]?=some (.map (some l.hb)):=by
 unfold txCells
 simp [h]
theorem TxAt.c0 (h:TxAt w n l t):w.cell? ⟨l.b,0,none⟩=some (.int .i64 n):=(cell_of_row w l.b 0 _ _ (0,0) h.blk).trans (txCells_get n l t).1
theorem TxAt.c1 (h:TxAt w n l t):w.cell? ⟨l.b,1,none⟩=some (.int .i64 t.level):=(cell_of_row w l.b 1 _ _ (0,0) h.blk).trans (txCells_get n l t).2.1
theorem TxAt.c2 (h:TxAt w n l t):w.cell? ⟨l.b,2,none⟩=some (.int .i64 t.start):=(cell_of_row w l.b 2 _ _ (0,0) h.blk).trans (txCells_get n l t).2.2.1
theorem TxAt.c3 (h:TxAt w n l t):w.cell? ⟨l.b,3,none⟩=some (.int .i64 t.state):=(cell_of_row w l.b 3 _ _ (0,0) h.blk).trans (txCells_get n l t).2.2.2.1
theorem TxAt.c4 (h:TxAt w n l t):w.cell? ⟨l.b,4,none⟩=some (.int .i64 t.why):=(cell_of_row w l.b 4 _ _ (0,0) h.blk).trans (txCells_get n l t).2.2.2.2.1
theorem TxAt.c5 (h:TxAt w n l t):w.cell? ⟨l.b,5,none⟩=some (.int .i64 t.bae):=(cell_of_row w l.b 5 _ _ (0,0) h.blk).trans (txCells_get n l t).2.2.2.2.2.1
theorem TxAt.c6 (h:TxAt w n l t):w.cell? ⟨l.b,6,none⟩=some (.int .i64 t.wk):=(cell_of_row w l.b 6 _ _ (0,0) h.blk).trans (txCells_get n l t).2.2.2.2.2.2.1
theorem TxAt.c7 (h:TxAt w n l t):w.cell? ⟨l.b,7,none⟩=some (.int .i64 t.wv):=(cell_of_row w l.b 7 _ _ (0,0) h.blk).trans (txCells_get n l t).2.2.2.2.2.2.2.1
theorem TxAt.c8 (h:TxAt w n l t):w.cell? ⟨l.b,8,none⟩=some (.map (some l.vb)):=(cell_of_row w l.b 8 _ _ (0,0) h.blk).trans (txCells_get n l t).2.2.2.2.2.2.2.2.1
theorem TxAt.c9 (h:TxAt w n l t):w.cell? ⟨l.b,9,none⟩=some l.rv:=(cell_of_row w l.b 9 _ _ (0,0) h.blk).trans (txCells_get n l t).2.2.2.2.2.2.2.2.2
theorem TxAt.cs (h:TxAt w n l t) {k:Nat} {b:Bool} (hk:t.seen[k]?=some b):w.cell? ⟨l.b,10+k,none⟩=some (.bool b):=(cell_of_row w l.b (10+k) _ _ (0,0) h.blk).trans (txCells_seen n l t hk)
theorem TxAt.c20 (h:TxAt w n l t):w.cell? ⟨l.b,20,none⟩=some (.map (some l.ab)):=(cell_of_row w l.b 20 _ _ (0,0) h.blk).trans (txCells_last n l t h.sl).1
theorem TxAt.c21 (h:TxAt w n l t):w.cell? ⟨l.b,21,none⟩=some (.map (some l.hb)):=(cell_of_row w l.b 21 _ _ (0,0) h.blk).trans (txCells_last n l t h.sl).2
theorem TxAt.txc (h:TxAt w n l t):TxC w l.b n t.state l.ab l.hb:=⟨_,h.blk,(txCells_get n l t).1,(txCells_get n l t).2.2.2.1,(txCells_last n l t h.sl).1,(txCells_last n l t h.sl).2⟩
theorem TxAt.free (h:TxAt w n l t) (o:Nat):w.frozen? ⟨l.b,o,none⟩=false:=by simp [World.frozen?,h.blk]
end
def EnL.P (L:EnL):Tail:=⟨[.map L.M.mh,.map L.M.mw,.map L.M.ml,L.av,.map (some L.wb),L.cv],253⟩
def EnL.C (L:EnL) (last:Int):Emb:=⟨.int .i64 last::L.vs,[L.av,.map (some L.wb),L.cv],253,by decide⟩
theorem EnL.cells_eq (L:EnL) (last:Int):L.P.cells last L.vs=(L.C last).cells (.map L.M.mh) (.map L.M.mw) (.map L.M.ml):=by
 simp [EnL.P,EnL.C,Tail.cells,Emb.cells]
def ptrV (b:Nat):Value:=.pointer (some ⟨b,0,none⟩)
def EnL.bs (L:EnL):List Nat:=L.txs.map TxL.b
def EnL.own (L:EnL) (g:Nat):Prop:=g=L.s∨InRows L.vs g∨L.M.own L.s g∨L.av.ownBlock=some g∨g=L.wb∨L.cv.ownBlock=some g∨∃ l∈L.txs,l.own g
structure Tagged (L:EnL) (ρ:Nat→Tag):Prop where
 eng:ρ L.s=.eng
 srow:∀ g,InRows L.vs g→ρ g=.srow
 lock:∀ g,L.M.own L.s g→g≠L.s→ρ g=.lock
 all:∀ g,L.av.ownBlock=some g→ρ g=.all
 wr:ρ L.wb=.wr
 com:∀ g,L.cv.ownBlock=some g→ρ g=.com
 tx:∀ i l g,L.txs[i]?=some l→l.own g→ρ g=.tx i
structure EnAt (w:World) (L:EnL) (E:Eng):Prop where
 sto:Sto L.P w (L.s+1) L.s E.last L.vs E.ks
 loc:TabAt (L.C E.last) w L.s 201 L.M E.T
 good:Good E.T
 mem:∀ k x,x∈E.T k→1≤x∧x≤E.txs.length
 all:w.ownsRow 0 239 1 L.av L.txs.length (L.bs.map ptrV)
 len:L.txs.length=E.txs.length
 le:E.txs.length≤200
 wr:IMap w L.wb E.nw (fun a=>(E.wr a).map (Value.int .i64))
 com:w.ownsRow 0 239 1 L.cv E.com.length (E.com.map fun i=>ptrV (L.bs[i]?.getD 0))
 coml:∀ i∈E.com,i<E.txs.length
 txs:∀ (i:Nat) (l:TxL) (t:Tx),L.txs[i]?=some l→E.txs[i]?=some t→TxAt w ((i:Int)+1) l t
 tag:∃ ρ,Tagged L ρ
section
variable {w w':World} {L L':EnL} {E E':Eng}
theorem EnAt.lv (h:EnAt w L E):L.vs.length=10:=h.sto.lv
theorem EnAt.o (h:EnAt w L E):(L.C E.last).o=11:=by simp [EnL.C,Emb.o,h.lv]
theorem EnAt.get (h:EnAt w L E) {i:Nat} {t:Tx} (ht:E.txs[i]?=some t):∃ l,L.txs[i]?=some l∧TxAt w ((i:Int)+1) l t:=by
 have hi:i<L.txs.length:=by have:=(List.getElem?_eq_some_iff.1 ht).1;have:=h.len;omega
 exact⟨L.txs[i],List.getElem?_eq_getElem hi,h.txs i _ t (List.getElem?_eq_getElem hi) ht⟩
theorem EnAt.getL (h:EnAt w L E) {i:Nat} {l:TxL} (hl:L.txs[i]?=some l):∃ t,E.txs[i]?=some t∧TxAt w ((i:Int)+1) l t:=by
 have hi:i<E.txs.length:=by have:=(List.getElem?_eq_some_iff.1 hl).1;have:=h.len;omega
 exact⟨E.txs[i],List.getElem?_eq_getElem hi,h.txs i _ _ hl (List.getElem?_eq_getElem hi)⟩
theorem EnAt.own_lt (h:EnAt w L E) {g:Nat} (hg:L.own g):g<w.heap.size:=by
 rcases hg with rfl | hg | hg | hg | rfl | hg | ⟨l,hl,hg⟩
 ·exact h.sto.lt
 ·exact (h.sto.row hg).2
 ·obtain⟨_,_,_,r,_⟩:=h.loc
  exact r.own_lt hg
 ·exact owns_lt h.all hg
 ·exact h.wr.lt
 ·exact owns_lt h.com hg
 ·obtain⟨i,hi,rfl⟩:=List.mem_iff_getElem.1 hl
  obtain⟨t,_,hA⟩:=h.getL (List.getElem?_eq_getElem hi)
  exact hA.own_lt hg
theorem TxL.own_in {l:TxL} {i:Nat} (hl:L.txs[i]?=some l) {g:Nat} (hg:l.own g):L.own g:=.inr (.inr (.inr (.inr (.inr (.inr ⟨l,List.mem_of_getElem? hl,hg⟩)))))
theorem EnAt.same (h:EnAt w L E) (hs:∀ g,L.own g→w'.heap[g]?=w.heap[g]?):EnAt w' L E :=
 ⟨h.sto.kept (hs _ (.inl rfl)) (fun g hg=>hs g (.inr (.inl hg))),h.loc.same (fun g hg=>hs g (.inr (.inr (.inl hg)))),h.good,h.mem,owns_same h.all (fun g hg=>hs g (.inr (.inr (.inr (.inl hg))))),h.len,h.le,
  h.wr.same (hs _ (.inr (.inr (.inr (.inr (.inl rfl)))))),owns_same h.com (fun g hg=>hs g (.inr (.inr (.inr (.inr (.inr (.inl hg))))))),h.coml,fun i l t hl ht=>(h.txs i l t hl ht).same (fun g hg=>hs g (TxL.own_in hl hg)),h.tag⟩
theorem EnAt.below (h:EnAt w L E) (hB:Below w.heap.size w w'):EnAt w' L E:=h.same (fun g hg=>hB.block g (h.own_lt hg))
theorem EnAt.c14 (h:EnAt w L E):w.cell? ⟨L.s,14,none⟩=some L.av:=by
 refine (cell_of_row w L.s 14 _ _ (0,0) h.sto.blk).trans ?_
 unfold Tail.cells EnL.P
 simp [h.lv]
theorem EnAt.c15 (h:EnAt w L E):w.cell? ⟨L.s,15,none⟩=some (.map (some L.wb)):=by
 refine (cell_of_row w L.s 15 _ _ (0,0) h.sto.blk).trans ?_
 unfold Tail.cells EnL.P
 simp [h.lv]
theorem EnAt.c16 (h:EnAt w L E):w.cell? ⟨L.s,16,none⟩=some L.cv:=by
 refine (cell_of_row w L.s 16 _ _ (0,0) h.sto.blk).trans ?_
 unfold Tail.cells EnL.P
 simp [h.lv]
theorem bs_get {i:Nat} {l:TxL} (hl:L.txs[i]?=some l):L.bs[i]?=some l.b:=by simp [EnL.bs,hl]
theorem EnAt.apart (h:EnAt w L E) {i j:Nat} {l m:TxL} (hl:L.txs[i]?=some l) (hm:L.txs[j]?=some m) (hij:i≠j) {g:Nat} (hg:l.own g):¬ m.own g:=fun hg'=>by
 obtain⟨ρ,T⟩:=h.tag
 have:=(T.tx i l g hl hg).symm.trans (T.tx j m g hm hg')
 injection this with e
 exact hij e
theorem EnAt.turnTxs (h:EnAt w L E) (txs':List Tx) (hlen:txs'.length=E.txs.length) (hA:∀ (i:Nat) (l:TxL) (t:Tx),L.txs[i]?=some l→txs'[i]?=some t→TxAt w' ((i:Int)+1) l t)
  (hs:∀ g,L.own g→(∀ l∈L.txs,¬ l.own g)→w'.heap[g]?=w.heap[g]?):EnAt w' L { E with txs:=txs' }:=by
 obtain⟨ρ,T⟩:=h.tag
 have hno:∀ g,(∀ i,ρ g≠.tx i)→∀ l∈L.txs,¬ l.own g:=fun g hg l hl ho=>by
  obtain⟨i,hi,rfl⟩:=List.mem_iff_getElem.1 hl
  exact hg i (T.tx i _ g (List.getElem?_eq_getElem hi) ho)
 have hk:∀ g,L.own g→(∀ i,ρ g≠.tx i)→w'.heap[g]?=w.heap[g]?:=fun g hg hn=>hs g hg (hno g hn)
 exact⟨h.sto.kept (hk _ (.inl rfl) (fun i e=>by rw [T.eng] at e;cases e)) (fun g hg=>hk g (.inr (.inl hg)) (fun i e=>by rw [T.srow g hg] at e;cases e)),
  h.loc.same (fun g hg=>hk g (.inr (.inr (.inl hg))) (fun i e=>by
   by_cases hgs:g=L.s
   ·rw [hgs,T.eng] at e;cases e
   ·rw [T.lock g hg hgs] at e;cases e)),h.good,(by rw [hlen];exact h.mem),owns_same h.all (fun g hg=>hk g (.inr (.inr (.inr (.inl hg)))) (fun i e=>by rw [T.all g hg] at e;cases e)),h.len.trans hlen.symm,(by rw [hlen];exact h.le),
  h.wr.same (hk _ (.inr (.inr (.inr (.inr (.inl rfl))))) (fun i e=>by rw [T.wr] at e;cases e)),owns_same h.com (fun g hg=>hk g (.inr (.inr (.inr (.inr (.inr (.inl hg)))))) (fun i e=>by rw [T.com g hg] at e;cases e)),
  (by rw [hlen];exact h.coml),hA,ρ,T⟩
theorem own_setTx {i:Nat} {l':TxL} {g:Nat} (h:(L.setTx i l').own g):L.own g∨l'.own g:=by
 rcases h with h | h | h | h | h | h | ⟨m,hm,h⟩
 ·exact .inl (.inl h)
 ·exact .inl (.inr (.inl h))
 ·exact .inl (.inr (.inr (.inl h)))
 ·exact .inl (.inr (.inr (.inr (.inl h))))
 ·exact .inl (.inr (.inr (.inr (.inr (.inl h)))))
 ·exact .inl (.inr (.inr (.inr (.inr (.inr (.inl h))))))
 ·rcases List.mem_or_eq_of_mem_set hm with hm | rfl
  ·exact .inl (.inr (.inr (.inr (.inr (.inr (.inr ⟨m,hm,h⟩))))))
  ·exact .inr h
theorem bs_setTx {i:Nat} {l l':TxL} (hl:L.txs[i]?=some l) (hb:l'.b=l.b):(L.setTx i l').bs=L.bs:=by
 unfold EnL.setTx EnL.bs
 rw [List.map_set,hb]
 refine List.ext_getElem? (fun j=>?_)
 rw [List.getElem?_set]
 split
 ·rename_i e
  subst e
  have:=(List.getElem?_eq_some_iff.1 hl).1
  rw [if_pos (by simpa using this)]
  simp [hl]
 ·rfl
theorem EnAt.setTx (h:EnAt w L E) {i:Nat} {l l':TxL} {t t':Tx} (hl:L.txs[i]?=some l) (ht:E.txs[i]?=some t) (hb:l'.b=l.b) (hK:KeptO l.own l'.own w w') (hA:TxAt w' ((i:Int)+1) l' t') :
  EnAt w' (L.setTx i l') (E.setTx i t')∧KeptO L.own (L.setTx i l').own w w':=by
 obtain⟨ρ,T⟩:=h.tag
 have hi:=(List.getElem?_eq_some_iff.1 hl).1
 have hi2:=(List.getElem?_eq_some_iff.1 ht).1
 have hA0:=h.txs i l t hl ht
 have hk:∀ g,L.own g→ρ g≠.tx i→w'.heap[g]?=w.heap[g]?:=fun g hg hn=>hK.block g (h.own_lt hg) (fun ho=>hn (T.tx i l g hl ho))
 have hbs:=bs_setTx hl hb
 refine⟨⟨h.sto.kept (hk _ (.inl rfl) (fun e=>by rw [T.eng] at e;cases e)) (fun g hg=>hk g (.inr (.inl hg)) (fun e=>by rw [T.srow g hg] at e;cases e)),
  h.loc.same (fun g hg=>hk g (.inr (.inr (.inl hg))) (fun e=>by
   by_cases hgs:g=L.s
   ·rw [hgs,T.eng] at e;cases e
   ·rw [T.lock g hg hgs] at e;cases e)),h.good,(by simpa [Eng.setTx] using h.mem),?_,(by simpa [Eng.setTx,EnL.setTx] using h.len),(by simpa [Eng.setTx] using h.le),
  h.wr.same (hk _ (.inr (.inr (.inr (.inr (.inl rfl))))) (fun e=>by rw [T.wr] at e;cases e)),?_,(by simpa [Eng.setTx] using h.coml),?_,fun g=>if g<w.heap.size then ρ g else .tx i,?_⟩,?_⟩
 ·rw [hbs]
  have:(L.setTx i l').txs.length=L.txs.length:=by simp [EnL.setTx]
  rw [this]
  exact owns_same h.all (fun g hg=>hk g (.inr (.inr (.inr (.inl hg)))) (fun e=>by rw [T.all g hg] at e;cases e))
 ·rw [hbs]
  exact owns_same h.com (fun g hg=>hk g (.inr (.inr (.inr (.inr (.inr (.inl hg)))))) (fun e=>by rw [T.com g hg] at e;cases e))
 ·intro j m u hm hu
  simp only [EnL.setTx,Eng.setTx,List.getElem?_set] at hm hu
  by_cases hij:i=j
  ·subst hij
   rw [if_pos rfl,if_pos hi] at hm
   rw [if_pos rfl,if_pos hi2] at hu
   cases hm
   cases hu
   exact hA
  ·rw [if_neg hij] at hm hu
   exact (h.txs j m u hm hu).same (fun g hg=>hk g (TxL.own_in hm hg) (fun e=>by rw [T.tx j m g hm hg] at e;injection e with e;exact hij e.symm))
 ·have hlt:∀ g,L.own g→(if g<w.heap.size then ρ g else Tag.tx i)=ρ g:=fun g hg=>if_pos (h.own_lt hg)
  refine⟨(hlt _ (.inl rfl)).trans T.eng,fun g hg=>(hlt g (.inr (.inl hg))).trans (T.srow g hg),fun g hg hn=>(hlt g (.inr (.inr (.inl hg)))).trans (T.lock g hg hn),fun g hg=>(hlt g (.inr (.inr (.inr (.inl hg))))).trans (T.all g hg),(hlt _ (.inr (.inr (.inr (.inr (.inl rfl)))))).trans T.wr,
   fun g hg=>(hlt g (.inr (.inr (.inr (.inr (.inr (.inl hg))))))).trans (T.com g hg),fun j m g hm hg=>?_⟩
  simp only [EnL.setTx,List.getElem?_set] at hm
  by_cases hij:i=j
  ·subst hij
   rw [if_pos rfl,if_pos hi] at hm
   cases hm
   rcases hK.sub g hg with ho | hn
   ·exact (hlt g (TxL.own_in hl ho)).trans (T.tx i l g hl ho)
   ·simp only [if_neg (Nat.not_lt.2 hn)]
  ·rw [if_neg hij] at hm
   exact (hlt g (TxL.own_in hm hg)).trans (T.tx j m g hm hg)
 ·refine⟨hK.os,hK.tape,hK.output,hK.size,fun g hg hn=>hK.block g hg (fun ho=>hn (TxL.own_in hl ho)),fun g hg=>?_⟩
  rcases own_setTx hg with h1 | h1
  ·exact .inl h1
  ·rcases hK.sub g h1 with h2 | h2
   ·exact .inl (TxL.own_in hl h2)
   ·exact .inr h2
end
end Go.Proofs.YtjefgmeejhakbabGreatDoor
namespace Go.Proofs.YtjefgmeejhakbabGreatDoor
open Go
def DoneAt (listed:Array Bool) (j:Nat):Prop:=listed.getD j false=true
theorem ready_spec {md:Region.Mode} {ops:Array Oper} {listed:Array Bool} {i:Nat} (h:i∈Region.ready md ops listed) :
  i<ops.size∧listed.getD i true=false∧∀ o,ops[i]?=some o→∀ e∈o.after,Region.binds md e=true→DoneAt listed e.on:=by
 unfold Region.ready at h
 obtain⟨h1,h2⟩:=List.mem_filter.1 h
 have h1:=List.mem_range.1 h1
 simp only [Bool.and_eq_true,Bool.not_eq_true'] at h2
 refine⟨h1,h2.1,fun o ho e he hb=>?_⟩
 have h3:=h2.2
 rw [ho] at h3
 simp only [Option.map_some,Option.getD_some] at h3
 rw [Array.all_eq_true_iff_forall_mem] at h3
 have:=h3 e he
 rw [hb] at this
 simpa [DoneAt] using this
theorem done_set {listed:Array Bool} {i j:Nat} (h:DoneAt (listed.setIfInBounds i true) j):j=i∨DoneAt listed j:=by
 unfold DoneAt at *
 by_cases e:j=i
 ·exact .inl e
 ·right
  simp only [Array.getD_eq_getD_getElem?] at *
  rw [Array.getElem?_setIfInBounds_ne (fun h=>e h.symm)] at h
  exact h
theorem done_mono {listed:Array Bool} {i j:Nat} (h:DoneAt listed j):DoneAt (listed.setIfInBounds i true) j:=by
 unfold DoneAt at *
 simp only [Array.getD_eq_getD_getElem?] at *
 by_cases e:i=j
 ·subst e
  cases hi:listed[i]? with
  | none=>rw [hi] at h;cases h
  | some b =>
   have:=(Array.getElem?_eq_some_iff.1 hi).1
   rw [Array.getElem?_setIfInBounds_self_of_lt this]
   rfl
 ·rw [Array.getElem?_setIfInBounds_ne e]
  exact h
theorem done_self {listed:Array Bool} {i:Nat} (h:i<listed.size):DoneAt (listed.setIfInBounds i true) i:=by
 unfold DoneAt
 simp only [Array.getD_eq_getD_getElem?]
 rw [Array.getElem?_setIfInBounds_self_of_lt h]
 rfl
def leftOf (n:Nat) (listed:Array Bool):Nat:=((List.range n).filter (fun i=>!listed.getD i true)).length
theorem left_step {n i:Nat} {listed:Array Bool} (hi:i<n) (hs:n≤listed.size) (h:listed.getD i true=false):leftOf n (listed.setIfInBounds i true)<leftOf n listed:=by
 unfold leftOf
 have key:∀ l:List Nat,l.Nodup→i∈l→(l.filter (fun j=>!(listed.setIfInBounds i true).getD j true)).length<(l.filter (fun j=>!listed.getD j true)).length:=by
  intro l
  induction l with
  | nil=>intro _ h;cases h
  | cons x r ih =>
   intro hn hm
   have hn':=List.nodup_cons.1 hn
   rw [List.filter_cons,List.filter_cons]
   by_cases e:x=i
   ·subst e
    have h1:(listed.setIfInBounds x true).getD x true=true:=by
     rw [Array.getD_eq_getD_getElem?,Array.getElem?_setIfInBounds_self_of_lt (by omega)];rfl
    rw [h1,h]
    have h2:r.filter (fun j=>!(listed.setIfInBounds x true).getD j true)=r.filter (fun j=>!listed.getD j true):=List.filter_congr (fun j hj=>by
     have:x≠j:=fun e=>hn'.1 (e▸hj)
     rw [Array.getD_eq_getD_getElem?,Array.getElem?_setIfInBounds_ne this,← Array.getD_eq_getD_getElem?])
    rw [h2]
    simp
   ·have h1:(listed.setIfInBounds i true).getD x true=listed.getD x true:=by
     rw [Array.getD_eq_getD_getElem?,Array.getElem?_setIfInBounds_ne (fun h=>e h.symm),← Array.getD_eq_getD_getElem?]
    rw [h1]
    have:=ih hn'.2 (by rcases List.mem_cons.1 hm with h | h;exact (e h.symm).elim;exact h)
    split
    ·simp only [List.length_cons];omega
    ·exact this
 exact key _ List.nodup_range (List.mem_range.2 hi)
section
variable {P:Program} {ops:Array Oper} {Q:Exit→Act→World→Prop}
theorem wpOp_imp {i:Nat} {K K':Act→World→Prop} {a:Act} {w:World} (h:∀ a w,K a w→K' a w) (hh:wpOp P ops Q i K a w):wpOp P ops Q i K' a w:=by
 unfold wpOp at *
 split
 ·rename_i e
  rw [e] at hh
  exact h _ _ hh
 ·rename_i o e
  rw [e] at hh
  simp only at hh ⊢
  split
  ·rename_i hw
   rw [if_pos hw] at hh
   exact hh.imp (Oper.wp_mono h) id
  ·rename_i hw
   rw [if_neg hw] at hh
   exact h _ _ hh
theorem wpAny_inv (Inv:Array Bool→Act→World→Prop) (hstep:∀ (listed:Array Bool) (a:Act) (w:World) (i:Nat),Inv listed a w→i∈Region.ready .any ops listed→wpOp P ops Q i (Inv (listed.setIfInBounds i true)) a w)
  (hfin:∀ (listed:Array Bool) (a:Act) (w:World),Inv listed a w→Region.ready .any ops listed=[]→Q .normal a w) :
  ∀ (fuel:Nat) (listed:Array Bool) (a:Act) (w:World),ops.size≤listed.size→leftOf ops.size listed≤fuel→Inv listed a w→wpAny P .any ops Q fuel listed a w:=by
 intro fuel
 induction fuel with
 | zero =>
  intro listed a w hs hl hI
  have hr:Region.ready .any ops listed=[]:=by
   cases hc:Region.ready .any ops listed with
   | nil=>rfl
   | cons i r =>
    have h:=ready_spec (md:=.any) (ops:=ops) (listed:=listed) (i:=i) (by rw [hc];exact List.mem_cons_self ..)
    have:=left_step h.1 hs h.2.1
    omega
  exact⟨hr,hfin listed a w hI hr⟩
 | succ f ih =>
  intro listed a w hs hl hI
  refine⟨hfin listed a w hI,fun i hi=>?_⟩
  have h:=ready_spec hi
  have:=left_step h.1 hs h.2.1
  exact wpOp_imp (fun a' w' hI'=>ih _ a' w' (by simpa using hs) (by omega) hI') (hstep listed a w i hI hi)
theorem region_inv {id:Nat} {a:Act} {w:World} (hm:P.follows .mixedOrders=true) (Inv:Array Bool→Act→World→Prop)
  (hstart:Inv (Array.replicate ops.size false) a w.drew)
  (hstep:∀ (listed:Array Bool) (a:Act) (w:World) (i:Nat),Inv listed a w→i∈Region.ready .any ops listed→wpOp P ops Q i (Inv (listed.setIfInBounds i true)) a w)
  (hfin:∀ (listed:Array Bool) (a:Act) (w:World),Inv listed a w→Region.ready .any ops listed=[]→Q .normal a w):(Code.region id ops true).wp P Q a w:=by
 refine wp_region_any hm (wpAny_inv Inv hstep hfin _ _ a _ (by simp) ?_ hstart)
 unfold leftOf
 exact Nat.le_trans (List.length_filter_le _ _) (by simp)
def FixedAt (F:List (Nat × Value)) (a:Act):Prop:=∀ q∈F,a.tmps.getD q.1 undef=q.2
def LeftAt (ops:Array Oper) (p:Nat→Value→World→Prop) (listed:Array Bool) (a:Act) (w:World):Prop :=
 ∀ (j:Nat) (o:Oper) (d:Tmp),ops[j]?=some o→o.dst=some d→DoneAt listed j→p j (a.tmps.getD d undef) w
def apartB (ops:Array Oper) (F:List (Nat × Value)) (sz:Nat):Bool :=
 let ds:=ops.toList.filterMap (·.dst)
 ds.Nodup&&ds.all (fun d=>decide (d<sz)&&F.all (fun q=>q.1 != d)) 
theorem getD_put_ne {a:Act} {d e:Tmp} {v:Value} (h:d≠e):(a.put (some e) v).tmps.getD d undef=a.tmps.getD d undef:=by
 simp only [Act.put,Array.getD_eq_getD_getElem?]
 rw [Array.getElem?_setIfInBounds_ne (fun h'=>h h'.symm)]
theorem getD_put_same {a:Act} {d:Tmp} {v:Value} (h:d<a.tmps.size):(a.put (some d) v).tmps.getD d undef=v:=by
 simp only [Act.put,Array.getD_eq_getD_getElem?]
 rw [Array.getElem?_setIfInBounds_self_of_lt h]
 rfl
theorem size_put {a:Act} {d:Option Tmp} {v:Value}:(a.put d v).tmps.size=a.tmps.size:=by
 cases d<;>simp [Act.put]
theorem defers_put {a:Act} {d:Option Tmp} {v:Value}:(a.put d v).defers=a.defers:=by
 cases d<;>rfl
theorem mem_filterMap_idx {l:List Oper} {d:Tmp} (hn:(l.filterMap (·.dst)).Nodup) {i j:Nat} {o o':Oper} (hi:l[i]?=some o) (hj:l[j]?=some o') (h1:o.dst=some d) (h2:o'.dst=some d):i=j:=by
 induction l generalizing i j with
 | nil=>cases hi
 | cons x r ih =>
  have hin:∀ {k:Nat} {y:Oper},r[k]?=some y→y.dst=some d→d∈r.filterMap (·.dst):=fun {k y} hk hy=>List.mem_filterMap.2 ⟨y,List.mem_of_getElem? hk,hy⟩
  cases i with
  | zero =>
   cases j with
   | zero=>rfl
   | succ j =>
    simp only [List.getElem?_cons_zero,Option.some.injEq] at hi
    subst hi
    rw [List.filterMap_cons,h1] at hn
    exact ((List.nodup_cons.1 hn).1 (hin (by simpa using hj) h2)).elim
  | succ i =>
   cases j with
   | zero =>
    simp only [List.getElem?_cons_zero,Option.some.injEq] at hj
    subst hj
    rw [List.filterMap_cons,h2] at hn
    exact ((List.nodup_cons.1 hn).1 (hin (by simpa using hi) h1)).elim
   | succ j =>
    congr 1
    refine ih ?_ (by simpa using hi) (by simpa using hj)
    rw [List.filterMap_cons] at hn
    split at hn
    ·exact hn
    ·exact (List.nodup_cons.1 hn).2
def ClosedAt (ops:Array Oper) (listed:Array Bool):Prop:=∀ (i:Nat) (o:Oper),ops[i]?=some o→DoneAt listed i→∀ e∈o.after,Region.binds .any e=true→DoneAt listed e.on
def backB (ops:Array Oper):Bool:=(List.range ops.size).all (fun i=>match ops[i]? with
 | some o=>o.after.toList.all (fun e=>!Region.binds .any e||decide (e.on<i))
 | none=>true)
theorem all_done (hb:backB ops=true) {listed:Array Bool} (hs:listed.size=ops.size) (hr:Region.ready .any ops listed=[]):∀ i,i<ops.size→DoneAt listed i:=by
 intro i
 induction i using Nat.strongRecOn with
 | _ i ih =>
  intro hi
  refine Classical.byContradiction (fun hn=>?_)
  have ho:ops[i]?=some ops[i]:=Array.getElem?_eq_getElem hi
  unfold backB at hb
  have hbi:=List.all_eq_true.1 hb i (List.mem_range.2 hi)
  rw [ho] at hbi
  simp only at hbi
  rw [List.all_eq_true] at hbi
  have:i∈Region.ready .any ops listed:=by
   unfold Region.ready
   refine List.mem_filter.2 ⟨List.mem_range.2 hi,?_⟩
   have h1:listed.getD i true=false:=by
    unfold DoneAt at hn
    rw [Array.getD_eq_getD_getElem?,Array.getElem?_eq_getElem (by omega)] at hn ⊢
    simpa using hn
   rw [h1,ho]
   simp only [Bool.not_false,Bool.true_and,Option.map_some,Option.getD_some]
   rw [Array.all_eq_true_iff_forall_mem]
   intro e he
   have h2:=hbi e (by simpa using he)
   cases hbd:Region.binds .any e with
   | false=>rfl
   | true =>
    rw [hbd] at h2
    simp only [Bool.not_true,Bool.false_or,decide_eq_true_eq] at h2
    have:=ih e.on h2 (by omega)
    unfold DoneAt at this
    rw [this]
    rfl
  rw [hr] at this
  cases this
theorem done_set_ne {listed:Array Bool} {i j:Nat} (h:j≠i):DoneAt (listed.setIfInBounds i true) j↔DoneAt listed j:=⟨fun hd=>(done_set hd).resolve_left h,done_mono⟩
instance (listed:Array Bool) (j:Nat):Decidable (DoneAt listed j):=by unfold DoneAt;infer_instance
theorem not_done_replicate (n j:Nat):¬ DoneAt (Array.replicate n false) j:=by
 unfold DoneAt
 rw [Array.getD_eq_getD_getElem?,Array.getElem?_replicate]
 split<;>simp
theorem region_plan {id:Nat} {a:Act} {w:World} (hm:P.follows .mixedOrders=true) (p:Nat→Value→World→Prop) (G:Array Bool→Act→World→Prop) (F:List (Nat × Value)) (sz:Nat)
    (hap:apartB ops F sz=true) (hbk:backB ops=true) (hG:G (Array.replicate ops.size false) a w.drew) (hF:FixedAt F a) (hsz:a.tmps.size=sz) (D:List Deferred) (hD:a.defers=D)
    (hstep:∀ (i:Nat) (o:Oper) (listed:Array Bool) (a:Act) (w:World),i<ops.size→ops[i]?=some o→listed.size=ops.size→ClosedAt ops listed→(∀ e∈o.after,Region.binds .any e=true→DoneAt listed e.on)→¬ DoneAt listed i→G listed a w→LeftAt ops p listed a w→FixedAt F a→a.tmps.size=sz →
      wpOp P ops Q i (fun a' w'=>∃ v,a'=a.put o.dst v∧p i v w'∧G (listed.setIfInBounds i true) a' w'∧∀ (j:Nat) (u:Value),j≠i→DoneAt listed j→p j u w→p j u w') a w)
    (hfin:∀ (listed:Array Bool) (a:Act) (w:World),(∀ i,i<ops.size→DoneAt listed i)→G listed a w→LeftAt ops p listed a w→FixedAt F a→a.tmps.size=sz→a.defers=D→Q .normal a w):(Code.region id ops true).wp P Q a w:=by
  unfold apartB at hap
  simp only [Bool.and_eq_true,decide_eq_true_eq,List.all_eq_true] at hap
  obtain⟨hn,hd⟩:=hap
  refine region_inv hm (fun listed a w=>listed.size=ops.size∧ClosedAt ops listed∧G listed a w∧LeftAt ops p listed a w∧FixedAt F a∧a.tmps.size=sz∧a.defers=D) ⟨by simp,fun i o _ hdn=>(not_done_replicate _ _ hdn).elim,hG,fun j o d _ _ hdn=>(not_done_replicate _ _ hdn).elim,hF,hsz,hD⟩ (fun listed a w i hI hi=>?_) (fun listed a w hI hr=>hfin listed a w (all_done hbk hI.1 hr) hI.2.2.1 hI.2.2.2.1 hI.2.2.2.2.1 hI.2.2.2.2.2.1 hI.2.2.2.2.2.2)
  obtain⟨h1,h2,h3⟩:=ready_spec hi
  obtain⟨hls,hcl,hG',hL,hF',hsz',hD'⟩:=hI
  have ho:ops[i]?=some ops[i]:=Array.getElem?_eq_getElem h1
  have hnd:¬ DoneAt listed i:=fun hc=>by
    unfold DoneAt at hc
    have:i<listed.size:=by omega
    rw [Array.getD_eq_getD_getElem?,Array.getElem?_eq_getElem this] at h2 hc
    simp only [Option.getD_some] at h2 hc
    rw [h2] at hc
    cases hc
  refine wpOp_imp ?_ (hstep i ops[i] listed a w h1 ho hls hcl (h3 _ ho) hnd hG' hL hF' hsz')
  rintro a' w' ⟨v,rfl,hp,hG2,hst⟩
  have hmem:∀ d,(ops[i]).dst=some d→d∈ops.toList.filterMap (·.dst):=fun d e=>List.mem_filterMap.2 ⟨ops[i],by simp,e⟩
  refine⟨by simpa using hls,fun j o hjo hjd e he hb=>?_,hG2,fun j o d hjo hjd hdn=>?_,fun q hq=>?_,by rw [size_put];exact hsz',by rw [defers_put];exact hD'⟩
  · rcases done_set hjd with rfl | hjd
    · rw [ho] at hjo
      cases hjo
      exact done_mono (h3 _ ho e he hb)
    · exact done_mono (hcl j o hjo hjd e he hb)
  · by_cases e:j=i
    · subst e
      rw [ho] at hjo
      cases hjo
      have hlt:=(hd d (hmem d hjd)).1
      rw [hjd,getD_put_same (by rw [hsz'];exact hlt)]
      exact hp
    · have hdj:DoneAt listed j:=(done_set hdn).resolve_left e
      have hbase:=hst j _ e hdj (hL j o d hjo hjd hdj)
      cases hid:(ops[i]).dst with
      | none=>exact hbase
      | some d2 =>
        have hne:d≠d2:=fun e2=>e (mem_filterMap_idx hn (i:=j) (j:=i) (o':=ops[i]) (by simpa using hjo) (by simp [h1]) hjd (by rw [hid,e2]))
        rw [getD_put_ne hne]
        exact hbase
  · cases hid:(ops[i]).dst with
    | none=>exact hF' q hq
    | some d2 =>
      have:=(hd d2 (hmem d2 hid)).2 q hq
      rw [getD_put_ne (by simpa using this)]
      exact hF' q hq
theorem wpOp_val {i:Nat} {o:Oper} {a:Act} {w w':World} {v:Value} {K:Act→World→Prop} (ho:ops[i]?=some o) (hg:o.guard=none) (hr:(execOp a.eval o).run P w=.ok (.value v) w') (h:K (a.put o.dst v) w'):wpOp P ops Q i K a w:=by
 unfold wpOp
 rw [ho]
 simp only
 rw [if_pos (by simp [Region.wanted,hg])]
 left
 unfold Oper.wp
 rw [hr]
 exact h
theorem wpOp_skip {i:Nat} {o:Oper} {a:Act} {w w':World} {K:Act→World→Prop} (ho:ops[i]?=some o) (hg:o.guard=none) (hr:(execOp a.eval o).run P w=.ok .skip w') (h:K (a.put o.dst undef) w'):wpOp P ops Q i K a w:=by
 unfold wpOp
 rw [ho]
 simp only
 rw [if_pos (by simp [Region.wanted,hg])]
 left
 unfold Oper.wp
 rw [hr]
 exact h
end
end Go.Proofs.YtjefgmeejhakbabGreatDoor
namespace Go.Proofs.YtjefgmeejhakbabGreatDoor
open Go.RowKit
def Eng.upd (E:Eng) (i:Nat) (f:Tx→Tx):Eng:=match E.txs[i]? with
 | some t=>E.setTx i (f t)
 | none=>E
theorem Eng.upd_some {E:Eng} {i:Nat} {t:Tx} (h:E.txs[i]?=some t) (f:Tx→Tx):E.upd i f=E.setTx i (f t):=by simp [Eng.upd,h]
theorem setTx_get {E:Eng} {i:Nat} {t u:Tx} (h:E.txs[i]?=some u):(E.setTx i t).txs[i]?=some t:=by
 have:=(List.getElem?_eq_some_iff.1 h).1
 simp [Eng.setTx,this]
theorem setTx_get_ne {E:Eng} {i j:Nat} {t:Tx} (h:i≠j):(E.setTx i t).txs[j]?=E.txs[j]?:=by
 simp [Eng.setTx,h]
theorem setTx_len (E:Eng) (i:Nat) (t:Tx):(E.setTx i t).txs.length=E.txs.length:=by simp [Eng.setTx]
theorem setTx_twice (E:Eng) (i:Nat) (t u:Tx):(E.setTx i t).setTx i u=E.setTx i u:=by simp [Eng.setTx]
def seesP (E:Eng) (t:Tx):Int:=if t.level=0 then E.last else t.start
def newerP (E:Eng) (key t:Int):List Int:=let l:=E.ks[key.toNat]?.getD [];(l.drop (lat l t+1).toNat).map (·.1)
def noteReadP (t:Tx) (key frm:Int):Tx:={ t with reads:=t.reads++[(key,frm)],seen:=t.seen.set key.toNat true }
noncomputable def putAheadP (E:Eng) (i j:Nat):Bool × Eng:=match E.txs[i]?,E.txs[j]? with
  | some t,some u =>
    (!stuckB t.state t.ahead (fun a=>t.behind a||a==(j:Int)+1)&&!stuckB u.state (fun a=>u.ahead a||a==(i:Int)+1) u.behind,
      (E.setTx i { t with behind:=fun a=>t.behind a||a==(j:Int)+1 }).setTx j { u with ahead:=fun a=>u.ahead a||a==(i:Int)+1 })
  | _,_=>(true,E)
noncomputable def aheadAll (f:Nat→Nat × Nat):List Nat→Eng→Bool × Eng
 | [],E=>(true,E)
 | j::r,E=>match putAheadP E (f j).1 (f j).2 with
  | (true,E')=>aheadAll f r E'
  | (false,E')=>(false,E')
noncomputable def aheadEach (i:Nat):List Nat→Eng→Eng
 | [],E=>E
 | j::r,E=>aheadEach i r (putAheadP E i j).2
def thoseP (E:Eng) (p:Nat→Tx→Bool):List Nat:=(List.range E.txs.length).filter (fun i=>match E.txs[i]? with | some t=>p i t | none=>false)
def strictOf (E:Eng) (n:Int):Option Nat:=if 1≤n∧n≤E.txs.length then (match E.txs[(n-1).toNat]? with | some t=>if t.level=2 then some (n-1).toNat else none | none=>none) else none
def writesB (key:Int) (u:Tx):Bool:=(u.vals key).isSome&&(u.level==2&&liveB u.state)
def wasOverB (u:Tx) (n:Int):Bool:=!liveB u.state&&decide (u.bae<n)
def hasReadB (key:Int) (i:Nat) (j:Nat) (u:Tx):Bool:=u.seen[key.toNat]?.getD false&&(decide (j≠i)&&(u.level==2&&(decide (u.state≠3)&&!wasOverB u ((i:Int)+1))))
noncomputable def aheadTimes (i:Nat):List Int→Eng→Bool × Eng
 | [],E=>(true,E)
 | a::r,E=>match strictOf E ((E.wr a).getD 0) with
  | some j=>(match putAheadP E i j with
   | (true,E')=>aheadTimes i r E'
   | (false,E')=>(false,E'))
  | none=>aheadTimes i r E
noncomputable def aowP (E:Eng) (i:Nat) (key:Int):Bool × Eng:=match E.txs[i]? with
 | some t=>(match aheadTimes i (newerP E key t.start) E with
  | (true,E')=>(true,aheadEach i (thoseP E' (fun _ u=>writesB key u)) E')
  | (false,E')=>(false,E'))
 | none=>(true,E)
noncomputable def behindP (E:Eng) (i:Nat) (key:Int):Bool × Eng:=aheadAll (fun j=>(j,i)) (thoseP E (hasReadB key i)) E
noncomputable def putE (E:Eng) (i:Nat):Int × Eng:=match E.txs[i]? with
 | some t =>
  if t.level≠0∧newerP E t.wk t.start≠[] then (10,E) else
  let E1:=E.setTx i { t with vals:=updT t.vals t.wk (some t.wv) }
  if t.level=2 then (match behindP E1 i t.wk with
   | (true,E2)=>(0,E2)
   | (false,E2)=>(13,E2)) else (0,E1)
 | none=>(0,E)
def freeOf (n:Int) (t:Tx):Tx:={ t with ahead:=fun a=>t.ahead a&&a != n,behind:=fun a=>t.behind a&&a != n }
def loseE (E:Eng) (i:Nat) (why:Int):Eng:=match E.txs[i]? with
 | some t=>Eng.upd { E with txs:=(E.txs.set i { t with why:=why }).map (freeOf ((i:Int)+1)) } i (fun t=>{ t with reads:=[] })
 | none=>E
noncomputable def writeR (fin:Eng→Nat→Int→Option Eng) (E:Eng) (j:Nat):Option (Int × Eng):=match putE E j with
 | (why,E')=>if why=0 then some (0,E') else (fin (loseE E' j why) j 3).map (fun E=>(why,E))
noncomputable def goR (fin:Eng→Nat→Int→Option Eng):List (Int × Int)→Eng→Option Eng
  | [],E=>some E
  | (_,x)::r,E=>if 1≤x∧x≤E.txs.length then (match writeR fin (E.upd (x-1).toNat (fun t=>{ t with state:=0 })) (x-1).toNat with
    | some (_,E')=>goR fin r E'
    | none=>none) else goR fin r E
def overE (E:Eng) (i:Nat) (st:Int):Eng:=let E1:=E.upd i (fun t=>{ t with state:=st,bae:=E.txs.length });{ E1 with T:=dropP E1.T ((i:Int)+1) }
noncomputable def endF:Nat→Eng→Nat→Int→Option Eng
 | 0,_,_,_=>none
 | f+1,E,i,st=>goR (endF f) (outP E.T ((i:Int)+1)) (overE E i st)
end Go.Proofs.YtjefgmeejhakbabGreatDoor
namespace Go.Proofs.YtjefgmeejhakbabGreatDoor
open Go.RowKit
variable {w:World} {L:EnL} {E:Eng}
set_option maxRecDepth 100000 in
set_option maxHeartbeats 1000000 in
theorem find_ok (h:EnAt w L E) {i:Nat} {l:TxL} (hl:L.txs[i]?=some l) :
  Calls Tryz.prog 169 #[.pointer (some ⟨L.s,0,none⟩),.int .i64 ((i:Int)+1)] w fun e w'=>e=.returned (.tuple #[.pointer (some ⟨l.b,0,none⟩),.nilIface])∧w'=w:=by
 have c14:=h.c14
 have hi:=(List.getElem?_eq_some_iff.1 hl).1
 have hle:=h.le
 have hlen:=h.len
 rcases row_slice h.all with ⟨_,e⟩ | ⟨g,cap,e,hg,hc⟩
 ·omega
 ·have hcell:w.cell? ⟨g,i,none⟩=some (.pointer (some ⟨l.b,0,none⟩)):=hc i _ (show (L.bs.map ptrV)[i]?=some (ptrV l.b) from by rw [List.getElem?_map,bs_get hl];rfl)
  rw [e] at c14
  obtain⟨m,hm⟩:∃ m,L.txs.length=m:=⟨_,rfl⟩
  rw [hm] at c14 hi hlen
  clear h hl hc e hm
  have g1:¬ (i:Int)+1<1:=by omega
  have g2:decide ((m:Int)<(i:Int)+1)=false:=by simp;omega
  have g3:(0:Int)≤(i:Int):=by omega
  have g4:(i:Int)<(m:Int):=by omega
  have g5:(i:Int)+1-1=(i:Int):=by omega
  have g6:IntKind.i64.wrap (i:Int)=(i:Int):=IntWalk.i64_in _ (by omega)
  go_enter Tryz.func169,Tryz.ntmps169
  go_wp2
  go_ret2
  exact⟨rfl,rfl⟩
set_option maxRecDepth 100000 in
set_option maxHeartbeats 1000000 in
theorem find_err (h:EnAt w L E) {n:Int} (hn:n<1∨(E.txs.length:Int)<n) :
  Calls Tryz.prog 169 #[.pointer (some ⟨L.s,0,none⟩),.int .i64 n] w fun e w'=>e=.returned (.tuple #[.pointer none,errV 7])∧w'=w:=by
 have c14:=h.c14
 have hle:=h.le
 have hlen:=h.len
 obtain⟨ad,cap,e⟩:=row_form h.all
 rw [e] at c14
 obtain⟨m,hm⟩:∃ m,L.txs.length=m:=⟨_,rfl⟩
 rw [hm] at c14 hlen
 rw [← hlen] at hn hle
 clear h e hm hlen
 by_cases g1:n<1
 ·clear hn
  go_enter Tryz.func169,Tryz.ntmps169
  go_wp2
  go_ret2
  exact⟨rfl,rfl⟩
 ·have g2:decide ((m:Int)<n)=true:=by simp;omega
  clear hn
  go_enter Tryz.func169,Tryz.ntmps169
  go_wp2
  go_ret2
  exact⟨rfl,rfl⟩
set_option maxRecDepth 100000 in
set_option maxHeartbeats 1000000 in
theorem open_ok (h:EnAt w L E) {i:Nat} {l:TxL} {t:Tx} (hl:L.txs[i]?=some l) (ht:E.txs[i]?=some t) (hs:t.state=0) :
  Calls Tryz.prog 194 #[.pointer (some ⟨L.s,0,none⟩),.int .i64 ((i:Int)+1)] w fun e w'=>e=.returned (.tuple #[.pointer (some ⟨l.b,0,none⟩),.nilIface])∧w'=w:=by
 have c3:=(h.txs i l t hl ht).c3
 rw [hs] at c3
 have HC:=hid (find_ok h hl)
 clear h hl ht hs
 go_enter Tryz.func194,Tryz.ntmps194
 go_wp2_with fail
 refine HC.out.mono ?_
 rintro e w1 ⟨rfl,rfl⟩
 go_wp2
 go_ret2
 exact⟨rfl,rfl⟩
set_option maxRecDepth 100000 in
set_option maxHeartbeats 1000000 in
theorem open_state (h:EnAt w L E) {i:Nat} {l:TxL} {t:Tx} (hl:L.txs[i]?=some l) (ht:E.txs[i]?=some t) (hs:t.state≠0) :
  Calls Tryz.prog 194 #[.pointer (some ⟨L.s,0,none⟩),.int .i64 ((i:Int)+1)] w fun e w'=>e=.returned (.tuple #[.pointer none,errV 6])∧w'=w:=by
 have c3:=(h.txs i l t hl ht).c3
 obtain⟨st,hst⟩:∃ st,t.state=st:=⟨_,rfl⟩
 rw [hst] at c3 hs
 have HC:=hid (find_ok h hl)
 clear h hl ht hst
 have g1:(st != 0)=true:=by simpa using hs
 clear hs
 go_enter Tryz.func194,Tryz.ntmps194
 go_wp2_with fail
 refine HC.out.mono ?_
 rintro e w1 ⟨rfl,rfl⟩
 go_wp2
 go_ret2
 exact⟨rfl,rfl⟩
set_option maxRecDepth 100000 in
set_option maxHeartbeats 1000000 in
theorem open_err (h:EnAt w L E) {n:Int} (hn:n<1∨(E.txs.length:Int)<n) :
  Calls Tryz.prog 194 #[.pointer (some ⟨L.s,0,none⟩),.int .i64 n] w fun e w'=>e=.returned (.tuple #[.pointer none,errV 7])∧w'=w:=by
 have HC:=hid (find_err h hn)
 clear h hn
 go_enter Tryz.func194,Tryz.ntmps194
 go_wp2_with fail
 refine HC.out.mono ?_
 rintro e w1 ⟨rfl,rfl⟩
 rw [show errV 7=Value.iface 33 (.int .i64 7) from rfl]
 go_wp2
 go_ret2
 exact⟨rfl,rfl⟩
set_option maxRecDepth 100000 in
set_option maxHeartbeats 1000000 in
theorem sees_any (h:EnAt w L E) {i:Nat} {l:TxL} {t:Tx} (hl:L.txs[i]?=some l) (ht:E.txs[i]?=some t) :
  Calls Tryz.prog 196 #[.pointer (some ⟨L.s,0,none⟩),.pointer (some ⟨l.b,0,none⟩)] w fun e w'=>e=.returned (.int .i64 (seesP E t))∧w'=w:=by
 have hA:=h.txs i l t hl ht
 have c1:=hA.c1
 have c2:=hA.c2
 have HC:=hid (last_any _ _ _ _ _ w h.sto)
 unfold seesP
 obtain⟨lv,hlv⟩:∃ lv,t.level=lv:=⟨_,rfl⟩
 rw [hlv] at c1 ⊢
 clear h hl ht hA hlv
 by_cases h0:lv=0
 ·subst h0
  rw [if_pos rfl]
  go_enter Tryz.func196,Tryz.ntmps196
  go_wp2_with fail
  refine HC.out.mono ?_
  rintro e w1 ⟨rfl,rfl⟩
  go_wp2
  go_ret
  exact⟨rfl,rfl⟩
 ·rw [if_neg h0]
  have g1:(lv==0)=false:=by simpa using h0
  clear h0 HC
  go_enter Tryz.func196,Tryz.ntmps196
  go_wp2
  go_ret
  exact⟨rfl,rfl⟩
theorem newer_len (E:Eng) (k:Nat) (t:Int) (l:List (Int × Int)) (hl:E.ks[k]?=some l):newerP E (k:Int) t=(l.drop (lat l t+1).toNat).map (·.1):=by simp [newerP,hl]
set_option maxRecDepth 100000 in
set_option maxHeartbeats 1000000 in
theorem isNewer_any (h:EnAt w L E) {key:Int} (hk:0≤key∧key<10) (t:Int) (hks:∀ l∈E.ks,l.length≤100000) :
  Calls Tryz.prog 313 #[.pointer (some ⟨L.s,0,none⟩),.int .i64 key,.int .i64 t] w fun e w'=>e=.returned (.bool (decide (newerP E key t≠[])))∧Below w.heap.size w w':=by
 obtain⟨k,rfl⟩:∃ k:Nat,key=k:=⟨key.toNat,by omega⟩
 have hk2:k<E.ks.length:=by have:=h.sto.lk;omega
 obtain⟨l,hl⟩:∃ l,E.ks[k]?=some l:=⟨E.ks[k],List.getElem?_eq_getElem hk2⟩
 have hll:=hks l (List.mem_of_getElem? hl)
 have HC:=hid (newer_any _ _ k _ t _ _ l w h.sto hl (by omega))
 rw [newer_len E k t l hl]
 have hlen:((l.drop (lat l t+1).toNat).map (·.1)).length=(l.drop (lat l t+1).toNat).length:=by simp
 have hle:(l.drop (lat l t+1).toNat).length≤l.length:=by simp
 have hiff:decide ((l.drop (lat l t+1).toNat).map (·.1)≠[])=decide (0<(l.drop (lat l t+1).toNat).length):=by
  rw [decide_eq_decide,List.length_pos_iff]
  simp
 rw [hiff]
 obtain⟨m,hm⟩:∃ m,(l.drop (lat l t+1).toNat).length=m:=⟨_,rfl⟩
 rw [hm] at HC hle ⊢
 clear hlen hiff h hl hks hk hk2 hm
 go_enter Tryz.func313,Tryz.ntmps313
 go_wp2_with fail
 refine HC.out.mono ?_
 rintro e w1 ⟨tv,rfl,ho,hB⟩
 obtain⟨ad,cap,rfl⟩:=row_form ho
 have HB:=hid hB
 clear ho hB HC
 go_wp2
 go_ret
 exact⟨by simp,HB.out⟩
set_option maxRecDepth 100000 in
set_option maxHeartbeats 1000000 in
theorem wasOver_any {b1 b2:Nat} {st bae n:Int} (c3:w.cell? ⟨b1,3,none⟩=some (.int .i64 st)) (c5:w.cell? ⟨b1,5,none⟩=some (.int .i64 bae)) (d0:w.cell? ⟨b2,0,none⟩=some (.int .i64 n)) :
  Calls Tryz.prog 363 #[.pointer (some ⟨b1,0,none⟩),.pointer (some ⟨b2,0,none⟩)] w fun e w'=>e=.returned (.bool (!liveB st&&decide (bae<n)))∧∃ q,w'=w.drewN q:=by
 have HC:=hid (fun q=>lives_any b1 st (w.drewN q) (by rw [World.cell?_drewN];exact c3))
 cases hb:liveB st with
 | true =>
  rw [hb] at HC
  clear hb
  go_enter Tryz.func363,Tryz.ntmps363
  go_wp2
  go_quiet (first | (go_at_call 170;refine Calls.quiet_of_same (HC.out _)))
  go_wp2
  go_ret
  exact⟨rfl,_,rfl⟩
 | false =>
  rw [hb] at HC
  clear hb
  go_enter Tryz.func363,Tryz.ntmps363
  go_wp2
  go_quiet (first | (go_at_call 170;refine Calls.quiet_of_same (HC.out _)))
  go_wp2
  go_ret
  exact⟨rfl,_,rfl⟩
end Go.Proofs.YtjefgmeejhakbabGreatDoor
namespace Go.Proofs.YtjefgmeejhakbabGreatDoor
abbrev Opp:=Int × Int × Bool × Int
def opBad (o:Opp):Bool:=decide (o.1<1∨o.2.2.2<0∨¬ (0≤o.2.1∧o.2.1<10))
def wStep (key:Int) (w:List Int) (o:Opp):List Int:=if o.2.2.1=true∧o.2.1=key∧w.getLast?≠some o.1 then w++[o.1] else w
def writersP (l:List Opp) (key:Int):List Int:=l.foldl (wStep key) []
def conP:List Int→List (Int × Int)
 | a::b::r=>(a,b)::conP (b::r)
 | _=>[]
def firstAt (x:Int):List Int→Option Nat
 | []=>none
 | a::r=>if a=x then some 0 else (firstAt x r).map (·+1)
def readP (w:List Int) (o:Opp):Option (List (Int × Int)) :=
 if o.2.2.2=0 then some ((w[0]?).toList.map (fun x=>(o.1,x)))
 else (firstAt o.2.2.2 w).map (fun i=>(o.2.2.2,o.1)::(w[i+1]?).toList.map (fun x=>(o.1,x)))
def opPairs (l:List Opp) (o:Opp):Option (List (Int × Int)):=(if o.2.2.1=true then some [] else readP (writersP l o.2.1) o).map (fun r=>conP (writersP l o.2.1)++r)
theorem wStep_mem {key:Int} {w:List Int} {o:Opp} {x:Int} (h:x∈wStep key w o):x∈w∨x=o.1:=by
 unfold wStep at h
 split at h
 ·rw [List.mem_append,List.mem_singleton] at h;exact h
 ·exact .inl h
theorem foldl_mem (key:Int):∀ (l:List Opp) (w:List Int) (x:Int),x∈l.foldl (wStep key) w→x∈w∨∃ o∈l,o.1=x
 | [],w,x,h=>.inl h
 | o::r,w,x,h=>by
  rcases foldl_mem key r (wStep key w o) x h with h | ⟨o',ho,e⟩
  ·rcases wStep_mem h with h | h
   ·exact .inl h
   ·exact .inr ⟨o,by simp,h.symm⟩
  ·exact .inr ⟨o',by simp [ho],e⟩
theorem writers_tx {l:List Opp} {key x:Int} (h:x∈writersP l key):∃ o∈l,o.1=x:=(foldl_mem key l [] x h).resolve_left (by simp)
theorem conP_mem:∀ (w:List Int) (a b:Int),(a,b)∈conP w→a∈w∧b∈w
 | [],a,b,h=>by simp [conP] at h
 | [_],a,b,h=>by simp [conP] at h
 | x::y::r,a,b,h=>by
  rw [conP,List.mem_cons] at h
  rcases h with h | h
  ·injection h with h1 h2;subst h1;subst h2;simp
  ·have:=conP_mem (y::r) a b h
   exact⟨List.mem_cons_of_mem _ this.1,List.mem_cons_of_mem _ this.2⟩
theorem firstAt_mem:∀ (w:List Int) (x:Int) (i:Nat),firstAt x w=some i→x∈w
 | [],x,i,h=>by simp [firstAt] at h
 | a::r,x,i,h=>by
  rw [firstAt] at h
  by_cases e:a=x
  ·simp [e]
  ·rw [if_neg e] at h
   cases hf:firstAt x r with
   | none=>rw [hf] at h;simp at h
   | some j=>exact List.mem_cons_of_mem _ (firstAt_mem r x j hf)
theorem opPairs_tx {l:List Opp} {o:Opp} (ho:o∈l) {p:List (Int × Int)} (h:opPairs l o=some p) {a b:Int} (hab:(a,b)∈p):(∃ o∈l,o.1=a)∧∃ o∈l,o.1=b:=by
 unfold opPairs at h
 cases hr:(if o.2.2.1=true then some [] else readP (writersP l o.2.1) o) with
 | none=>rw [hr] at h;simp at h
 | some r =>
  rw [hr] at h
  simp only [Option.map_some,Option.some.injEq] at h
  subst h
  rcases List.mem_append.1 hab with hc | hc
  ·have:=conP_mem _ a b hc
   exact⟨writers_tx this.1,writers_tx this.2⟩
  ·split at hr
   ·cases hr;simp at hc
   ·unfold readP at hr
    split at hr
    ·cases hr
     rw [List.mem_map] at hc
     obtain⟨x,hx,e⟩:=hc
     injection e with e1 e2
     subst e1;subst e2
     exact⟨⟨o,ho,rfl⟩,writers_tx (List.mem_of_getElem? (by simpa using hx))⟩
    ·cases hf:firstAt o.2.2.2 (writersP l o.2.1) with
     | none=>rw [hf] at hr;simp at hr
     | some i =>
      rw [hf] at hr
      simp only [Option.map_some,Option.some.injEq] at hr
      subst hr
      rcases List.mem_cons.1 hc with e | hc
      ·injection e with e1 e2
       subst e1;subst e2
       exact⟨writers_tx (firstAt_mem _ _ _ hf),⟨o,ho,rfl⟩⟩
      ·rw [List.mem_map] at hc
       obtain⟨x,hx,e⟩:=hc
       injection e with e1 e2
       subst e1;subst e2
       exact⟨⟨o,ho,rfl⟩,writers_tx (List.mem_of_getElem? (by simpa using hx))⟩
def lt2 (a b:Int × Int):Prop:=a.1<b.1∨a.1=b.1∧a.2<b.2
theorem lt2_trans {a b c:Int × Int} (h:lt2 a b) (k:lt2 b c):lt2 a c:=by unfold lt2 at *;omega
theorem lt2_irrefl (a:Int × Int):¬ lt2 a a:=by unfold lt2;omega
theorem lt2_total (a b:Int × Int):lt2 a b∨a=b∨lt2 b a:=by
 obtain⟨a1,a2⟩:=a
 obtain⟨b1,b2⟩:=b
 simp only [lt2,Prod.mk.injEq]
 omega
theorem rising_ext:∀ (l m:List (Int × Int)),l.Pairwise lt2→m.Pairwise lt2→(∀ x,x∈l↔x∈m)→l=m
 | [],m,_,_,h=>by
  cases m with
  | nil=>rfl
  | cons b r=>have:=(h b).2 (by simp);simp at this
 | a::l,m,hl,hm,h=>by
  cases m with
  | nil=>have:=(h a).1 (by simp);simp at this
  | cons b m =>
   obtain⟨hl1,hl2⟩:=List.pairwise_cons.1 hl
   obtain⟨hm1,hm2⟩:=List.pairwise_cons.1 hm
   have e:a=b:=by
    rcases lt2_total a b with e | e | e
    ·rcases List.mem_cons.1 ((h a).1 (by simp)) with e2 | e2
     ·exact e2
     ·exact absurd (lt2_trans e (hm1 a e2)) (lt2_irrefl a)
    ·exact e
    ·rcases List.mem_cons.1 ((h b).2 (by simp)) with e2 | e2
     ·exact e2.symm
     ·exact absurd (lt2_trans e (hl1 b e2)) (lt2_irrefl b)
   subst e
   rw [rising_ext l m hl2 hm2 (fun x=>?_)]
   constructor
   ·intro hx
    rcases List.mem_cons.1 ((h x).1 (List.mem_cons_of_mem _ hx)) with e | e
    ·subst e;exact absurd (hl1 x hx) (lt2_irrefl x)
    ·exact e
   ·intro hx
    rcases List.mem_cons.1 ((h x).2 (List.mem_cons_of_mem _ hx)) with e | e
    ·subst e;exact absurd (hm1 x hx) (lt2_irrefl x)
    ·exact e
def freeB (E:List (Int × Int)) (left:List Int) (x:Int):Bool:=E.all (fun e=>!(e.2==x&&left.contains e.1))
def leastP:List Int→Option Int
 | []=>none
 | a::r=>match leastP r with
  | none=>some a
  | some b=>some (if a≤b then a else b)
theorem leastP_none {l:List Int}:leastP l=none↔l=[]:=by
 cases l with
 | nil=>simp [leastP]
 | cons a r =>
  simp only [leastP]
  cases leastP r<;>simp
theorem leastP_some:∀ (l:List Int) (x:Int),leastP l=some x→x∈l∧∀ y∈l,x≤y
 | [],x,h=>by simp [leastP] at h
 | a::r,x,h=>by
  rw [leastP] at h
  cases hr:leastP r with
  | none =>
   rw [hr] at h
   have e:=leastP_none.1 hr
   subst e
   simp only [Option.some.injEq] at h
   subst h
   simp
  | some b =>
   rw [hr] at h
   simp only [Option.some.injEq] at h
   obtain⟨h1,h2⟩:=leastP_some r b hr
   by_cases e:a≤b
   ·rw [if_pos e] at h
    subst h
    refine⟨by simp,fun y hy=>?_⟩
    rcases List.mem_cons.1 hy with rfl | hy
    ·exact Int.le_refl _
    ·exact Int.le_trans e (h2 y hy)
   ·rw [if_neg e] at h
    subst h
    refine⟨List.mem_cons_of_mem _ h1,fun y hy=>?_⟩
    rcases List.mem_cons.1 hy with rfl | hy
    ·omega
    ·exact h2 y hy
theorem least_of {l:List Int} {x:Int} (hx:x∈l) (hl:∀ y∈l,x≤y):leastP l=some x:=by
 cases h:leastP l with
 | none=>rw [leastP_none.1 h] at hx;simp at hx
 | some z =>
  obtain⟨h1,h2⟩:=leastP_some l z h
  have:=hl z h1
  have:=h2 x hx
  rw [show z=x by omega]
def lineP (E:List (Int × Int)):Nat→List Int→Option (List Int)
 | 0,_=>some []
 | n+1,left=>if left=[] then some [] else match leastP (left.filter (freeB E left)) with
  | none=>none
  | some x=>(lineP E n (left.filter (fun y=>y != x))).map (fun r=>x::r)
theorem filter_lt {left:List Int} {x:Int} (hx:x∈left):(left.filter (fun y=>y != x)).length<left.length:=by
 refine List.length_filter_lt_length_iff_exists.2 ⟨x,hx,by simp⟩
def Before (out:List Int) (a b:Int):Prop:=∃ p q,out=p++b::q∧a∈p
theorem line_ok (E:List (Int × Int)):∀ (n:Nat) (left out:List Int),left.length≤n→left.Nodup→lineP E n left=some out→(∀ x,x∈out↔x∈left)∧out.Nodup∧∀ a b,(a,b)∈E→a≠b→a∈left→b∈left→Before out a b
 | 0,left,out,hl,hn,h=>by
  have e:left=[]:=List.eq_nil_of_length_eq_zero (by omega)
  subst e
  cases h
  exact⟨by simp,by simp,fun a b _ _ ha=>by simp at ha⟩
 | n+1,left,out,hl,hn,h=>by
  rw [lineP] at h
  by_cases e:left=[]
  ·rw [if_pos e] at h
   subst e
   cases h
   exact⟨by simp,by simp,fun a b _ _ ha=>by simp at ha⟩
  ·rw [if_neg e] at h
   cases hb:leastP (left.filter (freeB E left)) with
   | none=>rw [hb] at h;simp at h
   | some x =>
    rw [hb] at h
    simp only at h
    obtain⟨hx1,hx2⟩:=leastP_some _ _ hb
    have hxl:=(List.mem_filter.1 hx1).1
    have hxf:=(List.mem_filter.1 hx1).2
    cases hr:lineP E n (left.filter (fun y=>y != x)) with
    | none=>rw [hr] at h;simp at h
    | some r =>
     rw [hr] at h
     simp only [Option.map_some,Option.some.injEq] at h
     subst h
     have hlt:=filter_lt hxl
     obtain⟨i1,i2,i3⟩:=line_ok E n _ r (by omega) (hn.sublist List.filter_sublist) hr
     refine⟨fun y=>?_,List.nodup_cons.2 ⟨fun hxr=>?_,i2⟩,fun a b hab hne ha hb'=>?_⟩
     ·rw [List.mem_cons,i1 y,List.mem_filter]
      constructor
      ·rintro (rfl | h)
       ·exact hxl
       ·exact h.1
      ·intro hy
       by_cases e:y=x
       ·exact .inl e
       ·exact .inr ⟨hy,by simpa using e⟩
     ·have:=(List.mem_filter.1 ((i1 x).1 hxr)).2
      simp at this
     ·by_cases ebx:b=x
      ·subst ebx
       exfalso
       have:=List.all_eq_true.1 hxf (a,b) hab
       simp [ha] at this
      ·have hbr:b∈r:=(i1 b).2 (List.mem_filter.2 ⟨hb',by simpa using ebx⟩)
       by_cases eax:a=x
       ·subst eax
        obtain⟨p,q,hpq⟩:=List.append_of_mem hbr
        exact⟨a::p,q,by rw [hpq];rfl,by simp⟩
       ·obtain⟨p,q,hpq,hap⟩:=i3 a b hab hne (List.mem_filter.2 ⟨ha,by simpa using eax⟩) (List.mem_filter.2 ⟨hb',by simpa using ebx⟩)
        exact⟨x::p,q,by rw [hpq];rfl,List.mem_cons_of_mem _ hap⟩
end Go.Proofs.YtjefgmeejhakbabGreatDoor
