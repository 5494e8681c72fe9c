/- EsAll EnSmall EnAhead FtAsk: put together for a claim. -/
import Derived.Test.YtjefgmeejhakbaaGreatDoorMgAH
import Derived.Test.YtjefgmeejhakbaaGreatDoorEkDrop
import Derived.Test.YtjefgmeejhakbaaGreatDoorMgAB
/- (*Store).All, of a store at the head of a greater block. -/
namespace Go.Proofs.YtjefgmeejhakbaaGreatDoor
open Go.RowKit
variable {P:Tail}
theorem lat_bounds (l:List (Int × Int)) (t:Int):lat l t<l.length∧-1≤lat l t:=lat_lt l t l.length
def allK (f:Nat→Option (Int × Int)):Nat→List (Int × Int)
 | 0=>[]
 | j+1=>allK f j++(match f j with | some p=>[((j:Int),p.2)] | none=>[])
theorem allK_some (f:Nat→Option (Int × Int)) (j:Nat) (p:Int × Int) (h:f j=some p):allK f (j+1)=allK f j++[((j:Int),p.2)]:=by simp [allK,h]
theorem allK_none (f:Nat→Option (Int × Int)) (j:Nat) (h:f j=none):allK f (j+1)=allK f j:=by simp [allK,h]
theorem allK_length (f:Nat→Option (Int × Int)):∀ j,(allK f j).length≤j
 | 0=>by simp [allK]
 | j+1=>by
  have:=allK_length f j
  rw [allK]
  cases f j<;>simp<;>omega
def rdP (t:Int) (l:List (Int × Int)):Option (Int × Int):=if 0≤lat l t then l[(lat l t).toNat]? else none
theorem rdP_some (t:Int) (l:List (Int × Int)) (m:Nat) (a x:Int) (h:lat l t=m) (hx:l[m]?=some (a,x)):rdP t l=some (a,x):=by
 rw [rdP,h,if_pos (by omega)];simpa using hx
theorem rdP_none (t:Int) (l:List (Int × Int)) (h:lat l t<0):rdP t l=none:=by rw [rdP,if_neg (by omega)]
set_option maxRecDepth 100000 in
set_option maxHeartbeats 2000000 in
theorem all_any (base s:Nat) (last t:Int) (vs:List Value) (ks:List (List (Int × Int))) (w:World) (h:Sto P w base s last vs ks) (hks:∀ l∈ks,l.length≤1000000) :
  Calls Tryz.prog 96 #[.pointer (some ⟨s,0,none⟩),.int .i64 t] w fun e w'=>∃ tv,e=.returned tv ∧
   w'.ownsRow w.heap.size 78 2 tv (allK (fun k=>rdP t (ks[k]?.getD [])) 10).length (vrow (allK (fun k=>rdP t (ks[k]?.getD [])) 10))∧Below w.heap.size w w':=by
 obtain⟨i0,hi0,hz0,hz1,hz2⟩:=info_parts info78
 have hld:w.rangeAt s 1 vs:=fun j v hv=>h.cell hv
 have hin:(Tryz.prog.info? 154).map (·.size)=some vs.length:=by rw [info24,h.lv]
 go_enter Tryz.func96,Tryz.ntmps96
 go_wp2_with (refine wpList_load_mid (by rfl) 154 _ (by rfl) s 1 (by rfl) vs (.array 10 153) hld Tryz.underlying154 rfl hin ?_)
 clear hld hin
 have HS:=hid h
 clear h
 go_loopw [5,13] (fun tv i wr=>∃ j:Nat,j≤10∧i=.int .i64 j∧wr.ownsRow w.heap.size 78 2 tv (allK (fun k=>rdP t (ks[k]?.getD [])) j).length (vrow (allK (fun k=>rdP t (ks[k]?.getD [])) j))∧Below w.heap.size w wr) (fun _ i _=>10-(intOf i).toNat)
 case atStart=>exact⟨0,by omega,rfl,by simpa [allK,vrow] using World.ownsRow_nil w w.heap.size 78 2,Below.refl _ _⟩
 case round =>
  obtain⟨j,hj,rfl,hown,hB⟩:=hrel
  have hBs:=hB.size
  have hal:=allK_length (fun k=>rdP t (ks[k]?.getD [])) j
  by_cases hlt:j<10
  ·obtain⟨ad,cap,l,hv,hl,ho⟩:=HS.out.slice hlt
   have hix:=run_key hv hlt
   have hll:=hks l (List.mem_of_getElem? hl)
   have hj0:(0:Int)≤(j:Int):=by omega
   have hj1:(j:Int)<10:=by omega
   have hvers:=(vers_of_owns ho).below hB
   have hvers2:Vers wr.heap.size wr (.slice ad l.length cap) l:=hvers.mono hBs
   have hlat:=lat_bounds l t
   have hgd:Hid (ks[j]?.getD []=l):=by show _=_;rw [hl];rfl
   have HO:=hid hown
   have HV:=hid hvers2
   clear hown hl hv ho hvers hvers2
   by_cases hpos:0≤lat l t
   ·obtain⟨m,hm⟩:∃ m:Nat,lat l t=m:=⟨(lat l t).toNat,by omega⟩
    have hml:m<l.length:=by omega
    obtain⟨⟨a,x⟩,hax⟩:∃ p,l[m]?=some p:=⟨l[m],List.getElem?_eq_getElem hml⟩
    have hst:=hid (allK_some (fun k=>rdP t (ks[k]?.getD [])) j (a,x) (by rw [hgd.out];exact rdP_some t l m a x hm hax))
    obtain⟨g,rfl,hg,hrow⟩:∃ g,ad=some ⟨g,0,none⟩∧g<wr.heap.size∧Row wr g l:=by
     rcases HV.out with ⟨_,e⟩ | ⟨b,c,e,h1,h2⟩
     ·subst e;simp at hml
     ·simp at e;exact⟨b,e.1,h1,h2⟩
    obtain⟨r1,r2⟩:=hrow m a x hax
    have HM:=hid hm
    have hm0:(0:Int)≤(m:Int):=by omega
    have hm1:(m:Int)<(l.length:Int):=by omega
    clear hax hm hpos hlat hrow
    go_wp2_with fail
    refine (latest_any _ _ _ t l hll wr HV.out).mono ?_
    rintro e w1 ⟨rfl,hB1⟩
    rw [HM.out]
    have hBw:=hB.trans (hB1.mono hBs)
    have hBws:=hBw.size
    have HO1:=hid (owns_same HO.out (fun g e=>hB1.block g (HO.out.lt g e).2))
    have r1':=(hB1.cell (p:=⟨g,m*2,none⟩) hg).trans r1
    have r2':=(hB1.cell (p:=⟨g,m*2+1,none⟩) hg).trans r2
    clear HO hB1 hB r1 r2 HV
    go_wp2_with (at_builtin;refine wpList_append_lies _ rfl _ _ _ rfl w.heap.size 78 i0 _ 2 16 Tryz.underlying23 hi0 hz0 hz1 hz2 rfl (by omega) u5 _ _ rfl (HO1.out.alloc _) ⟨w1.heap.size,0,none⟩ 1 1 [.int .i64 (j:Int),.int .i64 x] rfl rfl (World.news_of_block (cs:=#[.int .i64 (j:Int),.int .i64 x]) (t:=78) (fr:=(0,0)) (heap_alloc_new w1 _)) (by simp [Value.oneCell']) (by omega) (by unfold maxLen;omega) (by omega) (by simp;omega) (w1.heap.size+1) (by simp) ?_;intro g' cap' w2 ho hgrow hat hlt2)
    go_roundw
    case rel =>
     refine⟨j+1,by omega,by go_num,?_,?_⟩
     ·rw [hst.out,List.length_append,vrow_append];exact ho
     ·exact hBw.trans ((((Below.refl _ w1).alloc (Nat.le_refl _) _).mono hBws).grown hgrow (by simp;omega) (fun k e=>(HO1.out.lt k e).1))
    case measure=>simp [intOf];omega
   ·have hst:=hid (allK_none (fun k=>rdP t (ks[k]?.getD [])) j (by rw [hgd.out];exact rdP_none t l (by omega)))
    obtain⟨q,hq⟩:∃ q,lat l t=q:=⟨_,rfl⟩
    rw [hq] at hpos
    have HQ:=hid hq
    clear hq hlat
    go_wp2_with fail
    refine (latest_any _ _ _ t l hll wr HV.out).mono ?_
    rintro e w1 ⟨rfl,hB1⟩
    rw [HQ.out]
    have hBw:=hB.trans (hB1.mono hBs)
    have HO1:=hid (owns_same HO.out (fun g e=>hB1.block g (HO.out.lt g e).2))
    clear HO hB1 hB HV
    go_wp2
    go_roundw
    case rel=>exact⟨j+1,by omega,by go_num,by rw [hst.out];exact HO1.out,hBw⟩
    case measure=>simp [intOf];omega
  ·have hj10:j=10:=by omega
   subst hj10
   have HO:=hid hown
   clear hown
   go_wp2
   go_ret
   exact⟨_,rfl,HO.out,hB⟩
end Go.Proofs.YtjefgmeejhakbaaGreatDoor
/- Small functions of package engine. -/
namespace Go.Proofs.YtjefgmeejhakbaaGreatDoor
open Go.RowKit
def liveB (st:Int):Bool:=st==0||st==1
set_option maxRecDepth 100000 in
set_option maxHeartbeats 400000 in
theorem lives_any (b:Nat) (st:Int) (w:World) (h:w.cell? ⟨b,3,none⟩=some (.int .i64 st)) :
  Calls Tryz.prog 100 #[.pointer (some ⟨b,0,none⟩)] w fun e w'=>e=.returned (.bool (liveB st))∧w'=w:=by
 unfold liveB
 by_cases h0:st=0
 ·subst h0
  go_enter Tryz.func100,Tryz.ntmps100
  go_wp2
  go_ret
  exact⟨rfl,rfl⟩
 ·have e0:(st==0)=false:=by simpa using h0
  rw [e0]
  clear h0
  go_enter Tryz.func100,Tryz.ntmps100
  go_wp2
  go_ret
  exact⟨rfl,rfl⟩
def ISet (w:World) (b n:Nat) (s:Int→Bool):Prop:=IMap w b n (fun a=>if s a=true then some (.agg #[]) else none)
theorem ISet.len {w:World} {b n:Nat} {s:Int→Bool} (h:ISet w b n s):∃ k:Nat,k≤n∧(∀ ty,(Builtin.len_ #[181] ty #[.map (some b)]).run Tryz.prog w=.ok (.int .i64 k) w)∧(k=0↔∀ a,s a=false):=by
 obtain⟨k,h1,h2,h3⟩:=IMap.len h Tryz.underlying181
 refine⟨k,h1,h2,h3.trans ⟨fun e a=>?_,fun e a=>by rw [e a];rfl⟩⟩
 have:=e a
 cases hs:s a with
 | false=>rfl
 | true=>rw [hs] at this;cases this
def Between (sa sb:Int→Bool):Prop:=(∃ x,sa x=true)∧∃ x,sb x=true
noncomputable def betB (sa sb:Int→Bool):Bool:=@decide (Between sa sb) (Classical.propDecidable _)
theorem betB_true {sa sb:Int→Bool}:betB sa sb=true↔Between sa sb:=by unfold betB;exact @decide_eq_true_iff _ (Classical.propDecidable _)
theorem betB_false {sa sb:Int→Bool} (h:¬ Between sa sb):betB sa sb=false:=by
 cases hb:betB sa sb with
 | false=>rfl
 | true=>exact (h (betB_true.1 hb)).elim
theorem none_or (s:Int→Bool):(∃ x,s x=true)∨∀ x,s x=false:=by
 rcases Classical.em (∃ x,s x=true) with h | h
 ·exact .inl h
 ·exact .inr (fun x=>by cases hx:s x with | false=>rfl | true=>exact (h ⟨x,hx⟩).elim)
set_option maxRecDepth 100000 in
set_option maxHeartbeats 400000 in
theorem between_any (b ab hb na nb:Nat) (sa sb:Int→Bool) (w:World) (ha:w.cell? ⟨b,20,none⟩=some (.map (some ab))) (hh:w.cell? ⟨b,21,none⟩=some (.map (some hb))) (hA:ISet w ab na sa) (hB:ISet w hb nb sb) :
  Calls Tryz.prog 103 #[.pointer (some ⟨b,0,none⟩)] w fun e w'=>e=.returned (.bool (betB sa sb))∧w'=w:=by
 obtain⟨ka,_,la,za⟩:=hA.len
 obtain⟨kb,_,lb,zb⟩:=hB.len
 have HZ:=hid (And.intro za zb)
 clear za zb hA hB
 have hpos:∀ {k:Nat} {s:Int→Bool},(k=0↔∀ a,s a=false)→(k≠0↔∃ x,s x=true):=fun {k s} h=>by
  constructor
  ·intro hk
   rcases none_or s with e | e
   ·exact e
   ·exact (hk (h.2 e)).elim
  ·rintro⟨x,hx⟩ hk
   rw [h.1 hk x] at hx
   cases hx
 have HP:=hid (And.intro (hpos HZ.out.1) (hpos HZ.out.2))
 clear hpos
 by_cases h1:ka=0
 ·have e1:¬ (0:Int)<(ka:Int):=by omega
  rw [betB_false (show ¬ Between sa sb from fun h=>(HP.out.1.2 h.1) h1)]
  clear h1
  go_enter Tryz.func103,Tryz.ntmps103
  go_wp2
  go_ret
  exact⟨rfl,rfl⟩
 ·have e1:(0:Int)<(ka:Int):=by omega
  by_cases h2:kb=0
  ·have hd:decide (0<kb)=false:=by rw [h2];rfl
   rw [betB_false (show ¬ Between sa sb from fun h=>(HP.out.2.2 h.2) h2)]
   clear h1 h2
   go_enter Tryz.func103,Tryz.ntmps103
   go_wp2
   go_ret
   exact⟨rfl,rfl⟩
  ·have hd:decide (0<kb)=true:=by simp;omega
   rw [betB_true.2 ⟨HP.out.1.1 h1,HP.out.2.1 h2⟩]
   clear h1 h2
   go_enter Tryz.func103,Tryz.ntmps103
   go_wp2
   go_ret
   exact⟨rfl,rfl⟩
noncomputable def stuckB (st:Int) (sa sb:Int→Bool):Bool:=st==2&&betB sa sb
set_option maxRecDepth 100000 in
set_option maxHeartbeats 400000 in
theorem stuck_any (b ab hb na nb:Nat) (st:Int) (sa sb:Int→Bool) (w:World) (hs:w.cell? ⟨b,3,none⟩=some (.int .i64 st)) (ha:w.cell? ⟨b,20,none⟩=some (.map (some ab))) (hh:w.cell? ⟨b,21,none⟩=some (.map (some hb))) (hA:ISet w ab na sa) (hB:ISet w hb nb sb) :
  Calls Tryz.prog 211 #[.pointer (some ⟨b,0,none⟩)] w fun e w'=>e=.returned (.bool (stuckB st sa sb))∧w'=w:=by
 have HC:=hid (between_any b ab hb na nb sa sb w ha hh hA hB)
 clear ha hh hA hB
 unfold stuckB
 by_cases h2:st=2
 ·subst h2
  go_enter Tryz.func211,Tryz.ntmps211
  go_wp2_with fail
  refine HC.out.mono ?_
  rintro e w1 ⟨rfl,rfl⟩
  go_wp2
  go_ret
  exact⟨by simp,rfl⟩
 ·have e2:(st==2)=false:=by simpa using h2
  rw [e2]
  clear h2
  go_enter Tryz.func211,Tryz.ntmps211
  go_wp2
  go_ret
  exact⟨rfl,rfl⟩
end Go.Proofs.YtjefgmeejhakbaaGreatDoor
/- engine.putAhead. -/
namespace Go.Proofs.YtjefgmeejhakbaaGreatDoor
open Go.RowKit
def TxC (w:World) (b:Nat) (num st:Int) (ab hb:Nat):Prop :=
 ∃ cs,w.heap[b]?=some (.cells cs 183 (0,0))∧cs[0]?=some (.int .i64 num)∧cs[3]?=some (.int .i64 st)∧cs[20]?=some (.map (some ab))∧cs[21]?=some (.map (some hb))
section
variable {w w':World} {b ab hb:Nat} {num st:Int}
theorem TxC.c0 (h:TxC w b num st ab hb):w.cell? ⟨b,0,none⟩=some (.int .i64 num):=by obtain⟨cs,h1,h2,_⟩:=h;exact (cell_of_row w b 0 _ _ (0,0) h1).trans h2
theorem TxC.c3 (h:TxC w b num st ab hb):w.cell? ⟨b,3,none⟩=some (.int .i64 st):=by obtain⟨cs,h1,_,h2,_⟩:=h;exact (cell_of_row w b 3 _ _ (0,0) h1).trans h2
theorem TxC.c20 (h:TxC w b num st ab hb):w.cell? ⟨b,20,none⟩=some (.map (some ab)):=by obtain⟨cs,h1,_,_,h2,_⟩:=h;exact (cell_of_row w b 20 _ _ (0,0) h1).trans h2
theorem TxC.c21 (h:TxC w b num st ab hb):w.cell? ⟨b,21,none⟩=some (.map (some hb)):=by obtain⟨cs,h1,_,_,_,h2⟩:=h;exact (cell_of_row w b 21 _ _ (0,0) h1).trans h2
theorem TxC.same (h:TxC w b num st ab hb) (hs:w'.heap[b]?=w.heap[b]?):TxC w' b num st ab hb:=by obtain⟨cs,h1,r⟩:=h;exact⟨cs,hs.trans h1,r⟩
theorem TxC.lt (h:TxC w b num st ab hb):b<w.heap.size:=by obtain⟨cs,h1,_⟩:=h;exact (Array.getElem?_eq_some_iff.1 h1).1
theorem TxC.ne (h:TxC w b num st ab hb) {m n:Nat} {s:Int→Bool} (hm:ISet w m n s):b≠m:=by obtain⟨cs,h1,_⟩:=h;exact (IMap.ne hm h1).symm
end
theorem ISet.same {w w':World} {b n:Nat} {s:Int→Bool} (h:ISet w b n s) (hs:w'.heap[b]?=w.heap[b]?):ISet w' b n s:=IMap.same h hs
theorem ISet.lt {w:World} {b n:Nat} {s:Int→Bool} (h:ISet w b n s):b<w.heap.size:=IMap.lt h
theorem ISet.store {w:World} {b n:Nat} {s:Int→Bool} (h:ISet w b n s) (hn:n<maxLen) {x:Int} (hx:I64 x) :
  ∃ w',(Instr.mapUpdate 181 (.map (some b)) (.int .i64 x) (.agg #[])).run Tryz.prog w=.ok () w'∧ISet w' b (n+1) (fun a=>s a||a==x)∧w.grownBy w' (some b):=by
 obtain⟨w',h1,h2,h3⟩:=IMap.store h Tryz.underlying181 hn hx (.agg #[])
 refine⟨w',h1,h2.congr (fun a=>?_),h3⟩
 by_cases e:a=x
 ·subst e;rw [updT_same];simp
 ·rw [updT_other _ _ e];simp [e]
set_option maxRecDepth 100000 in
set_option maxHeartbeats 1000000 in
theorem putAhead_any (b1 b2 ab1 hb1 ab2 hb2 m1 m2 m3 m4:Nat) (n1 n2 st1 st2:Int) (A1 B1 A2 B2:Int→Bool) (w:World) (h1:TxC w b1 n1 st1 ab1 hb1) (h2:TxC w b2 n2 st2 ab2 hb2)
  (hA1:ISet w ab1 m1 A1) (hB1:ISet w hb1 m2 B1) (hA2:ISet w ab2 m3 A2) (hB2:ISet w hb2 m4 B2) (hn1:I64 n1) (hn2:I64 n2) (hm2:m2≤1000000) (hm3:m3≤1000000)
  (d1:hb1≠ab2) (d2:ab1≠hb1) (d3:ab1≠ab2) (d4:hb2≠hb1) (d5:hb2≠ab2) :
  Calls Tryz.prog 161 #[.pointer (some ⟨b1,0,none⟩),.pointer (some ⟨b2,0,none⟩)] w fun e w' =>
   e=.returned (.bool (!stuckB st1 A1 (fun a=>B1 a||a==n2)&&!stuckB st2 (fun a=>A2 a||a==n1) B2))∧ISet w' hb1 (m2+1) (fun a=>B1 a||a==n2)∧ISet w' ab2 (m3+1) (fun a=>A2 a||a==n1) ∧
   w'.os=w.os∧w'.tape=w.tape∧w'.output=w.output∧w.heap.size≤w'.heap.size∧∀ g,g<w.heap.size→g≠hb1→g≠ab2→w'.heap[g]?=w.heap[g]?:=by
 obtain⟨w1,hrun1,hS1,hg1⟩:=(hB1.same (w':=w.drew) rfl).store (by unfold maxLen;omega) hn2
 have e1:∀ g,g<w.heap.size→g≠hb1→w1.heap[g]?=w.heap[g]?:=fun g hg hne=>hg1.block g hg (fun e=>hne (by injection e))
 have k1:=h1.same (e1 b1 h1.lt (h1.ne hB1))
 have k2:=h2.same (e1 b2 h2.lt (h2.ne hB1))
 obtain⟨w2,hrun2,hS2,hg2⟩:=((hA2.same (e1 ab2 hA2.lt d1.symm)).same (w':=w1.drew) rfl).store (by unfold maxLen;omega) hn1
 have hs1:w.heap.size≤w1.heap.size:=hg1.size
 have e2:∀ g,g<w1.heap.size→g≠ab2→w2.heap[g]?=w1.heap[g]?:=fun g hg hne=>hg2.block g hg (fun e=>hne (by injection e))
 have q1:=k1.same (e2 b1 k1.lt (h1.ne hA2))
 have q2:=k2.same (e2 b2 k2.lt (h2.ne hA2))
 have hB1':=hS1.same (e2 hb1 hS1.lt d1)
 have hA1':=(hA1.same (e1 ab1 hA1.lt d2)).same (e2 ab1 (Nat.lt_of_lt_of_le hA1.lt hs1) d3)
 have hB2':=(hB2.same (e1 hb2 hB2.lt d4)).same (e2 hb2 (Nat.lt_of_lt_of_le hB2.lt hs1) d5)
 have HC1:=hid (stuck_any b1 ab1 hb1 m1 (m2+1) st1 A1 (fun a=>B1 a||a==n2) w2 q1.c3 q1.c20 q1.c21 hA1' hB1')
 have HC2:=hid (stuck_any b2 ab2 hb2 (m3+1) m4 st2 (fun a=>A2 a||a==n1) B2 w2 q2.c3 q2.c20 q2.c21 hS2 hB2')
 have HF:=hid (show ISet w2 hb1 (m2+1) (fun a=>B1 a||a==n2)∧ISet w2 ab2 (m3+1) (fun a=>A2 a||a==n1)∧w2.os=w.os∧w2.tape=w.tape∧w2.output=w.output∧w.heap.size≤w2.heap.size∧∀ g,g<w.heap.size→g≠hb1→g≠ab2→w2.heap[g]?=w.heap[g]? from
  ⟨hB1',hS2,hg2.os.trans hg1.os,hg2.tape.trans hg1.tape,hg2.output.trans hg1.output,Nat.le_trans hs1 hg2.size,fun g hg ha hb=>(e2 g (Nat.lt_of_lt_of_le hg hs1) hb).trans (e1 g hg ha)⟩)
 have c1:=h1.c21
 have c2:=h2.c0
 have y1:=k1.c21
 have y2:=k2.c0
 have y3:=k2.c20
 have y4:=k1.c0
 have z3:=q2.c20
 have z4:=q1.c0
 clear h1 h2 hA1 hB1 hA2 hB2 hS1 hg1 k1 k2 hS2 hg2 e1 e2 q1 q2 hB1' hA1' hB2'
 obtain⟨s1,hs1e⟩:∃ s1,stuckB st1 A1 (fun a=>B1 a||a==n2)=s1:=⟨_,rfl⟩
 obtain⟨s2,hs2e⟩:∃ s2,stuckB st2 (fun a=>A2 a||a==n1) B2=s2:=⟨_,rfl⟩
 rw [hs1e] at HC1
 rw [hs2e] at HC2
 rw [hs1e,hs2e]
 clear hs1e hs2e
 go_enter Tryz.func161,Tryz.ntmps161
 go_wp2
 go_region_held3 (fun W=>W.cell? ⟨b1,21,none⟩=some (.map (some hb1))∧W.cell? ⟨b2,0,none⟩=some (.int .i64 n2))
  (first
   | go_keep
   | exact⟨y1,y2⟩
   | fail)
  (fail)
 go_wp2
 go_region_held3 (fun W=>W.cell? ⟨b2,20,none⟩=some (.map (some ab2))∧W.cell? ⟨b1,0,none⟩=some (.int .i64 n1))
  (first
   | go_keep
   | exact⟨z3,z4⟩
   | fail)
  (fail)
 cases s1 with
 | true =>
  go_wp2_with fail
  refine HC1.out.mono ?_
  rintro e w3 ⟨rfl,hw3⟩
  rw [hw3]
  clear hw3 w3
  go_wp2
  go_ret
  exact⟨rfl,HF.out⟩
 | false =>
  go_wp2_with fail
  refine HC1.out.mono ?_
  rintro e w3 ⟨rfl,hw3⟩
  rw [hw3]
  clear hw3 w3
  go_wp2_with fail
  refine HC2.out.mono ?_
  rintro e w3 ⟨rfl,hw3⟩
  rw [hw3]
  clear hw3 w3
  go_wp2
  go_ret
  exact⟨by cases s2<;>rfl,HF.out⟩
end Go.Proofs.YtjefgmeejhakbaaGreatDoor
/- (*interleafref.Table).Ask. -/
namespace Go.Proofs.YtjefgmeejhakbaaGreatDoor
open Go.RowKit
variable {F:FEmb}
theorem RTab.put {w w1:World} {base r:Nat} {vs:List Value} {T:Tab} {k:Nat} {v:Value} {l:List Int} (h:RTab F w base r vs T) (hk:k<10) (hB:Below w.heap.size w w1) (hbase:base≤w.heap.size)
  (ho:w1.ownsRow w.heap.size 3 1 v l.length (intsV l)) (hn:l=[]→v=.slice none 0 0) :
  RTab F (w1.setCell ⟨r,2+k,none⟩ v) base r (vs.set k v) (updT T k l)∧KeptR r vs (vs.set k v) w (w1.setCell ⟨r,2+k,none⟩ v):=by
 have hr:=h.lt
 have hbb:∀ b,b≠r→(w1.setCell ⟨r,2+k,none⟩ v).heap[b]?=w1.heap[b]?:=fun b hb=>heap_setCell_other w1 ⟨r,2+k,none⟩ b v hb
 have hrb:=h.rb
 refine⟨⟨?_,by simp [h.lv],fun j u hu=>?_,fun j u hu hj=>?_,h.rb⟩,⟨hB.os,hB.tape,hB.output,by simpa using hB.size,fun b hb hne=>(hbb b hne).trans (hB.block b hb),fun g hg=>?_⟩⟩
 ·refine (heap_setCell_same w1 r (2+k) _ F.tt v ((hB.block r hr).trans h.blk)).trans ?_
  rw [F.setk (by rw [h.lv];exact hk)]
 ·by_cases e:j=k
  ·subst e
   rw [updT_same]
   rw [List.getElem?_set_self (by rw [h.lv];exact hk)] at hu
   cases hu
   exact owns_same (owns_base ho hbase) (fun g hg=>hbb g (by have:=(ho.lt g hg).1;omega))
  ·rw [updT_other _ _ (by omega)]
   rw [List.getElem?_set_ne (fun e2=>e e2.symm)] at hu
   have hou:=h.own j u hu
   exact owns_same hou (fun g hg=>(hbb g (by have:=(hou.lt g hg).1;omega)).trans (hB.block g (hou.lt g hg).2))
 ·by_cases e:j=k
  ·subst e
   rw [updT_same] at hj
   rw [List.getElem?_set_self (by rw [h.lv];exact hk)] at hu
   cases hu
   exact hn hj
  ·rw [updT_other _ _ (by omega)] at hj
   rw [List.getElem?_set_ne (fun e2=>e e2.symm)] at hu
   exact h.nl j u hu hj
 ·rcases hg with e | ⟨u,hu,hgu⟩
  ·exact .inl (.inl e)
  ·rcases List.mem_or_eq_of_mem_set hu with hu | rfl
   ·exact .inl (.inr ⟨u,hu,hgu⟩)
   ·exact .inr (ho.lt g hgu).1
def RAskPost (F:FEmb) (base r:Nat) (vs:List Value) (p:Bool × Int × Tab) (w:World) (e:Ending) (w':World):Prop :=
 e=.returned (.tuple #[.bool p.1,.int .i64 p.2.1])∧∃ vs',RTab F w' base r vs' p.2.2∧KeptR r vs vs' w w'
set_option maxRecDepth 100000 in
set_option maxHeartbeats 8000000 in
theorem rask_new (base r:Nat) (vs:List Value) (T:Tab) (tx:Int) (j:Nat) (w:World) (h:RTab F w base r vs T) (hT:Tidy0 T) (hj:j<10) (htx:1≤tx) (hbase:base≤w.heap.size) (hlen:∀ k,(T k).length≤100000)
    (hw:waitsP T tx=-1) (hn:T j=[]) :
    Calls Tryz.prog 140 #[.pointer (some ⟨r,2,none⟩),.int .i64 tx,.int .i64 (j:Int)] w (RAskPost F base r vs (true,0,updT T j [tx]) w):=by
  obtain⟨i0,hi0,hz0,hz1,hz2⟩:=info_parts info3
  have hin:inB (j:Int) 0 9=true:=by simp [inB];omega
  have hcw:=rwaits_any base r vs T tx w h hT (fun k=>by have:=hlen k;omega)
  have hch:=rholds_any base r vs T (j:Int) w h hT
  rw [hw] at hcw
  rw [(holds_zero hT).2 hn] at hch
  obtain⟨v,hv,ho⟩:=h.at hj
  have cv:=h.cell hv
  have hv0:=h.nl j v hv hn
  subst hv0
  have fv:=h.free (2+j)
  have hr:=h.lt
  have HCW:=hid hcw
  have HCH:=hid hch
  have HR:=hid h
  have g3:¬ tx<1:=by omega
  have e0:((0:Int)==tx)=false:=by simp;omega
  have hj0:(0:Int)≤(j:Int):=by omega
  have hj1:(j:Int)<10:=by omega
  clear hcw hch h hT hw hn ho hv hlen
  go_enter Tryz.func140,Tryz.ntmps140
  go_wp2_with (first
    | (go_at_call 54;refine (in_any _ _ _ _).mono ?_;rintro e w' ⟨rfl,rfl⟩)
    | (go_at_call 148;refine HCW.out.mono ?_;rintro e w' ⟨rfl,rfl⟩)
    | (go_at_call 147;refine HCH.out.mono ?_;rintro e w' ⟨rfl,rfl⟩))
  refine wp_loop_rounds 1 ?_
  rw [rounds_succ]
  have hO1:=hid (World.ownsRow_made (base:=w'.heap.size) (e:=3) (size:=1) w' #[] 0 (Nat.le_refl _) (by simp [maxLen]) rfl)
  have hO3:=hid (World.ownsRow_made (base:=w'.heap.size) (e:=3) (size:=1) (w'.alloc (.cells #[.int .i64 tx] 3)) #[] 0 (by simp) (by simp [maxLen]) rfl)
  have hN2:=hid (show ((w'.alloc (.cells #[] 3)).alloc (.cells #[.int .i64 tx] 3)).heap[w'.heap.size+1]?=some (.cells #[.int .i64 tx] 3) by have:=heap_alloc_new (w'.alloc (.cells #[] 3)) (.cells #[.int .i64 tx] 3);rwa [World.size_alloc] at this)
  have hN3:=hid (show ((w'.alloc (.cells #[.int .i64 tx] 3)).alloc (.cells #[] 3)).heap[w'.heap.size]?=some (.cells #[.int .i64 tx] 3) from (Below.heap_alloc _ _ w'.heap.size (by simp)).trans (heap_alloc_new w' _))
  go_wp2
  go_region_law
    (first
      | (refine step_append_lies _ (by rfl) _ _ _ (by rfl) w'.heap.size 3 i0 _ 1 8 Tryz.underlying29 hi0 hz0 hz1 hz2 rfl (by omega) (.slice (some ⟨w'.heap.size,0,none⟩) 0 0) 0 [] (by rfl) ((hO1.out.alloc (.cells #[.int .i64 tx] 3)).drew) ⟨w'.heap.size+1,0,none⟩ 1 1 [.int .i64 tx] (by rfl) (by rfl) (World.news_of_block (cs:=#[.int .i64 tx]) (t:=3) (fr:=(0,0)) hN2.out) (by simp [Value.oneCell']) (by omega) (by unfold maxLen;omega) (by omega) (by simp<;>omega) (w'.heap.size+1+1) (by simp) ?_
         intro g2 cap2 w2 hown2 hgrow2 hat2 hlt2
         have hBB2:Below w'.heap.size w' w2:=(((((Below.refl _ w').alloc (Nat.le_refl _) _).alloc (by simp) _).drew)).grown hgrow2 (by simp<;>omega) (fun k e=>by cases e;simp)
         have fR2:w2.frozen? ⟨r,2+j,none⟩=false:=(hBB2.frozen (p:=⟨r,2+j,none⟩) hr).trans fv
         have cR2:w2.cell? ⟨r,2+j,none⟩=some (.slice none 0 0):=(hBB2.cell (p:=⟨r,2+j,none⟩) hr).trans cv)
      | (refine step_append_lies _ (by rfl) _ _ _ (by rfl) w'.heap.size 3 i0 _ 1 8 Tryz.underlying29 hi0 hz0 hz1 hz2 rfl (by omega) (.slice (some ⟨w'.heap.size+1,0,none⟩) 0 0) 0 [] (by rfl) (by have:=hO3.out.drew;rw [World.size_alloc] at this;exact this) ⟨w'.heap.size,0,none⟩ 1 1 [.int .i64 tx] (by rfl) (by rfl) (World.news_of_block (cs:=#[.int .i64 tx]) (t:=3) (fr:=(0,0)) hN3.out) (by simp [Value.oneCell']) (by omega) (by unfold maxLen;omega) (by omega) (by simp<;>omega) (w'.heap.size+1+1) (by simp) ?_
         intro g2 cap2 w2 hown2 hgrow2 hat2 hlt2
         have hBB2:Below w'.heap.size w' w2:=(((((Below.refl _ w').alloc (Nat.le_refl _) _).alloc (by simp) _).drew)).grown hgrow2 (by simp<;>omega) (fun k e=>by cases e;simp)
         have fR2:w2.frozen? ⟨r,2+j,none⟩=false:=(hBB2.frozen (p:=⟨r,2+j,none⟩) hr).trans fv
         have cR2:w2.cell? ⟨r,2+j,none⟩=some (.slice none 0 0):=(hBB2.cell (p:=⟨r,2+j,none⟩) hr).trans cv)
      | fail)
  all_goals
    have HF:=hid (HR.out.put (k:=j) (l:=[tx]) hj hBB2 hbase (by simpa [intsV] using hown2) (by simp))
    clear hown2 hgrow2 hat2 hBB2 fR2 cR2 cv fv
    go_wp2
    go_ret2
    exact⟨rfl,_,HF.out⟩
end Go.Proofs.YtjefgmeejhakbaaGreatDoor
