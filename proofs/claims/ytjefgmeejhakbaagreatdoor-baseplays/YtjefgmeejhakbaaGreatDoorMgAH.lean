/- EsInstErr FtMem: put together for a claim. -/
import Derived.Test.YtjefgmeejhakbaaGreatDoorMgAG
import Derived.Test.YtjefgmeejhakbaaGreatDoorEkDrop
import Derived.Deep.MidRow
/- (*Store).Install where something is wrong, or there is nothing to install. -/
namespace Go.Proofs.YtjefgmeejhakbaaGreatDoor
open Go.RowKit
variable {P:Tail}
set_option maxRecDepth 100000 in
set_option maxHeartbeats 2000000 in
theorem install_order (base s:Nat) (last t:Int) (lv:Value) (vs:List Value) (ks:List (List (Int × Int))) (w:World) (h:Sto P w base s last vs ks) (ho:t≤last∨1099511627776<t) :
  Calls Tryz.prog 76 #[.pointer (some ⟨s,0,none⟩),.int .i64 t,lv] w fun e w'=>e=.returned (.iface 24 (.int .i64 10))∧w'=w:=by
 have hc0:=h.cellLast
 by_cases h1:t≤last
 ·go_enter Tryz.func76,Tryz.ntmps76
  go_wp2
  go_ret
  exact⟨rfl,rfl⟩
 ·have h2:1099511627776<t:=by omega
  go_enter Tryz.func76,Tryz.ntmps76
  go_wp2
  go_ret
  exact⟨rfl,rfl⟩
set_option maxRecDepth 100000 in
set_option maxHeartbeats 2000000 in
theorem install_empty (base s cap:Nat) (ad:Option Addr) (last t:Int) (vs:List Value) (ks:List (List (Int × Int))) (w:World) (h:Sto P w base s last vs ks) (h1:last<t) (h2:t≤1099511627776) :
  Calls Tryz.prog 76 #[.pointer (some ⟨s,0,none⟩),.int .i64 t,.slice ad 0 cap] w fun e w'=>e=.returned .nilIface ∧
   ∃ vs',Sto P w' base s t vs' ks∧Kept s vs vs' w w':=by
 have hc0:=h.cellLast
 have hf0:=h.free 0
 have d1:decide (t≤last)=false:=by simp;omega
 have d2:decide (1099511627776<t)=false:=by simp;omega
 go_enter Tryz.func76,Tryz.ntmps76
 go_wp2
 go_loop [25] (fun i=>i=.int .i64 0) (fun _=>0)
 case atStart=>rfl
 case round =>
  subst hrel
  go_wp2
  go_loop [42] (fun i=>i=.int .i64 0) (fun _=>0)
  case atStart=>rfl
  case round =>
   subst hrel
   go_wp2
   go_ret
   exact⟨rfl,vs,(h.setLast t).1,(h.setLast t).2⟩
end Go.Proofs.YtjefgmeejhakbaaGreatDoor
/- How an interleafref.Table lies in memory; its Holds, Line, Waits. -/
namespace Go.Proofs.YtjefgmeejhakbaaGreatDoor
open Go.RowKit
structure FEmb where
 a:Value
 b:Value
 post:List Value
 tt:TypeId
 ne:tt≠78
def FEmb.cells (F:FEmb) (vs:List Value):Array Value:=(F.a::F.b::(vs++F.post)).toArray
theorem FEmb.getk (F:FEmb) {vs:List Value} {k:Nat} {v:Value} (hv:vs[k]?=some v):(F.cells vs)[2+k]?=some v:=by
 unfold FEmb.cells
 rw [Nat.add_comm]
 simp only [List.getElem?_toArray,List.getElem?_cons_succ]
 rw [List.getElem?_append_left (List.getElem?_eq_some_iff.1 hv).1,hv]
theorem FEmb.setk (F:FEmb) {vs:List Value} {k:Nat} (hk:k<vs.length) (v:Value):(F.cells vs).setIfInBounds (2+k) v=F.cells (vs.set k v):=by
 unfold FEmb.cells
 rw [Nat.add_comm]
 simp only [List.setIfInBounds_toArray,List.set_cons_succ]
 rw [List.set_append_left _ _ hk]
variable {F:FEmb}
structure RTab (F:FEmb) (w:World) (base r:Nat) (vs:List Value) (T:Tab):Prop where
 blk:w.heap[r]?=some (.cells (F.cells vs) F.tt (0,0))
 lv:vs.length=10
 own:∀ (k:Nat) (v:Value),vs[k]?=some v→w.ownsRow base 3 1 v (T k).length (intsV (T k))
 nl:∀ (k:Nat) (v:Value),vs[k]?=some v→T k=[]→v=.slice none 0 0
 rb:r<base
def ROwn (r:Nat) (vs:List Value) (b:Nat):Prop:=b=r∨∃ v∈vs,v.ownBlock=some b
structure KeptR (r:Nat) (vs vs':List Value) (w w':World):Prop where
 os:w'.os=w.os
 tape:w'.tape=w.tape
 output:w'.output=w.output
 size:w.heap.size≤w'.heap.size
 block:∀ b,b<w.heap.size→b≠r→w'.heap[b]?=w.heap[b]?
 sub:∀ g,ROwn r vs' g→ROwn r vs g∨w.heap.size≤g
section
variable {w w':World} {base r:Nat} {vs vs' vs'':List Value} {T:Tab}
theorem RTab.lt (h:RTab F w base r vs T):r<w.heap.size:=(Array.getElem?_eq_some_iff.1 h.blk).1
theorem RTab.own_lt (h:RTab F w base r vs T) {b:Nat} (hb:ROwn r vs b):b<w.heap.size:=by
 rcases hb with rfl | ⟨v,hv,hg⟩
 ·exact h.lt
 ·obtain⟨k,hk,rfl⟩:=List.mem_iff_getElem.1 hv
  exact ((h.own k _ (List.getElem?_eq_getElem hk)).lt b hg).2
theorem RTab.row_ge (h:RTab F w base r vs T) {v:Value} (hv:v∈vs) {g:Nat} (hg:v.ownBlock=some g):base≤g:=by
 obtain⟨k,hk,rfl⟩:=List.mem_iff_getElem.1 hv
 exact ((h.own k _ (List.getElem?_eq_getElem hk)).lt g hg).1
theorem RTab.same (h:RTab F w base r vs T) (hs:∀ b,ROwn r vs b→w'.heap[b]?=w.heap[b]?):RTab F w' base r vs T :=
 ⟨(hs r (.inl rfl)).trans h.blk,h.lv,fun k v hv=>owns_same (h.own k v hv) (fun g hg=>hs g (.inr ⟨v,List.mem_of_getElem? hv,hg⟩)),h.nl,h.rb⟩
theorem RTab.below (h:RTab F w base r vs T) (hB:Below w.heap.size w w'):RTab F w' base r vs T:=h.same (fun b hb=>hB.block b (h.own_lt hb))
theorem RTab.cell (h:RTab F w base r vs T) {k:Nat} {v:Value} (hv:vs[k]?=some v):w.cell? ⟨r,2+k,none⟩=some v:=by
 exact (cell_of_row w r (2+k) _ F.tt (0,0) h.blk).trans (F.getk hv)
theorem RTab.free (h:RTab F w base r vs T) (o:Nat):w.frozen? ⟨r,o,none⟩=false:=by simp [World.frozen?,h.blk]
theorem RTab.at (h:RTab F w base r vs T) {k:Nat} (hk:k<10):∃ v,vs[k]?=some v∧w.ownsRow base 3 1 v (T k).length (intsV (T k)):=by
 have hl:k<vs.length:=by rw [h.lv];exact hk
 exact⟨vs[k],List.getElem?_eq_getElem hl,h.own k _ (List.getElem?_eq_getElem hl)⟩
theorem KeptR.refl (r:Nat) (vs:List Value) (w:World):KeptR r vs vs w w:=⟨rfl,rfl,rfl,Nat.le_refl _,fun _ _ _=>rfl,fun _ h=>.inl h⟩
end
theorem notKey_nil {T:Tab} (h:Tidy0 T) {k:Int} (hk:inB k 0 9=false):T k=[]:=by
 by_cases e:T k=[]
 ·exact e
 ·have:=h.rng k e
  simp [inB] at hk
  omega
set_option maxRecDepth 100000 in
set_option maxHeartbeats 2000000 in
theorem rholds_any (base r:Nat) (vs:List Value) (T:Tab) (k:Int) (w:World) (h:RTab F w base r vs T) (hT:Tidy0 T) :
  Calls Tryz.prog 147 #[.pointer (some ⟨r,2,none⟩),.int .i64 k] w fun e w'=>e=.returned (.int .i64 (holdsP T k))∧w'=w:=by
 cases hin:inB k 0 9 with
 | false =>
  have e0:holdsP T k=0:=(holds_zero hT).2 (notKey_nil hT hin)
  rw [e0]
  clear h e0
  go_enter Tryz.func147,Tryz.ntmps147
  go_wp2_with (go_at_call 54;refine (in_any _ _ _ _).mono ?_;rintro e w' ⟨rfl,rfl⟩)
  go_ret
  exact⟨rfl,rfl⟩
 | true =>
  have hk:0≤k∧k≤9:=by simpa [inB] using hin
  obtain⟨j,rfl⟩:=Int.eq_ofNat_of_zero_le hk.1
  have hj0:(0:Int)≤(j:Int):=by omega
  have hj1:(j:Int)<10:=by omega
  obtain⟨v,hv,ho⟩:=h.at (show j<10 by omega)
  have cv:=h.cell hv
  rcases row_slice ho with ⟨rfl,e0⟩ | ⟨g,c,rfl,hgl,hcg⟩
  ·have e1:holdsP T j=0:=(holds_zero hT).2 (List.eq_nil_of_length_eq_zero e0)
   rw [e1]
   clear h e1 e0 ho hv
   go_enter Tryz.func147,Tryz.ntmps147
   go_wp2_with (go_at_call 54;refine (in_any _ _ _ _).mono ?_;rintro e w' ⟨rfl,rfl⟩)
   go_ret
   exact⟨rfl,rfl⟩
  ·by_cases hn:T j=[]
   ·have e1:holdsP T j=0:=(holds_zero hT).2 hn
    have e2:(T j).length=0:=by rw [hn];rfl
    rw [e2] at cv
    rw [e1]
    clear h e1 ho hv hcg e2 hn
    go_enter Tryz.func147,Tryz.ntmps147
    go_wp2_with (go_at_call 54;refine (in_any _ _ _ _).mono ?_;rintro e w' ⟨rfl,rfl⟩)
    go_ret
    exact⟨rfl,rfl⟩
   ·obtain⟨a,l,hal⟩:∃ a l,T j=a::l:=by
     cases hT:T j with
     | nil=>exact (hn hT).elim
     | cons a l=>exact⟨a,l,rfl⟩
    have e1:holdsP T j=a:=by simp [holdsP,hal]
    have ca:w.cell? ⟨g,0,none⟩=some (.int .i64 a):=hcg 0 _ (intsV_get (by rw [hal];rfl))
    obtain⟨m,hm⟩:∃ m,(T j).length=m:=⟨_,rfl⟩
    have hm0:(0:Int)<(m:Int):=by rw [← hm,hal];simp only [List.length_cons];omega
    have hm1:((m:Int)==0)=false:=by simp;omega
    rw [hm] at cv
    rw [e1]
    clear h e1 ho hv hcg hn hal hm
    go_enter Tryz.func147,Tryz.ntmps147
    go_wp2_with (go_at_call 54;refine (in_any _ _ _ _).mono ?_;rintro e w' ⟨rfl,rfl⟩)
    go_ret
    exact⟨rfl,rfl⟩
theorem rinfo108:(Tryz.prog.info? 108).map (·.size)=some 10:=by kernel_rfl
theorem rinfo29:(Tryz.prog.info? 29).map (·.size)=some 1:=by kernel_rfl
theorem run_rkey {vs:List Value} {k:Nat} {v:Value} (hv:vs[k]?=some v) (hk:k<10) (w:World) :
  (Instr.index 108 (.agg vs.toArray) (.int .i64 (k:Int))).run Tryz.prog w=.ok v w:=by
 have hk0:(0:Int)≤(k:Int)∧(k:Int)<10:=by omega
 cases hq:Tryz.prog.info? 29 with
 | none=>have:=rinfo29;simp [hq] at this
 | some i =>
  have hs:i.size=1:=by have:=rinfo29;simpa [hq] using this
  simp [Instr.index,asIntOf,run_underlying Tryz.underlying108,sizeOf,typeInfo,hq,hs,hk0]
  rw [if_pos hk]
  simp [part,isAgg,run_underlying Tryz.underlying29,hv]
set_option maxRecDepth 100000 in
set_option maxHeartbeats 4000000 in
theorem rwaits_any (base r:Nat) (vs:List Value) (T:Tab) (tx:Int) (w:World) (h:RTab F w base r vs T) (hT:Tidy0 T) (hlen:∀ j,(T j).length≤1000000) :
  Calls Tryz.prog 148 #[.pointer (some ⟨r,2,none⟩),.int .i64 tx] w fun e w'=>e=.returned (.int .i64 (waitsP T tx))∧w'=w:=by
 have hld:w.rangeAt r 2 vs:=fun j v hv=>h.cell hv
 have hin:(Tryz.prog.info? 108).map (·.size)=some vs.length:=by rw [rinfo108,h.lv]
 have HT:=hid hT
 have HR:=hid h
 have HL:=hid hlen
 clear h hT hlen
 go_enter Tryz.func148,Tryz.ntmps148
 go_wp2_with (refine wpList_load_mid (by rfl) 108 _ (by rfl) r 2 (by rfl) vs (.array 10 29) hld Tryz.underlying108 rfl hin ?_)
 clear hld hin
 go_loop [13] (fun i=>∃ k:Nat,k≤10∧i=.int .i64 k∧Hid (∀ j:Nat,j<k→tx∉(T j).tail)) (fun i=>10-(intOf i).toNat)
 case atStart=>exact⟨0,by omega,rfl,fun j hj=>by omega⟩
 case round =>
  obtain⟨k,hk,rfl,HN⟩:=hrel
  by_cases hlt:k<10
  ·obtain⟨v,hv,ho⟩:=HR.out.at hlt
   have hix:=run_rkey hv hlt w
   have hk0:(0:Int)≤(k:Int):=by omega
   have hk1:(k:Int)<10:=by omega
   obtain⟨ad,cap,rfl⟩:=row_form ho
   have hll:=HL.out k
   have HO:=hid ho
   obtain⟨l,hl⟩:∃ l,T k=l:=⟨_,rfl⟩
   rw [hl] at hix hll HO
   have HTL:=hid hl
   clear hv ho hl
   go_wp2_with fail
   go_loop [19] (fun c=>∃ i:Nat,i≤l.length∧c=.int .i64 i∧Hid (∀ j:Nat,0<j→j<i→l[j]?≠some tx)) (fun c=>l.length-(intOf c).toNat)
   case atStart=>exact⟨0,Nat.zero_le _,rfl,fun j _ hj=>by omega⟩
   case round =>
    obtain⟨i,hi,rfl,HI⟩:=hrel
    by_cases hil:i<l.length
    ·obtain⟨x,hx⟩:∃ x,l[i]?=some x:=⟨l[i],List.getElem?_eq_getElem hil⟩
     rcases row_slice HO.out with ⟨_,e0⟩ | ⟨g,cg,eg,hgl,hcg⟩
     ·omega
     ·injection eg with e1 e2 e3
      subst e1
      subst e3
      clear e2
      have x0:=hcg i _ (intsV_get hx)
      have hi0:(0:Int)≤(i:Int):=by omega
      have hi1:(i:Int)<(l.length:Int):=by omega
      have HX:=hid hx
      clear hcg hx
      by_cases hip:0<i
      ·have hip1:(0:Int)<(i:Int):=by omega
       by_cases hxt:x=tx
       ·subst hxt
        have hw:waitsP T x=k:=waits_of_mem HT.out (by
         rw [HTL.out]
         obtain⟨i',rfl⟩:∃ i',i=i'+1:=⟨i-1,by omega⟩
         cases l with
         | nil=>simp at hil
         | cons a l'=>exact List.mem_of_getElem? (i:=i') (by simpa using HX.out))
        have HW:=hid hw
        have e5:(x==x)=true:=by simp
        clear hw
        go_wp2
        go_ret
        refine⟨?_,rfl⟩
        rw [HW.out]
        rfl
       ·have e5:(x==tx)=false:=by simpa using hxt
        go_wp2
        go_round
        case rel =>
         refine⟨i+1,by omega,by go_num,fun j h0 hj=>?_⟩
         by_cases e:j=i
         ·subst e;rw [HX.out];simpa using hxt
         ·exact HI.out j h0 (by omega)
        case measure=>simp [intOf];omega
      ·have hip1:¬ (0:Int)<(i:Int):=by omega
       go_wp2
       go_round
       case rel=>exact⟨i+1,by omega,by go_num,fun j h0 hj=>HI.out j h0 (by omega)⟩
       case measure=>simp [intOf];omega
    ·go_wp2
     go_round
     case rel =>
      refine⟨k+1,by omega,by go_num,fun j hj=>?_⟩
      by_cases e:j=k
      ·subst e
       rw [HTL.out]
       intro hm
       cases l with
       | nil=>simp at hm
       | cons a l' =>
        obtain⟨i',hi',e'⟩:=List.mem_iff_getElem.1 hm
        refine HI.out (i'+1) (by omega) (by simp only [List.length_cons] at hil;simp at hi';omega) ?_
        simp only [List.getElem?_cons_succ]
        rw [List.getElem?_eq_getElem (by simpa using hi')]
        exact congrArg some e'
      ·exact HN.out j (by omega)
     case measure=>simp [intOf];omega
  ·have hw:waitsP T tx=-1:=(waits_none_iff HT.out).2 (fun j hj=>by
    have hr:=HT.out.key hj
    obtain⟨j',rfl⟩:=Int.eq_ofNat_of_zero_le hr.1
    exact HN.out j' (by omega) hj)
   have HW:=hid hw
   clear hw
   go_wp2
   go_ret
   refine⟨?_,rfl⟩
   rw [HW.out]
   rfl
end Go.Proofs.YtjefgmeejhakbaaGreatDoor
