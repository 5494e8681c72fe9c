/- Ops in memory; order.beyond. -/
import Derived.Test.YtjefgmeejhakbabGreatDoorMgAR
import Derived.Test.YtjefgmeejhakbabGreatDoorMgAB
namespace Go.Proofs.YtjefgmeejhakbabGreatDoor
open Go.RowKit
def OpCells (w:World) (g k:Nat) (o:Opp):Prop :=
 w.cell? ⟨g,k,none⟩=some (.int .i64 o.1)∧w.cell? ⟨g,k+1,none⟩=some (.int .i64 o.2.1)∧w.cell? ⟨g,k+2,none⟩=some (.bool o.2.2.1)∧w.cell? ⟨g,k+3,none⟩=some (.int .i64 o.2.2.2)
def OpsAt (w:World) (ad:Option Addr) (l:List Opp):Prop:=∀ (i:Nat) (o:Opp),l[i]?=some o→∃ g off,ad=some ⟨g,off,none⟩∧g<w.heap.size∧OpCells w g (off+i*4) o∧I64 o.1∧I64 o.2.1∧I64 o.2.2.2
theorem OpsAt.below {w w':World} {ad:Option Addr} {l:List Opp} (h:OpsAt w ad l) (hB:Below w.heap.size w w'):OpsAt w' ad l:=fun i o ho=>by
 obtain⟨g,off,e,hg,⟨c0,c1,c2,c3⟩,r⟩:=h i o ho
 exact⟨g,off,e,Nat.lt_of_lt_of_le hg hB.size,⟨(hB.cell (p:=⟨g,_,none⟩) hg).trans c0,(hB.cell (p:=⟨g,_,none⟩) hg).trans c1,(hB.cell (p:=⟨g,_,none⟩) hg).trans c2,(hB.cell (p:=⟨g,_,none⟩) hg).trans c3⟩,r⟩
theorem opBad_false {o:Opp} (h:opBad o=false):1≤o.1∧0≤o.2.2.2∧0≤o.2.1∧o.2.1<10:=by
 unfold opBad at h
 simp only [decide_eq_false_iff_not,not_or,Decidable.not_not] at h
 omega
theorem opBad_true {o:Opp} (h:opBad o=true):o.1<1∨(1≤o.1∧o.2.2.2<0)∨(1≤o.1∧0≤o.2.2.2∧o.2.1<0)∨(1≤o.1∧0≤o.2.2.2∧0≤o.2.1∧10≤o.2.1):=by
 unfold opBad at h
 simp only [decide_eq_true_eq] at h
 omega
structure FineTo (p:Opp→Bool) (l:List Opp) (m:Nat):Prop where
 le:m≤l.length
 fine:∀ (j:Nat) (o:Opp),j<m→l[j]?=some o→p o=false
 bad:m<l.length→∃ o,l[m]?=some o∧p o=true
theorem fineTo_ex (p:Opp→Bool):∀ l:List Opp,∃ m,FineTo p l m
 | []=>⟨0,Nat.le_refl _,fun _ _ h=>by omega,fun h=>by simp at h⟩
 | a::r=>by
  cases h:p a with
  | true=>exact⟨0,Nat.zero_le _,fun _ _ h=>by omega,fun _=>⟨a,rfl,h⟩⟩
  | false =>
   obtain⟨m,h1,h2,h3⟩:=fineTo_ex p r
   refine⟨m+1,by simp;omega,fun j o hj ho=>?_,fun hm=>?_⟩
   ·cases j with
    | zero=>simp at ho;subst ho;exact h
    | succ j=>exact h2 j o (by omega) (by simpa using ho)
   ·obtain⟨o,ho,hp⟩:=h3 (by simp at hm;omega)
    exact⟨o,by simpa using ho,hp⟩
theorem FineTo.all {p:Opp→Bool} {l:List Opp} (h:FineTo p l l.length):∀ o∈l,p o=false:=fun o ho=>by
 obtain⟨j,hj,e⟩:=List.getElem_of_mem ho
 exact h.fine j o hj (by rw [List.getElem?_eq_getElem hj,e])
def Told (w:World) (ev:Value) (l:List Opp) (m:Nat) (c:Int):Prop :=
 (m=l.length∧ev=.nilIface)∨(m<l.length∧∃ pb,ev=.iface 222 (.pointer (some ⟨pb,0,none⟩))∧w.heap[pb]?=some (.cells #[.int .i64 c,.int .i64 m] 224 (0,0)))
set_option maxRecDepth 100000 in
set_option maxHeartbeats 1000000 in
theorem beyond_any (ad:Option Addr) (cap:Nat) (l:List Opp) (m:Nat) (w:World) (hn:l.length≤100000000) (hO:OpsAt w ad l) (hm:FineTo opBad l m) :
  Calls Tryz.prog 241 #[.slice ad l.length cap] w fun e w'=>∃ ev,e=.returned ev∧Told w' ev l m 2∧Below w.heap.size w w':=by
 have HO:=hid hO
 have HM:=hid hm
 clear hO hm
 go_enter Tryz.func241,Tryz.ntmps241
 go_wp2
 go_loopw [7] (fun i wr=>∃ j:Nat,j≤m∧i=.int .i64 j∧Below w.heap.size w wr) (fun i _=>l.length-(intOf i).toNat)
 case atStart=>exact⟨0,Nat.zero_le _,rfl,Below.refl _ _⟩
 case round =>
  obtain⟨j,hj,rfl,hB⟩:=hrel
  have hBs:=hB.size
  have hml:=HM.out.le
  by_cases hlt:j<l.length
  ·obtain⟨o,ho⟩:∃ o,l[j]?=some o:=⟨l[j],List.getElem?_eq_getElem hlt⟩
   obtain⟨g,off,rfl,hg,⟨c0,c1,c2,c3⟩,_⟩:=HO.out.below hB j o ho
   have hj0:(0:Int)≤(j:Int):=by omega
   have hj1:(j:Int)<(l.length:Int):=by omega
   by_cases hjm:j<m
   ·obtain⟨b1,b2,b3,b4⟩:=opBad_false (HM.out.fine j o hjm ho)
    have hA:=hid (hB.alloc hBs (.cells #[.int .i64 o.1,.int .i64 o.2.1,.bool o.2.2.1,.int .i64 o.2.2.2] 138))
    clear hB ho
    go_wp2
    go_roundw
    case rel=>exact⟨j+1,by omega,by go_num,hA.out⟩
    case measure=>simp [intOf];omega
   ·obtain rfl:j=m:=by omega
    obtain⟨o',ho',hb⟩:=HM.out.bad hlt
    obtain rfl:o=o':=by rw [ho] at ho';exact Option.some.inj ho'
    have hA:=hid (hB.alloc hBs (.cells #[.int .i64 o.1,.int .i64 o.2.1,.bool o.2.2.1,.int .i64 o.2.2.2] 138))
    have hend:∀ W:World,Below w.heap.size w W→Told (W.alloc (.cells #[.int .i64 2,.int .i64 (j:Int)] 224)) (.iface 222 (.pointer (some ⟨W.heap.size,0,none⟩))) l j 2∧Below w.heap.size w (W.alloc (.cells #[.int .i64 2,.int .i64 (j:Int)] 224)) :=
     fun W hW=>⟨.inr ⟨hlt,W.heap.size,rfl,heap_alloc_new W _⟩,hW.alloc hW.size _⟩
    have HE:=hid hend
    clear hB ho ho' hend
    rcases opBad_true hb with h1 | ⟨h1,h2⟩ | ⟨h1,h2,h3⟩ | ⟨h1,h2,h3,h4⟩
    all_goals clear hb
    all_goals go_wp2
    all_goals go_ret
    all_goals exact⟨_,rfl,by simpa using HE.out _ hA.out⟩
  ·obtain rfl:m=l.length:=by omega
   have HB:=hid hB
   clear hB
   go_wp2
   go_ret
   exact⟨_,rfl,.inl ⟨rfl,rfl⟩,HB.out⟩
end Go.Proofs.YtjefgmeejhakbabGreatDoor
