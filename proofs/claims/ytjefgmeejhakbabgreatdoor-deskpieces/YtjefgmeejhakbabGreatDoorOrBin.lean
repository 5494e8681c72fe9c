/- slices.BinarySearchFunc over twos; order.twosOf. -/
import Derived.Test.YtjefgmeejhakbabGreatDoorMgAL
namespace Go.Proofs.YtjefgmeejhakbabGreatDoor
open Go.RowKit Go.Shelf Go.Lib Go.Sort
set_option maxHeartbeats 1000000 in
theorem twoCmp_any (a b x:Int) (W:World):Calls Tryz.prog 253 #[.agg #[.int .i64 a,.int .i64 b],.int .i64 x] W fun e w'=>e=.returned (.int .i64 (Lib.compareInt a x))∧Below W.heap.size W w':=by
 have hcon:=fun W'=>AnyG.cmp_Compare_int Tryz.lCmp a x W'
 change ∀ W',Calls Tryz.prog 254 _ _ _ at hcon
 generalize Lib.compareInt a x=r at hcon ⊢
 go_enter Tryz.func253,Tryz.ntmps253
 go_wp2_with (go_at_call 254;refine (hcon _).mono ?_;rintro e w' ⟨rfl,rfl⟩)
 go_ret
 exact⟨rfl,(Below.refl _ _).alloc (Nat.le_refl _) _⟩
structure BegAt (E:List (Int × Int)) (x:Int) (k:Nat):Prop where
 le:k≤E.length
 lo:∀ (t:Nat) (e:Int × Int),t<k→E[t]?=some e→e.1<x
 hi:∀ (t:Nat) (e:Int × Int),k≤t→E[t]?=some e→x≤e.1
set_option maxRecDepth 100000 in
set_option maxHeartbeats 1000000 in
theorem bsearch_none (ad:Option Addr) (cap:Nat) (x:Int) (w:World):Calls Tryz.prog 252 #[.slice ad 0 cap,.int .i64 x,.func (.func 253) #[] #[]] w fun e w'=>(∃ bb:Value,e=.returned (.tuple #[.int .i64 0,bb]))∧w'=w:=by
 go_enter Tryz.func252,Tryz.ntmps252
 go_wp2
 refine wp_loop_rounds 1 ?_
 rw [rounds_succ]
 go_wp2
 go_ret2
 exact⟨⟨_,rfl⟩,rfl⟩
set_option maxRecDepth 100000 in
set_option maxHeartbeats 1000000 in
theorem bsearch_any (N g cap:Nat) (E:List (Int × Int)) (x:Int) (w:World) (hn:E.length≤100000000) (hE:E.Pairwise lt2) (h:w.ownsRow N 122 2 (.slice (some ⟨g,0,none⟩) E.length cap) E.length (vrow E)) :
  Calls Tryz.prog 252 #[.slice (some ⟨g,0,none⟩) E.length cap,.int .i64 x,.func (.func 253) #[] #[]] w fun e w'=>(∃ (k:Nat) (bb:Value),e=.returned (.tuple #[.int .i64 k,bb])∧BegAt E x k)∧Below w.heap.size w w':=by
 have HH:=hid h
 have hmono:∀ (s t:Nat) (a b:Int × Int),s≤t→E[s]?=some a→E[t]?=some b→a.1≤b.1:=fun s t a b hst ha hb=>by
  rcases Nat.lt_or_ge s t with h1 | h1
  ·obtain⟨h2,e2⟩:=List.getElem?_eq_some_iff.1 ha
   obtain⟨h3,e3⟩:=List.getElem?_eq_some_iff.1 hb
   have:=List.pairwise_iff_getElem.1 hE s t h2 h3 h1
   rw [e2,e3] at this
   unfold lt2 at this
   omega
  ·obtain rfl:s=t:=by omega
   rw [ha] at hb
   cases hb
   exact Int.le_refl _
 have HM:=hid hmono
 clear h hE hmono
 go_enter Tryz.func252,Tryz.ntmps252
 go_wp2
 go_loopw [9,10] (fun iv jv wr=>∃ lo hi:Nat,iv=.int .i64 lo∧jv=.int .i64 hi∧lo≤hi∧hi≤E.length∧(∀ (t:Nat) (e:Int × Int),t<lo→E[t]?=some e→e.1<x)∧(∀ (t:Nat) (e:Int × Int),hi≤t→E[t]?=some e→x≤e.1)∧Below w.heap.size w wr) (fun iv jv _=>(intOf jv).toNat-(intOf iv).toNat)
 case atStart=>exact⟨0,E.length,rfl,rfl,Nat.zero_le _,Nat.le_refl _,fun t e h=>(by omega),fun t e h h2=>(by rw [List.getElem?_eq_none h] at h2;cases h2),Below.refl _ _⟩
 case round =>
  obtain⟨lo,hi,rfl,rfl,hlh,hin,hlo,hhi,hB⟩:=hrel
  have HI:=hid (And.intro hlo (And.intro hhi hB))
  have hr:=owns_same HH.out (fun k e=>hB.block k (HH.out.lt k e).2)
  have hBs:=hB.size
  by_cases hlt:lo<hi
  ·obtain⟨⟨a,b⟩,hx⟩:∃ e,E[(lo+hi) / 2]?=some e:=⟨E[(lo+hi) / 2]'(by omega),List.getElem?_eq_getElem _⟩
   obtain⟨ca,cb⟩:=two_cells hr hx
   have HX:=hid hx
   have hcmp:=fun W=>twoCmp_any a b x W
   have hneg:=cmpInt_neg a x
   generalize Lib.compareInt a x=r at hcmp hneg
   have HC:=hid hcmp
   clear hlo hhi hB hr hx hcmp
   by_cases hr0:r<0
   ·have HN:=hid (hneg.1 hr0)
    clear hneg
    go_wp2_with (go_at_call 253;refine (HC.out _).mono ?_;rintro e w1 ⟨rfl,hB1⟩)
    go_roundw
    case rel =>
     refine⟨(lo+hi) / 2+1,hi,by go_num,rfl,by omega,hin,fun t e ht hte=>?_,HI.out.2.1,HI.out.2.2.trans (hB1.mono hBs)⟩
     have:=HM.out t ((lo+hi) / 2) e (a,b) (by omega) hte HX.out
     have h2:=HN.out
     simp only at this
     omega
    case measure=>simp [intOf];omega
   ·have HN:=hid (show ¬ a<x from fun h=>hr0 (hneg.2 h))
    clear hneg
    go_wp2_with (go_at_call 253;refine (HC.out _).mono ?_;rintro e w1 ⟨rfl,hB1⟩)
    go_roundw
    case rel =>
     refine⟨lo,(lo+hi) / 2,rfl,by go_num,by omega,by omega,HI.out.1,fun t e ht hte=>?_,HI.out.2.2.trans (hB1.mono hBs)⟩
     have:=HM.out ((lo+hi) / 2) t (a,b) e ht HX.out hte
     have h2:=HN.out
     simp only at this
     omega
    case measure=>simp [intOf];omega
  ·obtain rfl:lo=hi:=by omega
   have hge:¬ (lo:Int)<(lo:Int):=by omega
   by_cases hl:lo<E.length
   ·obtain⟨⟨a,b⟩,hx⟩:∃ e,E[lo]?=some e:=⟨E[lo]'(by omega),List.getElem?_eq_getElem _⟩
    obtain⟨ca,cb⟩:=two_cells hr hx
    have hcmp:=fun W=>twoCmp_any a b x W
    generalize Lib.compareInt a x=r at hcmp
    have HC:=hid hcmp
    have hl1:(lo:Int)<(E.length:Int):=by omega
    clear hlo hhi hB hr hx hcmp
    go_wp2_with (go_at_call 253;refine (HC.out _).mono ?_;rintro e w1 ⟨rfl,hB1⟩)
    go_ret2
    exact⟨⟨lo,_,rfl,⟨hin,HI.out.1,HI.out.2.1⟩⟩,HI.out.2.2.trans (hB1.mono hBs)⟩
   ·have hl1:¬ (lo:Int)<(E.length:Int):=by omega
    clear hlo hhi hB hr
    go_wp2
    go_ret2
    exact⟨⟨lo,⟨_,rfl⟩,⟨hin,HI.out.1,HI.out.2.1⟩⟩,HI.out.2.2⟩
def SubAt (w:World) (r:Option Nat) (v:Value) (T:List (Int × Int)):Prop:=∃ ad cap,v=.slice ad T.length cap∧∀ (j:Nat) (a b:Int),T[j]?=some (a,b)→∃ g off,ad=some ⟨g,off,none⟩∧r=some g∧w.cell? ⟨g,off+j*2,none⟩=some (.int .i64 a)∧w.cell? ⟨g,off+j*2+1,none⟩=some (.int .i64 b)
theorem filter_mid {E:List (Int × Int)} (hE:E.Pairwise lt2) {x:Int} {k e:Nat} (hk:BegAt E x k) (hke:k≤e) (hel:e≤E.length) (hm:∀ (t:Nat) (y:Int × Int),k≤t→t<e→E[t]?=some y→y.1=x) (he:∀ y,E[e]?=some y→y.1≠x):E.filter (fun y=>y.1==x)=(E.drop k).take (e-k):=by
 have h0:E=E.take k++((E.drop k).take (e-k)++E.drop e):=by
  have h1:(E.drop k).drop (e-k)=E.drop e:=by rw [List.drop_drop];congr 1;omega
  rw [← h1,List.take_append_drop,List.take_append_drop]
 have f1:(E.take k).filter (fun y=>y.1==x)=[]:=by
  rw [List.filter_eq_nil_iff]
  intro y hy
  obtain⟨t,ht,hty⟩:=List.getElem_of_mem hy
  rw [List.length_take] at ht
  have:=hk.lo t y (by omega) (by rw [List.getElem_take] at hty;rw [List.getElem?_eq_getElem (by omega),hty])
  simp;omega
 have f2:((E.drop k).take (e-k)).filter (fun y=>y.1==x)=(E.drop k).take (e-k):=by
  rw [List.filter_eq_self]
  intro y hy
  obtain⟨t,ht,hty⟩:=List.getElem_of_mem hy
  rw [List.length_take,List.length_drop] at ht
  rw [List.getElem_take,List.getElem_drop] at hty
  have:=hm (k+t) y (by omega) (by omega) (by rw [List.getElem?_eq_getElem (by omega),hty])
  simpa using this
 have f3:(E.drop e).filter (fun y=>y.1==x)=[]:=by
  rw [List.filter_eq_nil_iff]
  intro y hy
  obtain⟨t,ht,hty⟩:=List.getElem_of_mem hy
  rw [List.length_drop] at ht
  rw [List.getElem_drop] at hty
  have hz:E[e]?=some E[e]:=List.getElem?_eq_getElem (by omega)
  have h1:=he _ hz
  have h2:=hk.hi e _ hke hz
  by_cases e0:t=0
  ·subst e0
   have hty2:E[e]=y:=by simpa using hty
   rw [← hty2]
   simpa using h1
  ·have h3:=List.pairwise_iff_getElem.1 hE e (e+t) (by omega) (by omega) (by omega)
   rw [hty] at h3
   unfold lt2 at h3
   simp;omega
 have h5:=congrArg (List.filter (fun y:Int × Int=>y.1==x)) h0
 rw [List.filter_append,List.filter_append,f1,f2,f3] at h5
 simpa using h5
set_option maxRecDepth 100000 in
set_option maxHeartbeats 1000000 in
theorem twosOf_any (N:Nat) (tv:Value) (E:List (Int × Int)) (x:Int) (w:World) (hn:E.length≤100000000) (hE:E.Pairwise lt2) (h:w.ownsRow N 122 2 tv E.length (vrow E)) :
  Calls Tryz.prog 189 #[tv,.int .i64 x] w fun e w'=>∃ v,e=.returned v∧SubAt w' tv.ownBlock v (E.filter (fun y=>y.1==x))∧Below w.heap.size w w':=by
 rcases row_slice h with ⟨rfl,e0⟩ | ⟨g,cap,rfl,hg,_⟩
 ·obtain rfl:E=[]:=List.eq_nil_of_length_eq_zero e0
  clear h e0
  go_enter Tryz.func189,Tryz.ntmps189
  go_wp2_with fail
  refine (bsearch_none none 0 x w).mono ?_
  rintro e w' ⟨⟨bb,rfl⟩,rfl⟩
  go_wp2
  refine wp_loop_rounds 1 ?_
  rw [rounds_succ]
  go_wp2
  go_ret
  exact⟨_,rfl,⟨none,0,rfl,fun j a b hj=>by simp at hj⟩,Below.refl _ _⟩
 ·have hcap:E.length≤cap∧cap≤maxLen:=by
   rcases h.2 with ⟨e,_⟩ | ⟨g',cap',cur,e,_,_,h1,h2,_⟩
   ·cases e
   ·cases e;exact⟨h1,h2⟩
  have HC:=hid (bsearch_any N g cap E x w hn hE h)
  have HH:=hid h
  have HE:=hid hE
  clear h hE
  go_enter Tryz.func189,Tryz.ntmps189
  go_wp2_with fail
  refine HC.out.mono ?_
  rintro e w1 ⟨⟨k,bb,rfl,hk⟩,hB⟩
  have HK:=hid hk
  have HB:=hid hB
  have hkl:=hk.le
  have hBs:=hB.size
  clear hk hB
  go_wp2
  go_loopw [7] (fun ev wr=>∃ e:Nat,ev=.int .i64 e∧k≤e∧e≤E.length∧(∀ (t:Nat) (y:Int × Int),k≤t→t<e→E[t]?=some y→y.1=x)∧wr=w1) (fun ev _=>E.length-(intOf ev).toNat)
  case atStart=>exact⟨k,rfl,Nat.le_refl _,hkl,fun t y h1 h2=>(by omega),rfl⟩
  case round =>
   obtain⟨e,rfl,hke,hel,hm,rfl⟩:=hrel
   have HM:=hid hm
   have hr:=owns_same HH.out (fun k e=>HB.out.block k (HH.out.lt k e).2)
   clear hm
   have fin:(∀ y,E[e]?=some y→y.1≠x)→SubAt wr (some g) (.slice (some ⟨g,k*2,none⟩) (e-k) (cap-k)) (E.filter (fun y=>y.1==x)):=fun he=>by
    have hf:=filter_mid HE.out HK.out hke hel HM.out he
    have hl:((E.drop k).take (e-k)).length=e-k:=by rw [List.length_take,List.length_drop];omega
    rw [hf]
    refine⟨_,_,by rw [hl],fun j a b hj=>⟨g,k*2,rfl,rfl,?_⟩⟩
    have hjl:j<e-k:=by have:=(List.getElem?_eq_some_iff.1 hj).1;rw [hl] at this;exact this
    rw [List.getElem?_take,if_pos hjl,List.getElem?_drop] at hj
    have:=two_cells hr hj
    rw [show (k+j)*2=k*2+j*2 by omega] at this
    exact this
   have HF:=hid fin
   have zer:(∀ y,E[e]?=some y→y.1≠x)→e-k=0→∀ (ad:Option Addr) (c:Nat),SubAt wr (some g) (.slice ad (e-k) c) (E.filter (fun y=>y.1==x)):=fun he h0 ad c=>by
    have hf:=filter_mid HE.out HK.out hke hel HM.out he
    rw [h0] at hf ⊢
    rw [hf]
    exact⟨ad,c,rfl,fun j a b hj=>by simp at hj⟩
   have HZ:=hid zer
   have hk0:(0:Int)≤(k:Int):=by omega
   have hk1:(k:Int)≤(e:Int):=by omega
   have hk2:(e:Int)≤(cap:Int):=by omega
   by_cases hlt:e<E.length
   ·obtain⟨⟨a,b⟩,hx⟩:∃ y,E[e]?=some y:=⟨E[e],List.getElem?_eq_getElem hlt⟩
    obtain⟨ca,cb⟩:=two_cells hr hx
    have HX:=hid hx
    have he1:(e:Int)<(E.length:Int):=by omega
    clear hr hx fin zer
    by_cases hax:a=x
    ·have hb:(a==x)=true:=by simpa using hax
     have HAX:=hid hax
     clear hax
     go_wp2
     go_roundw
     case rel =>
      refine⟨e+1,by go_num,by omega,by omega,fun t y h1 h2 hy=>?_,by simp⟩
      by_cases e1:t=e
      ·subst e1
       rw [HX.out] at hy
       cases hy
       exact HAX.out
      ·exact HM.out t y h1 (by omega) hy
     case measure=>simp [intOf];omega
    ·have hb:(a==x)=false:=by simpa using hax
     have HAX:=hid hax
     clear hax
     have HY:=hid (show ∀ y,E[e]?=some y→y.1≠x from fun y hy=>by rw [HX.out] at hy;cases hy;exact HAX.out)
     go_wp2
     all_goals go_ret
     all_goals first
      | exact⟨_,rfl,HF.out HY.out,HB.out⟩
      | exact⟨_,rfl,HZ.out HY.out (by omega) _ _,HB.out⟩
   ·have he1:¬ (e:Int)<(E.length:Int):=by omega
    have hnone:E[e]?=none:=List.getElem?_eq_none (by omega)
    have HNO:=hid hnone
    clear hr fin hnone zer
    have HY:=hid (show ∀ y,E[e]?=some y→y.1≠x from fun y hy=>by rw [HNO.out] at hy;cases hy)
    go_wp2
    all_goals go_ret
    all_goals first
     | exact⟨_,rfl,HF.out HY.out,HB.out⟩
     | exact⟨_,rfl,HZ.out HY.out (by omega) _ _,HB.out⟩
end Go.Proofs.YtjefgmeejhakbabGreatDoor
