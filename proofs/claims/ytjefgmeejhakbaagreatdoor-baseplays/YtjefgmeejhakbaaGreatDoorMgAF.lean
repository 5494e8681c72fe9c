/- EsRead EkAsk FsMem: put together for a claim. -/
import Derived.Test.YtjefgmeejhakbaaGreatDoorMgAE
import Derived.Test.YtjefgmeejhakbaaGreatDoorMgAB
/- (*Store).Read, Last, Many. -/
namespace Go.Proofs.YtjefgmeejhakbaaGreatDoor
open Go.RowKit
variable {P:Tail}
theorem lat_lt (l:List (Int × Int)) (t:Int):∀ m,latN l t m<m∧-1≤latN l t m
 | 0=>by simp [latN]
 | m+1=>by
  have:=lat_lt l t m
  simp only [latN]
  split<;>omega
theorem Vers.mono {n₀ n₁:Nat} {W:World} {sv:Value} {zs:List (Int × Int)} (h:Vers n₀ W sv zs) (hn:n₀≤n₁):Vers n₁ W sv zs:=by
 rcases h with h | ⟨b,cap,e,hb,hc⟩
 ·exact .inl h
 ·exact .inr ⟨b,cap,e,Nat.lt_of_lt_of_le hb hn,hc⟩
set_option maxRecDepth 100000 in
set_option maxHeartbeats 1000000 in
theorem read_some (base s k:Nat) (last t:Int) (vs:List Value) (ks:List (List (Int × Int))) (l:List (Int × Int)) (w:World) (h:Sto P w base s last vs ks) (hl:ks[k]?=some l) (hlen:l.length≤1000000) (m:Nat) (hm:lat l t=m) (a x:Int) (hax:l[m]?=some (a,x)) :
  Calls Tryz.prog 111 #[.pointer (some ⟨s,0,none⟩),.int .i64 (k:Int),.int .i64 t] w fun e w'=>e=.returned (.tuple #[.agg #[.int .i64 a,.int .i64 x],.nilIface])∧Below w.heap.size w w':=by
 have hk:k<10:=by have:=(List.getElem?_eq_some_iff.1 hl).1;have:=h.lk;omega
 obtain⟨v,hv⟩:∃ v,vs[k]?=some v:=⟨vs[k]'(by have:=h.lv;omega),List.getElem?_eq_getElem _⟩
 have ho:=h.own k v l hv hl
 have hc:=h.cell hv
 have hvers:=vers_of_owns ho
 obtain⟨g,cap,rfl,hg,hrow⟩:∃ g cap,v=.slice (some ⟨g,0,none⟩) l.length cap∧g<w.heap.size∧Row w g l:=by
  rcases hvers with ⟨_,e⟩ | ⟨g,cap,e,h1,h2⟩
  ·subst e;simp at hax
  ·exact⟨g,cap,e,h1,h2⟩
 have hs:=h.lt
 have hml:=(List.getElem?_eq_some_iff.1 hax).1
 have hkb:keyB (k:Int)=true:=by simp [keyB];omega
 have hk0:(0:Int)≤(k:Int):=by omega
 have hk1:(k:Int)<10:=by omega
 have hm0:(0:Int)≤(m:Int):=by omega
 have hm1:(m:Int)<(l.length:Int):=by omega
 have HM:Hid (lat l t=m):=hm
 clear hm ho hv hl
 go_enter Tryz.func111,Tryz.ntmps111
 go_wp2_with (first | (go_at_call 159;refine (isKey_any _ _).mono ?_;rintro e w' ⟨rfl,rfl⟩))
 have hal:Below w.heap.size w (w.alloc (.cells #[.int .i64 0,.int .i64 0] 199)):=(Below.refl _ _).alloc (Nat.le_refl _) _
 have hR1:(w.alloc (.cells #[.int .i64 0,.int .i64 0] 199)).heap[w.heap.size]?=some (.cells #[.int .i64 0,.int .i64 0] 199 (0,0)):=World.alloc_heap_new w _
 refine (latest_any _ _ _ t l hlen _ (.inr ⟨g,cap,rfl,by simp;omega,hrow.below hal hg⟩)).mono ?_
 rintro e w1 ⟨rfl,hb1⟩
 rw [HM.out]
 have hbw:Below w.heap.size w w1:=hal.trans (hb1.mono (by simp))
 have hR2:w1.heap[w.heap.size]?=some (.cells #[.int .i64 0,.int .i64 0] 199 (0,0)):=(hb1.block _ (by simp)).trans hR1
 have c0:w1.cell? ⟨w.heap.size,0,none⟩=some (.int .i64 0):=(cell_of_row _ _ 0 _ 199 (0,0) hR2).trans rfl
 have c1:w1.cell? ⟨w.heap.size,1,none⟩=some (.int .i64 0):=(cell_of_row _ _ 1 _ 199 (0,0) hR2).trans rfl
 have f0:=frozen_of_row w1 w.heap.size 0 _ 199 hR2
 have f1:=frozen_of_row w1 w.heap.size 1 _ 199 hR2
 have hc1:=(hbw.cell (p:=⟨s,1+k,none⟩) hs).trans hc
 obtain⟨r1,r2⟩:=(hrow.below hbw hg) m a x hax
 have HB:Hid (Below w.heap.size w w1):=hbw
 have HR:Hid (w1.heap[w.heap.size]?=some (.cells #[.int .i64 0,.int .i64 0] 199 (0,0))):=hR2
 clear hR1 hal hb1 hbw hR2 hc hax hrow hvers
 go_wp2
 exact bodyPost_ret (v:=.tuple #[.agg #[.int .i64 a,.int .i64 x],.nilIface]) (by simp [results,Tryz.results111,go_sem,c0,c1]) rfl ⟨rfl,(HB.out.setCell (p:=⟨w.heap.size,0,none⟩) (Nat.le_refl _) _).setCell (p:=⟨w.heap.size,1,none⟩) (Nat.le_refl _) _⟩
set_option maxRecDepth 100000 in
set_option maxHeartbeats 1000000 in
theorem read_none (base s k:Nat) (last t:Int) (vs:List Value) (ks:List (List (Int × Int))) (l:List (Int × Int)) (w:World) (h:Sto P w base s last vs ks) (hl:ks[k]?=some l) (hlen:l.length≤1000000) (hm:lat l t=-1) :
  Calls Tryz.prog 111 #[.pointer (some ⟨s,0,none⟩),.int .i64 (k:Int),.int .i64 t] w fun e w'=>e=.returned (.tuple #[.agg #[.int .i64 0,.int .i64 0],.iface 24 (.int .i64 8)])∧Below w.heap.size w w':=by
 have hk:k<10:=by have:=(List.getElem?_eq_some_iff.1 hl).1;have:=h.lk;omega
 obtain⟨v,hv⟩:∃ v,vs[k]?=some v:=⟨vs[k]'(by have:=h.lv;omega),List.getElem?_eq_getElem _⟩
 have ho:=h.own k v l hv hl
 have hc:=h.cell hv
 have hvers:=vers_of_owns ho
 obtain⟨ad,n,cap,rfl⟩:∃ ad n cap,v=.slice ad n cap:=by
  rcases hvers with ⟨e,_⟩ | ⟨g,cap,e,h1,h2⟩
  ·exact⟨_,_,_,e⟩
  ·exact⟨_,_,_,e⟩
 have hs:=h.lt
 have hkb:keyB (k:Int)=true:=by simp [keyB];omega
 have hk0:(0:Int)≤(k:Int):=by omega
 have hk1:(k:Int)<10:=by omega
 have HM:Hid (lat l t=-1):=hm
 clear hm ho hv hl
 go_enter Tryz.func111,Tryz.ntmps111
 go_wp2_with (first | (go_at_call 159;refine (isKey_any _ _).mono ?_;rintro e w' ⟨rfl,rfl⟩))
 have hal:Below w.heap.size w (w.alloc (.cells #[.int .i64 0,.int .i64 0] 199)):=(Below.refl _ _).alloc (Nat.le_refl _) _
 have hR1:(w.alloc (.cells #[.int .i64 0,.int .i64 0] 199)).heap[w.heap.size]?=some (.cells #[.int .i64 0,.int .i64 0] 199 (0,0)):=World.alloc_heap_new w _
 refine (latest_any _ _ _ t l hlen _ ((hvers.below hal).mono (by simp))).mono ?_
 rintro e w1 ⟨rfl,hb1⟩
 rw [HM.out]
 have hbw:Below w.heap.size w w1:=hal.trans (hb1.mono (by simp))
 have hR2:w1.heap[w.heap.size]?=some (.cells #[.int .i64 0,.int .i64 0] 199 (0,0)):=(hb1.block _ (by simp)).trans hR1
 have c0:w1.cell? ⟨w.heap.size,0,none⟩=some (.int .i64 0):=(cell_of_row _ _ 0 _ 199 (0,0) hR2).trans rfl
 have c1:w1.cell? ⟨w.heap.size,1,none⟩=some (.int .i64 0):=(cell_of_row _ _ 1 _ 199 (0,0) hR2).trans rfl
 have f0:=frozen_of_row w1 w.heap.size 0 _ 199 hR2
 have f1:=frozen_of_row w1 w.heap.size 1 _ 199 hR2
 have HB:Hid (Below w.heap.size w w1):=hbw
 clear hR1 hal hb1 hbw hR2 hc hvers
 go_wp2
 exact bodyPost_ret (v:=.tuple #[.agg #[.int .i64 0,.int .i64 0],.iface 24 (.int .i64 8)]) (by simp [results,Tryz.results111,go_sem,c0,c1]) rfl ⟨rfl,(HB.out.setCell (p:=⟨w.heap.size,0,none⟩) (Nat.le_refl _) _).setCell (p:=⟨w.heap.size,1,none⟩) (Nat.le_refl _) _⟩
set_option maxRecDepth 100000 in
set_option maxHeartbeats 1000000 in
theorem read_range (s:Nat) (k t:Int) (w:World) (hk:keyB k=false) :
  Calls Tryz.prog 111 #[.pointer (some ⟨s,0,none⟩),.int .i64 k,.int .i64 t] w fun e w'=>e=.returned (.tuple #[.agg #[.int .i64 0,.int .i64 0],.iface 24 (.int .i64 2)])∧Below w.heap.size w w':=by
 go_enter Tryz.func111,Tryz.ntmps111
 go_wp2_with (first | (go_at_call 159;refine (isKey_any _ _).mono ?_;rintro e w' ⟨rfl,rfl⟩))
 exact bodyPost_ret (v:=.tuple #[.agg #[.int .i64 0,.int .i64 0],.iface 24 (.int .i64 2)]) (by simp [results,Tryz.results111,go_sem]) rfl ⟨rfl,(Below.refl _ _).alloc (Nat.le_refl _) _⟩
set_option maxHeartbeats 1000000 in
theorem last_any (base s:Nat) (last:Int) (vs:List Value) (ks:List (List (Int × Int))) (w:World) (h:Sto P w base s last vs ks) :
  Calls Tryz.prog 97 #[.pointer (some ⟨s,0,none⟩)] w fun e w'=>e=.returned (.int .i64 last)∧w'=w:=by
 have hc:=h.cellLast
 go_enter Tryz.func97,Tryz.ntmps97
 go_wp2
 go_ret
 exact⟨rfl,rfl⟩
end Go.Proofs.YtjefgmeejhakbaaGreatDoor
/- (*Table).Ask. -/
namespace Go.Proofs.YtjefgmeejhakbaaGreatDoor
open Go.RowKit
variable {C:Emb}
theorem waits_mem {T T':Tab} {x:Int} (h:∀ k,x∈(T k).tail↔x∈(T' k).tail):waitsP T x=waitsP T' x:=by
 unfold waitsP
 have:(fun k=>decide (x∈(T k).tail))=fun k=>decide (x∈(T' k).tail):=by funext k;exact decide_eq_decide.2 (h k)
 rw [this]
def TabAt (C:Emb) (w:World) (s N:Nat) (M:LkM) (T:Tab):Prop:=∃ h wa ln,Raw C w s N M h wa ln∧Rep T h wa ln
theorem TabAt.same {w w':World} {s N:Nat} {M:LkM} {T:Tab} (h:TabAt C w s N M T) (hs:∀ b,M.own s b→w'.heap[b]?=w.heap[b]?):TabAt C w' s N M T:=by
 obtain⟨a,b,c,r,R⟩:=h
 exact⟨a,b,c,r.same hs,R⟩
theorem TabAt.mono {w:World} {s N N':Nat} {M:LkM} {T:Tab} (h:TabAt C w s N M T) (hN:N≤N'):TabAt C w s N' M T:=by
 obtain⟨a,b,c,r,R⟩:=h
 exact⟨a,b,c,r.mono hN,R⟩
section
variable {T:Tab} {h wa:Int→Option Int} {ln:Int→List Int}
theorem Rep.hold (R:Rep T h wa ln) {k tx:Int} (hk:T k=[]):Rep (updT T k [tx]) (updT h k (some tx)) wa ln:=by
 have ht:∀ j,(updT T k [tx] j).tail=(T j).tail:=by
  intro j
  by_cases e:j=k
  ·subst e;rw [updT_same,hk];rfl
  ·rw [updT_other _ _ e]
 refine⟨fun j=>?_,fun x=>?_,fun j=>?_⟩
 ·by_cases e:j=k
  ·subst e;rw [updT_same,updT_same];rfl
  ·rw [updT_other _ _ e,updT_other _ _ e];exact R.h j
 ·rw [waits_mem (T:=updT T k [tx]) (T':=T) (fun j=>by rw [ht j])];exact R.wa x
 ·rw [ht j];exact R.ln j
theorem Rep.wait (R:Rep T h wa ln) {k tx:Int} (hk:T k≠[]) (hk0:0≤k) (hg:Tidy0 (updT T k (T k++[tx]))):Rep (updT T k (T k++[tx])) h (updT wa tx (some k)) (updT ln k (ln k++[tx])):=by
 obtain⟨a,l,hal⟩:∃ a l,T k=a::l:=by
  cases hT:T k with
  | nil=>exact (hk hT).elim
  | cons a l=>exact⟨a,l,rfl⟩
 have ht:(T k++[tx]).tail=(T k).tail++[tx]:=by rw [hal];rfl
 refine⟨fun j=>?_,fun x=>?_,fun j=>?_⟩
 ·by_cases e:j=k
  ·subst e;rw [updT_same,R.h j,hal];rfl
  ·rw [updT_other _ _ e];exact R.h j
 ·by_cases e:x=tx
  ·subst e
   have:waitsP (updT T k (T k++[x])) x=k:=waits_of_mem hg (by rw [updT_same,ht];simp)
   rw [this,updT_same]
   refine⟨rfl,?_⟩
   constructor
   ·intro h;cases h
   ·intro h;omega
  ·rw [updT_other _ _ e,waits_mem (T:=updT T k (T k++[tx])) (T':=T) (fun j=>?_)]
   ·exact R.wa x
   ·by_cases ej:j=k
    ·subst ej;rw [updT_same,ht];simp [e]
    ·rw [updT_other _ _ ej]
 ·by_cases e:j=k
  ·subst e;rw [updT_same,updT_same,ht,R.ln j]
  ·rw [updT_other _ _ e,updT_other _ _ e];exact R.ln j
end
def errV (c:Int):Value:=if c=0 then .nilIface else .iface 24 (.int .i64 c)
def AskPost (C:Emb) (s N:Nat) (M:LkM) (p:Bool × Int × Tab) (w:World) (e:Ending) (w':World):Prop :=
 e=.returned (.tuple #[.bool p.1,errV p.2.1])∧∃ M',TabAt C w' s (N+2) M' p.2.2∧KeptO (M.own s) (M'.own s) w w'
section
variable {w:World} {s N:Nat} {M:LkM} {T:Tab}
theorem askPost_same {c:Int} {b:Bool} {ev:Value} (h:TabAt C w s N M T) (he:ev=errV c):AskPost C s N M (b,c,T) w (.returned (.tuple #[.bool b,ev])) w :=
 ⟨by rw [he],M,h.mono (by omega),KeptO.refl _ _⟩
end
set_option maxRecDepth 100000 in
set_option maxHeartbeats 4000000 in
theorem ask_range (s:Nat) (tx key:Int) (w:World) (hb:¬ (0≤key∧key<10∧1≤tx)) :
  Calls Tryz.prog 115 #[.pointer (some ⟨s,C.o,none⟩),.int .i64 tx,.int .i64 key] w fun e w'=>e=.returned (.tuple #[.bool false,.iface 24 (.int .i64 2)])∧w'=w:=by
 by_cases h1:key<0
 ·clear hb
  go_enter Tryz.func115,Tryz.ntmps115
  go_wp2
  go_ret2
  exact⟨rfl,rfl⟩
 ·by_cases h2:10≤key
  ·clear hb
   go_enter Tryz.func115,Tryz.ntmps115
   go_wp2
   go_ret2
   exact⟨rfl,rfl⟩
  ·have h3:tx<1:=by omega
   clear hb
   go_enter Tryz.func115,Tryz.ntmps115
   go_wp2
   go_ret2
   exact⟨rfl,rfl⟩
set_option maxRecDepth 100000 in
set_option maxHeartbeats 4000000 in
theorem ask_any (s N:Nat) (M:LkM) (T:Tab) (q:Int→Nat) (tx key:Int) (w:World) (hT:TabAt C w s N M T) (hG:Good T) (hq:Ranked T q) (hx:I64 tx) (hky:I64 key) (hN:N≤100000) :
  Calls Tryz.prog 115 #[.pointer (some ⟨s,C.o,none⟩),.int .i64 tx,.int .i64 key] w (AskPost C s N M (askP T q tx key) w):=by
 have hG2:=hG.ask hq tx key (by unfold I64 at hx;omega)
 unfold askP at hG2 ⊢
 by_cases hb:0≤key∧key<10∧1≤tx
 ·rw [if_neg (by simpa using hb)] at hG2 ⊢
  obtain⟨h1,h2,h3⟩:=hb
  have g1:¬ key<0:=by omega
  have g2:¬ 10≤key:=by omega
  have g3:¬ tx<1:=by omega
  have HT:=hid hT
  obtain⟨h,wa,ln,r,R⟩:=hT
  have HR:=hid r
  have HP:=hid R
  have HG:=hid hG
  have HQ:=hid hq
  clear r R hG hq
  have hwc:=waits_cases T tx
  have hw64:=waits_i64 T tx
  have hh64:=holds_i64 HG.out.tidy key
  obtain⟨k0,hk0⟩:∃ k0,waitsP T tx=k0:=⟨_,rfl⟩
  obtain⟨y,hy⟩:∃ y,holdsP T key=y:=⟨_,rfl⟩
  rw [hk0] at hwc hG2 ⊢
  rw [hy] at hG2 hh64 ⊢
  have HK0:=hid hk0
  have HY:=hid hy
  clear hk0 hy hw64
  by_cases hw:0≤k0
  ·rw [if_pos hw] at hG2 ⊢
   have e1:(k0 != -1)=true:=by simp;omega
   clear hwc
   go_enter Tryz.func115,Tryz.ntmps115
   go_wp2_with (go_at_call 99;refine (waitsR s N M HP.out tx _ HR.out hx).mono ?_;rw [HK0.out];rintro e w' ⟨rfl,rfl⟩)
   go_ret2
   exact askPost_same HT.out rfl
  ·rw [if_neg hw] at hG2 ⊢
   have hk1:k0=-1:=by omega
   subst hk1
   by_cases hyx:y=tx
   ·rw [if_pos hyx] at hG2 ⊢
    subst hyx
    have e2:(y==0)=false:=by simp;omega
    clear hwc hw
    go_enter Tryz.func115,Tryz.ntmps115
    go_wp2_with (first
     | (go_at_call 99;refine (waitsR s N M HP.out y _ HR.out hx).mono ?_;rw [HK0.out];rintro e w' ⟨rfl,rfl⟩)
     | (go_at_call 98;refine (holdsR s N M HP.out key _ HR.out hky).mono ?_;rw [HY.out];rintro e w' ⟨rfl,rfl⟩))
    go_ret2
    exact askPost_same HT.out rfl
   ·rw [if_neg hyx] at hG2 ⊢
    by_cases hn:T key=[]
    ·rw [if_pos hn] at hG2 ⊢
     have hy0:y=0:=by rw [← HY.out];exact (holds_zero HG.out.tidy).2 hn
     subst hy0
     have HRH:=hid (HP.out.hold (tx:=tx) hn)
     have HGG:=hid hG2
     clear hwc hw hyx hn hG2
     go_enter Tryz.func115,Tryz.ntmps115
     go_wp2_with (first
      | (go_at_call 99;refine (waitsR s N M HP.out tx _ HR.out hx).mono ?_;rw [HK0.out];rintro e w' ⟨rfl,rfl⟩)
      | (go_at_call 98;refine (holdsR s N M HP.out key _ HR.out hky).mono ?_;rw [HY.out];rintro e w' ⟨rfl,rfl⟩)
      | (go_at_call 163;refine (hold_any s N M h wa ln tx key _ HR.out hky (by omega)).mono ?_;rintro e w' ⟨rfl,hM⟩))
     go_ret2
     obtain⟨M',hM1,hM2⟩:=hM
     exact⟨rfl,M',⟨_,_,_,hM1.mono (Nat.le_succ _),HRH.out⟩,hM2⟩
    ·rw [if_neg hn] at hG2 ⊢
     have hyp:1≤y:=by rw [← HY.out];exact holds_pos HG.out.tidy hn
     have e2:(y==0)=false:=by simp;omega
     have e3:(y==tx)=false:=by simpa using hyx
     by_cases hc:reachP T tx (q y+1) y=true
     ·rw [if_pos hc] at hG2 ⊢
      have HC:=hid hc
      clear hwc hw hn hG2 hc
      go_enter Tryz.func115,Tryz.ntmps115
      go_wp2_with (first
       | (go_at_call 99;refine (waitsR s N M HP.out tx _ HR.out hx).mono ?_;rw [HK0.out];rintro e w' ⟨rfl,rfl⟩)
       | (go_at_call 98;refine (holdsR s N M HP.out key _ HR.out hky).mono ?_;rw [HY.out];rintro e w' ⟨rfl,rfl⟩)
       | (go_at_call 164;refine (waitsFor_any s N M h wa ln T q y tx _ HR.out HP.out HG.out.tidy HQ.out hh64 hyx).mono ?_;rw [HC.out];rintro e w' ⟨rfl,rfl⟩))
      go_ret2
      exact askPost_same HT.out rfl
     ·rw [if_neg hc] at hG2 ⊢
      have HC:=hid (show reachP T tx (q y+1) y=false by simpa using hc)
      have HRH:=hid (HP.out.wait (tx:=tx) hn h1 hG2.tidy)
      clear hwc hw hn hG2 hc
      go_enter Tryz.func115,Tryz.ntmps115
      go_wp2_with (first
       | (go_at_call 99;refine (waitsR s N M HP.out tx _ HR.out hx).mono ?_;rw [HK0.out];rintro e w' ⟨rfl,rfl⟩)
       | (go_at_call 98;refine (holdsR s N M HP.out key _ HR.out hky).mono ?_;rw [HY.out];rintro e w' ⟨rfl,rfl⟩)
       | (go_at_call 164;refine (waitsFor_any s N M h wa ln T q y tx _ HR.out HP.out HG.out.tidy HQ.out hh64 hyx).mono ?_;rw [HC.out];rintro e w' ⟨rfl,rfl⟩)
       | (go_at_call 165;refine (wait_any s N M h wa ln tx key _ HR.out hky hx hN).mono ?_;rintro e w' ⟨rfl,hM⟩))
      go_ret2
      obtain⟨M',hM1,hM2⟩:=hM
      exact⟨rfl,M',⟨_,_,_,hM1,HRH.out⟩,hM2⟩
 ·rw [if_pos (by simpa using hb)]
  refine (ask_range s tx key w hb).mono ?_
  rintro e w' ⟨rfl,rfl⟩
  exact askPost_same hT rfl
end Go.Proofs.YtjefgmeejhakbaaGreatDoor
/- How the document's store lies at the head of a greater block; its Read. -/
namespace Go.Proofs.YtjefgmeejhakbaaGreatDoor
open Go.RowKit
def krow:List (Int × Int × Int)→List Value
 | []=>[]
 | (k,a,v)::r=>.int .i64 k::.int .i64 a::.int .i64 v::krow r
theorem krow_length:∀ l:List (Int × Int × Int),(krow l).length=l.length*3
 | []=>rfl
 | (_,_,_)::r=>by simp [krow,krow_length r];omega
theorem krow_append:∀ l m:List (Int × Int × Int),krow (l++m)=krow l++krow m
 | [],_=>rfl
 | (_,_,_)::r,m=>by simp [krow,krow_append r m]
theorem krow_get:∀ (l:List (Int × Int × Int)) (j:Nat) (k a v:Int),l[j]?=some (k,a,v)→(krow l)[j*3]?=some (.int .i64 k)∧(krow l)[j*3+1]?=some (.int .i64 a)∧(krow l)[j*3+2]?=some (.int .i64 v)
 | [],j,k,a,v,h=>by simp at h
 | (x,y,z)::r,0,k,a,v,h=>by simp at h;obtain⟨rfl,rfl,rfl⟩:=h;simp [krow]
 | (x,y,z)::r,j+1,k,a,v,h=>by
  have:=krow_get r j k a v (by simpa using h)
  rw [show (j+1)*3=j*3+1+1+1 from by omega]
  simpa [krow] using this
theorem krow_one:∀ (l:List (Int × Int × Int)),∀ u∈krow l,u.oneCell'=true
 | [],u,h=>by simp [krow] at h
 | (x,y,z)::r,u,h=>by
  simp only [krow,List.mem_cons] at h
  rcases h with rfl | rfl | rfl | h
  ·rfl
  ·rfl
  ·rfl
  ·exact krow_one r u h
def fcells (P:Tail) (lv:Value) (last:Int):Array Value:=(lv::.int .i64 last::P.post).toArray
variable {P:Tail}
structure Ref (P:Tail) (w:World) (base R:Nat) (last:Int) (lv:Value) (L:List (Int × Int × Int)):Prop where
 blk:w.heap[R]?=some (.cells (fcells P lv last) P.tt (0,0))
 own:w.ownsRow base 235 3 lv L.length (krow L)
 nl:L=[]→lv=.slice none 0 0
 rb:R<base
section
variable {w w':World} {base R:Nat} {last:Int} {lv:Value} {L:List (Int × Int × Int)}
theorem Ref.lt (h:Ref P w base R last lv L):R<w.heap.size:=(Array.getElem?_eq_some_iff.1 h.blk).1
theorem Ref.kept (h:Ref P w base R last lv L) (hs:w'.heap[R]?=w.heap[R]?) (hr:∀ g,lv.ownBlock=some g→w'.heap[g]?=w.heap[g]?):Ref P w' base R last lv L :=
 ⟨hs.trans h.blk,owns_same h.own hr,h.nl,h.rb⟩
theorem Ref.below (h:Ref P w base R last lv L) (hB:Below w.heap.size w w'):Ref P w' base R last lv L :=
 h.kept (hB.block R h.lt) (fun g hg=>hB.block g (h.own.lt g hg).2)
theorem Ref.c0 (h:Ref P w base R last lv L):w.cell? ⟨R,0,none⟩=some lv:=(cell_of_row _ _ 0 _ P.tt (0,0) h.blk).trans (by simp [fcells])
theorem Ref.c1 (h:Ref P w base R last lv L):w.cell? ⟨R,1,none⟩=some (.int .i64 last):=(cell_of_row _ _ 1 _ P.tt (0,0) h.blk).trans (by simp [fcells])
theorem Ref.slice (h:Ref P w base R last lv L):(lv=.slice none 0 0∧L=[])∨∃ g cap,lv=.slice (some ⟨g,0,none⟩) L.length cap∧g<w.heap.size∧base≤g ∧
  ∀ j k a v,L[j]?=some (k,a,v)→w.cell? ⟨g,j*3,none⟩=some (.int .i64 k)∧w.cell? ⟨g,j*3+1,none⟩=some (.int .i64 a)∧w.cell? ⟨g,j*3+2,none⟩=some (.int .i64 v):=by
 rcases h.own.2 with ⟨e,e0⟩ | ⟨g,cap,cur,e,hb,hg,_⟩
 ·exact .inl ⟨e,List.eq_nil_of_length_eq_zero e0⟩
 ·refine .inr ⟨g,cap,e,(Array.getElem?_eq_some_iff.1 hg).1,hb,fun j k a v hj=>?_⟩
  have hc:=h.own.cells (g:=g) (by rw [e];rfl)
  obtain⟨h1,h2,h3⟩:=krow_get L j k a v hj
  have c1:=hc _ _ h1
  have c2:=hc _ _ h2
  have c3:=hc _ _ h3
  rw [addr_add] at c1 c2 c3
  exact⟨c1,c2,c3⟩
end
def bestS (k t:Int) (b:Option (Int × Int)) (x:Int × Int × Int):Option (Int × Int) :=
 if x.1=k∧x.2.1≤t∧(b=none∨(b.getD (0,0)).1<x.2.1) then some (x.2.1,x.2.2) else b
def best (k t:Int) (L:List (Int × Int × Int)):Option (Int × Int):=L.foldl (bestS k t) none
theorem best_snoc (k t:Int) (L:List (Int × Int × Int)) (x:Int × Int × Int):best k t (L++[x])=bestS k t (best k t L) x:=by simp [best]
def errOf:Option (Int × Int)→Int
 | some _=>0
 | none=>8
theorem two_set {W:World} {B:Nat} {x y:Value} {T:TypeId} (h:W.heap[B]?=some (.cells #[x,y] T (0,0))) (a v:Int):((W.setCell ⟨B,0,none⟩ (.int .i64 a)).setCell ⟨B,1,none⟩ (.int .i64 v)).heap[B]?=some (.cells #[.int .i64 a,.int .i64 v] T (0,0)) :=
 (heap_setCell_same _ B 1 _ T _ (heap_setCell_same W B 0 _ T _ h)).trans rfl
set_option maxRecDepth 100000 in
set_option maxHeartbeats 2000000 in
theorem refRead_walk (base R g cap:Nat) (k t last:Int) (L:List (Int × Int × Int)) (w:World) (hk:inB k 0 9=true) (hlen:L.length≤100000) (h:Ref P w base R last (.slice (some ⟨g,0,none⟩) L.length cap) L) :
  Calls Tryz.prog 135 #[.pointer (some ⟨R,0,none⟩),.int .i64 k,.int .i64 t] w fun e w' =>
   e=.returned (.tuple #[.agg #[.int .i64 ((best k t L).getD (0,0)).1,.int .i64 ((best k t L).getD (0,0)).2],.int .i64 (errOf (best k t L))])∧Below w.heap.size w w':=by
 have hc:=h.c0
 have hR:=h.lt
 obtain⟨hgl,hcells⟩:g<w.heap.size∧∀ j k a v,L[j]?=some (k,a,v)→w.cell? ⟨g,j*3,none⟩=some (.int .i64 k)∧w.cell? ⟨g,j*3+1,none⟩=some (.int .i64 a)∧w.cell? ⟨g,j*3+2,none⟩=some (.int .i64 v):=by
  rcases h.slice with ⟨e,_⟩ | ⟨g',cp,e,h1,h2,h3⟩
  ·cases e
  ·cases e;exact⟨h1,h3⟩
 have HC:=hid hcells
 clear hcells
 go_enter Tryz.func135,Tryz.ntmps135
 go_wp2_with (go_at_call 54;refine (in_any _ _ _ _).mono ?_;rintro e w' ⟨rfl,rfl⟩)
 go_loopw [9,22] (fun sv i wr=>∃ (j:Nat) (b:Option (Int × Int)),j≤L.length∧i=.int .i64 j∧b=best k t (L.take j)∧sv=.bool b.isSome∧wr.heap[w.heap.size]?=some (.cells #[.int .i64 0,.int .i64 0] 199 (0,0))∧wr.heap[w.heap.size+1]?=some (.cells #[.int .i64 (b.getD (0,0)).1,.int .i64 (b.getD (0,0)).2] 199 (0,0))∧Below w.heap.size w wr) (fun _ i _=>L.length-(intOf i).toNat)
 case atStart=>exact⟨0,none,Nat.zero_le _,rfl,by simp [best],rfl,(Below.heap_alloc _ _ _ (by simp)).trans (World.alloc_heap_new w _),by have:=World.alloc_heap_new (w.alloc (.cells #[.int .i64 0,.int .i64 0] 199)) (.cells #[.int .i64 0,.int .i64 0] 199);simpa using this,((Below.refl _ w).alloc (Nat.le_refl _) _).alloc (by simp) _⟩
 case round =>
  obtain⟨j,b,hj,rfl,hb,rfl,hx,hy,hB⟩:=hrel
  have hszX:=(Array.getElem?_eq_some_iff.1 hy).1
  have HB:=hid hb
  clear hb
  by_cases hlt:j<L.length
  ·obtain⟨⟨k',a,v⟩,hav⟩:∃ p,L[j]?=some p:=⟨L[j],List.getElem?_eq_getElem hlt⟩
   obtain⟨d1,d2,d3⟩:=HC.out j k' a v hav
   have e1:=(hB.cell (p:=⟨g,j*3,none⟩) hgl).trans d1
   have e2:=(hB.cell (p:=⟨g,j*3+1,none⟩) hgl).trans d2
   have e3:=(hB.cell (p:=⟨g,j*3+2,none⟩) hgl).trans d3
   have hst:Hid (best k t (L.take (j+1))=bestS k t b (k',a,v)):=by
    show _=_
    rw [List.take_add_one,hav,HB.out]
    exact best_snoc _ _ _ _
   have hj0:(0:Int)≤(j:Int):=by omega
   have hj1:(j:Int)<(L.length:Int):=by omega
   obtain⟨p1,p2,hp⟩:∃ p1 p2,b.getD (0,0)=(p1,p2):=⟨_,_,rfl⟩
   rw [hp] at hy
   simp only at hy
   have f1:wr.cell? ⟨w.heap.size+1,0,none⟩=some (.int .i64 p1):=(cell_of_row _ _ 0 _ 199 (0,0) hy).trans rfl
   have f2:wr.cell? ⟨w.heap.size+1,1,none⟩=some (.int .i64 p2):=(cell_of_row _ _ 1 _ 199 (0,0) hy).trans rfl
   have f3:=frozen_of_row wr (w.heap.size+1) 0 _ 199 hy
   have f4:=frozen_of_row wr (w.heap.size+1) 1 _ 199 hy
   have HP:=hid hp
   have HX:=hid hx
   have HY:=hid hy
   clear hav d1 d2 d3 hx hy hp HC HB
   by_cases q1:k'=k
   ·have q1':(k'==k)=true:=by simpa using q1
    have Q1:=hid q1
    clear q1
    by_cases q2:a≤t
    ·cases b with
     | none =>
      have hs0:(none:Option (Int × Int)).isSome=false:=rfl
      go_wp2
      go_roundw
      case rel =>
       refine⟨j+1,some (a,v),by omega,by go_num,by rw [hst.out];simp [bestS,Q1.out,q2],rfl,?_,?_,?_⟩
       ·rw [Below.heap_alloc _ _ _ (by simp;omega),heap_setCell_other _ _ _ _ (show w.heap.size≠w.heap.size+1 by omega),heap_setCell_other _ _ _ _ (show w.heap.size≠w.heap.size+1 by omega)];exact HX.out
       ·rw [Below.heap_alloc _ _ _ (by simp;omega)];exact two_set HY.out a v
       ·exact ((hB.setCell (p:=⟨w.heap.size+1,0,none⟩) (by simp) _).setCell (p:=⟨w.heap.size+1,1,none⟩) (by simp) _).alloc (by simp;omega) _
      case measure=>simp [intOf];omega
     | some bb =>
      have hs0:(some bb).isSome=true:=rfl
      have hbb:=hid (show bb=(p1,p2) by simpa using HP.out)
      by_cases q3:p1<a
      ·have q3':Hid (bb.1<a):=by show _<_;rw [hbb.out];exact q3
       go_wp2
       go_roundw
       case rel =>
        refine⟨j+1,some (a,v),by omega,by go_num,by rw [hst.out];simp [bestS,Q1.out,q2,q3'.out],rfl,?_,?_,?_⟩
        ·rw [Below.heap_alloc _ _ _ (by simp;omega),heap_setCell_other _ _ _ _ (show w.heap.size≠w.heap.size+1 by omega),heap_setCell_other _ _ _ _ (show w.heap.size≠w.heap.size+1 by omega)];exact HX.out
        ·rw [Below.heap_alloc _ _ _ (by simp;omega)];exact two_set HY.out a v
        ·exact ((hB.setCell (p:=⟨w.heap.size+1,0,none⟩) (by simp) _).setCell (p:=⟨w.heap.size+1,1,none⟩) (by simp) _).alloc (by simp;omega) _
       case measure=>simp [intOf];omega
      ·have q3':Hid (¬ bb.1<a):=by show ¬ _<_;rw [hbb.out];exact q3
       go_wp2
       go_roundw
       case rel =>
        refine⟨j+1,some bb,by omega,by go_num,by rw [hst.out];simp [bestS,q3'.out],rfl,?_,?_,hB.alloc (by omega) _⟩
        ·rw [Below.heap_alloc _ _ _ (by omega)];exact HX.out
        ·rw [Below.heap_alloc _ _ _ (by omega)];rw [Option.getD_some,hbb.out];exact HY.out
       case measure=>simp [intOf];omega
    ·have q2':=hid q2
     go_wp2
     go_roundw
     case rel =>
      refine⟨j+1,b,by omega,by go_num,by rw [hst.out];simp [bestS,q2'.out],rfl,?_,?_,hB.alloc (by omega) _⟩
      ·rw [Below.heap_alloc _ _ _ (by omega)];exact HX.out
      ·rw [Below.heap_alloc _ _ _ (by omega)];rw [HP.out];exact HY.out
     case measure=>simp [intOf];omega
   ·have q1':(k'==k)=false:=by simpa using q1
    have Q1:=hid q1
    clear q1
    go_wp2
    go_roundw
    case rel =>
     refine⟨j+1,b,by omega,by go_num,by rw [hst.out];simp [bestS,Q1.out],rfl,?_,?_,hB.alloc (by omega) _⟩
     ·rw [Below.heap_alloc _ _ _ (by omega)];exact HX.out
     ·rw [Below.heap_alloc _ _ _ (by omega)];rw [HP.out];exact HY.out
    case measure=>simp [intOf];omega
  ·have e:L.take j=L:=List.take_of_length_le (by omega)
   rw [e] at HB
   have g0:wr.cell? ⟨w.heap.size,0,none⟩=some (.int .i64 0):=(cell_of_row _ _ 0 _ 199 (0,0) hx).trans rfl
   have g1:wr.cell? ⟨w.heap.size,1,none⟩=some (.int .i64 0):=(cell_of_row _ _ 1 _ 199 (0,0) hx).trans rfl
   have f0:=frozen_of_row wr w.heap.size 0 _ 199 hx
   have f1:=frozen_of_row wr w.heap.size 1 _ 199 hx
   cases b with
   | none =>
    have hs0:(none:Option (Int × Int)).isSome=false:=rfl
    clear e HC hx hy
    go_wp2
    refine bodyPost_ret (v:=.tuple #[.agg #[.int .i64 0,.int .i64 0],.int .i64 8]) (by simp [results,Tryz.results135,go_sem,g0,g1]) rfl ⟨by rw [← HB.out];rfl,?_⟩
    exact (hB.setCell (p:=⟨w.heap.size,0,none⟩) (by simp) _).setCell (p:=⟨w.heap.size,1,none⟩) (by simp) _
   | some bb =>
    obtain⟨p1,p2⟩:=bb
    have hs0:(some (p1,p2)).isSome=true:=rfl
    simp only [Option.getD_some] at hy
    have k0:wr.cell? ⟨w.heap.size+1,0,none⟩=some (.int .i64 p1):=(cell_of_row _ _ 0 _ 199 (0,0) hy).trans rfl
    have k1:wr.cell? ⟨w.heap.size+1,1,none⟩=some (.int .i64 p2):=(cell_of_row _ _ 1 _ 199 (0,0) hy).trans rfl
    clear e HC hx hy
    go_wp2
    refine bodyPost_ret (v:=.tuple #[.agg #[.int .i64 p1,.int .i64 p2],.int .i64 0]) (by simp [results,Tryz.results135,go_sem,g0,g1]) rfl ⟨by rw [← HB.out];rfl,?_⟩
    exact (hB.setCell (p:=⟨w.heap.size,0,none⟩) (by simp) _).setCell (p:=⟨w.heap.size,1,none⟩) (by simp) _
end Go.Proofs.YtjefgmeejhakbaaGreatDoor
