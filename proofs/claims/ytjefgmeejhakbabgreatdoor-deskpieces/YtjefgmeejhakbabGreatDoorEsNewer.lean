/- (*Store).Newer. -/
import Derived.Test.YtjefgmeejhakbabGreatDoorMgAH
namespace Go.Proofs.YtjefgmeejhakbabGreatDoor
open Go.RowKit
variable {P:Tail}
def timesV (l:List (Int × Int)):List Value:=l.map fun p=>.int .i64 p.1
set_option maxRecDepth 100000 in
set_option maxHeartbeats 2000000 in
theorem newer_some (base s k m:Nat) (last t:Int) (vs:List Value) (ks:List (List (Int × Int))) (l:List (Int × Int)) (w:World) (h:Sto P w base s last vs ks) (hl:ks[k]?=some l) (hlen:l.length≤1000000) (hm:lat l t+1=m) (hml:m<l.length) :
  Calls Tryz.prog 260 #[.pointer (some ⟨s,0,none⟩),.int .i64 (k:Int),.int .i64 t] w fun e w'=>∃ tv,e=.returned (.tuple #[tv,.nilIface])∧w'.ownsRow w.heap.size 3 1 tv (l.length-m) (timesV (l.drop m))∧Below w.heap.size w w':=by
 obtain⟨i0,hi0,hz0,hz1,hz2⟩:=info_parts info3
 have hk:k<10:=by have:=(List.getElem?_eq_some_iff.1 hl).1;have:=h.lk;omega
 obtain⟨ad,cap,l',hv,hl',ho⟩:=h.slice hk
 rw [hl] at hl'
 cases hl'
 have hc:=h.cell hv
 have hvers:=vers_of_owns ho
 obtain⟨g,rfl⟩:∃ g,ad=some ⟨g,0,none⟩:=by
  rcases hvers with ⟨_,e⟩ | ⟨b,c,e,_⟩
  ·subst e;simp at hml
  ·simp at e;exact⟨b,e.1⟩
 have hcap:l.length≤cap:=by
  rcases ho.2 with ⟨e,_⟩ | ⟨_,_,_,e,_,_,h3,_⟩
  ·simp at e
  ·simp at e;omega
 obtain⟨hg,hrow⟩:g<w.heap.size∧Row w g l:=by
  rcases hvers with ⟨e,_⟩ | ⟨b,c,e,hb,hr⟩
  ·simp at e
  ·simp at e;obtain⟨rfl,_⟩:=e;exact⟨hb,hr⟩
 have hs:=h.lt
 have hkb:keyB (k:Int)=true:=by simp [keyB];omega
 have hk0:(0:Int)≤(k:Int):=by omega
 have hk1:(k:Int)<10:=by omega
 have hlo:Hid (lat l t=(m:Int)-1):=by show _=_;omega
 have hcm:¬ cap=m:=by omega
 have hmi:(m:Int)≤(l.length:Int):=by omega
 have hmi0:(0:Int)≤(m:Int):=by omega
 have hwr:IntKind.i64.wrap (m:Int)=(m:Int):=by simp [IntKind.wrap,IntKind.bits,IntKind.signed];omega
 clear hm ho hv hl
 go_enter Tryz.func260,Tryz.ntmps260
 go_wp2_with (first | (go_at_call 259;refine (isKey_any _ _).mono ?_;rintro e w' ⟨rfl,hw1⟩;rw [hw1];clear hw1 w'))
 have hvers2:Vers w.drew.heap.size w.drew (.slice (some ⟨g,0,none⟩) l.length cap) l:=hvers.below ((Below.refl _ w).drew)
 go_region_held3 (fun w'=>w'.cell? ⟨s,1+k,none⟩=some (.slice (some ⟨g,0,none⟩) l.length cap))
  (first | go_keep | (exact (hb1.cell (p:=⟨s,1+k,none⟩) hs).trans hc))
  ((go_at_call 229;refine (latest_any _ _ _ t l hlen w.drew hvers2).mono ?_;rintro e w1 ⟨rfl,hb1⟩;rw [hlo.out]))
 have hb2:Below w.heap.size w w1:=⟨hb1.os,hb1.tape,hb1.output,hb1.size,hb1.block⟩
 obtain⟨d,hd⟩:∃ d,l.length-m=d:=⟨_,rfl⟩
 have hdl:(l.drop m).length=d:=by rw [List.length_drop,hd]
 have hd1:d≤1000000:=by omega
 have HD:Hid (l.length=m+d):=by show _=_;omega
 rw [hd]
 clear hd hvers2 hvers hb1 hc hmi
 go_wp2
 go_loopw [8,32] (fun tv i wr=>∃ j:Nat,j≤d∧i=.int .i64 j∧wr.ownsRow w.heap.size 3 1 tv j (timesV ((l.drop m).take j))∧Below w.heap.size w wr) (fun _ i _=>d-(intOf i).toNat)
 case atStart=>exact⟨0,Nat.zero_le _,rfl,by simpa [timesV] using World.ownsRow_nil w1 w.heap.size 3 1,hb2⟩
 case round =>
  clear hb2
  obtain⟨j,hj,rfl,hown,hB⟩:=hrel
  by_cases hlt:j<d
  ·obtain⟨⟨a,x⟩,hax⟩:∃ p,l[m+j]?=some p:=⟨l[m+j]'(by have:=HD.out;omega),List.getElem?_eq_getElem _⟩
   obtain⟨c1,c2⟩:=(hrow.below hB hg) (m+j) a x hax
   rw [show (m+j)*2=m*2+j*2 from by omega] at c1 c2
   have hst:Hid (timesV ((l.drop m).take (j+1))=timesV ((l.drop m).take j)++[.int .i64 a]):=by
    show _=_
    rw [List.take_add_one,List.getElem?_drop,hax]
    simp [timesV]
   have hj0:(0:Int)≤(j:Int):=by omega
   have hj1:(j:Int)<(d:Int):=by omega
   have hBs:=hB.size
   clear hax hdl
   go_wp2_with (at_builtin;refine wpList_append_lies _ rfl _ _ _ rfl w.heap.size 3 i0 _ 1 8 Tryz.underlying54 hi0 hz0 hz1 hz2 rfl (by omega) u8 j _ rfl ((hown.alloc _).alloc _) ⟨wr.heap.size+1,0,none⟩ 1 1 [.int .i64 a] rfl rfl (World.news_of_block (cs:=#[.int .i64 a]) (t:=3) (fr:=(0,0)) (by have:=heap_alloc_new (wr.alloc (.cells #[.int .i64 a,.int .i64 x] 198)) (.cells #[.int .i64 a] 3);simpa using this)) (by simp [Value.oneCell']) (by omega) (by unfold maxLen;omega) (by omega) (by simp;omega) (wr.heap.size+1+1) (by simp) ?_;intro g' cap' w2 ho hgrow hat hlt2)
   go_roundw
   case rel=>exact⟨j+1,by omega,by go_num,by rw [hst.out];exact ho,hB.trans ((((Below.refl _ wr).alloc (Nat.le_refl _) _).alloc (by simp) _).mono hBs |>.grown hgrow (by simp;omega) (fun k e=>(hown.lt k e).1))⟩
   case measure=>simp [intOf];omega
  ·have hjd:j=d:=by omega
   subst hjd
   rw [List.take_of_length_le (by omega)] at hown
   have HO:Hid (wr.ownsRow w.heap.size 3 1 u8 j (timesV (l.drop m))):=hown
   clear hown hdl
   go_wp2
   go_ret2
   refine⟨_,rfl,?_,hB⟩
   have:=HO.out
   rw [show l.length-m=j from by have:=HD.out;omega]
   exact this
set_option maxRecDepth 100000 in
set_option maxHeartbeats 2000000 in
theorem newer_endA (s k n:Nat) (g cap:Nat) (t:Int) (l:List (Int × Int)) (w:World) (hk:k<10) (hn:n≤1000000) (hlen:l.length≤1000000) (hc:w.cell? ⟨s,1+k,none⟩=some (.slice (some ⟨g,0,none⟩) n cap)) (hvers:Vers w.heap.size w (.slice (some ⟨g,0,none⟩) n cap) l) (hlat:lat l t=(n:Int)-1) (hcap:n<cap) :
  Calls Tryz.prog 260 #[.pointer (some ⟨s,0,none⟩),.int .i64 (k:Int),.int .i64 t] w fun e w'=>e=.returned (.tuple #[.slice none 0 0,.nilIface])∧Below w.heap.size w w':=by
 have hs:s<w.heap.size:=World.block_lt_of_cell? w _ hc
 have hkb:keyB (k:Int)=true:=by simp [keyB];omega
 have hk0:(0:Int)≤(k:Int):=by omega
 have hk1:(k:Int)<10:=by omega
 have hlo:Hid (lat l t=(n:Int)-1):=hlat
 have hmi0:(0:Int)≤(n:Int):=by omega
 have hwr:IntKind.i64.wrap (n:Int)=(n:Int):=by simp [IntKind.wrap,IntKind.bits,IntKind.signed];omega
 have hcm:¬ cap=n:=by omega
 have hcm2:(n:Int)≤(cap:Int):=by omega
 clear hlat
 go_enter Tryz.func260,Tryz.ntmps260
 go_wp2_with (first | (go_at_call 259;refine (isKey_any _ _).mono ?_;rintro e w' ⟨rfl,hw1⟩;rw [hw1];clear hw1 w'))
 have hvers2:Vers w.drew.heap.size w.drew (.slice (some ⟨g,0,none⟩) n cap) l:=hvers.below ((Below.refl _ w).drew)
 go_region_held3 (fun w'=>w'.cell? ⟨s,1+k,none⟩=some (.slice (some ⟨g,0,none⟩) n cap))
  (first | go_keep | (exact (hb1.cell (p:=⟨s,1+k,none⟩) hs).trans hc))
  ((go_at_call 229;refine (latest_any _ _ _ t l hlen w.drew hvers2).mono ?_;rintro e w1 ⟨rfl,hb1⟩;rw [hlo.out]))
 have hb2:Below w.heap.size w w1:=⟨hb1.os,hb1.tape,hb1.output,hb1.size,hb1.block⟩
 clear hvers2 hvers hb1 hc
 go_wp2
 go_loop [8,32] (fun tv i=>tv=.slice none 0 0∧i=.int .i64 0) (fun _ _=>0)
 case atStart=>exact⟨rfl,rfl⟩
 case round =>
  obtain⟨rfl,rfl⟩:=hrel
  go_wp2
  go_ret2
  exact⟨rfl,hb2⟩
set_option maxRecDepth 100000 in
set_option maxHeartbeats 2000000 in
theorem newer_endB (s k n:Nat) (g:Nat) (t:Int) (l:List (Int × Int)) (w:World) (hk:k<10) (hn:n≤1000000) (hlen:l.length≤1000000) (hc:w.cell? ⟨s,1+k,none⟩=some (.slice (some ⟨g,0,none⟩) n n)) (hvers:Vers w.heap.size w (.slice (some ⟨g,0,none⟩) n n) l) (hlat:lat l t=(n:Int)-1) :
  Calls Tryz.prog 260 #[.pointer (some ⟨s,0,none⟩),.int .i64 (k:Int),.int .i64 t] w fun e w'=>e=.returned (.tuple #[.slice none 0 0,.nilIface])∧Below w.heap.size w w':=by
 have hs:s<w.heap.size:=World.block_lt_of_cell? w _ hc
 have hkb:keyB (k:Int)=true:=by simp [keyB];omega
 have hk0:(0:Int)≤(k:Int):=by omega
 have hk1:(k:Int)<10:=by omega
 have hlo:Hid (lat l t=(n:Int)-1):=hlat
 have hmi0:(0:Int)≤(n:Int):=by omega
 have hwr:IntKind.i64.wrap (n:Int)=(n:Int):=by simp [IntKind.wrap,IntKind.bits,IntKind.signed];omega
 clear hlat
 go_enter Tryz.func260,Tryz.ntmps260
 go_wp2_with (first | (go_at_call 259;refine (isKey_any _ _).mono ?_;rintro e w' ⟨rfl,hw1⟩;rw [hw1];clear hw1 w'))
 have hvers2:Vers w.drew.heap.size w.drew (.slice (some ⟨g,0,none⟩) n n) l:=hvers.below ((Below.refl _ w).drew)
 go_region_held3 (fun w'=>w'.cell? ⟨s,1+k,none⟩=some (.slice (some ⟨g,0,none⟩) n n))
  (first | go_keep | (exact (hb1.cell (p:=⟨s,1+k,none⟩) hs).trans hc))
  ((go_at_call 229;refine (latest_any _ _ _ t l hlen w.drew hvers2).mono ?_;rintro e w1 ⟨rfl,hb1⟩;rw [hlo.out]))
 have hb2:Below w.heap.size w w1:=⟨hb1.os,hb1.tape,hb1.output,hb1.size,hb1.block⟩
 clear hvers2 hvers hb1 hc
 go_wp2
 go_loop [8,32] (fun tv i=>tv=.slice none 0 0∧i=.int .i64 0) (fun _ _=>0)
 case atStart=>exact⟨rfl,rfl⟩
 case round =>
  obtain⟨rfl,rfl⟩:=hrel
  go_wp2
  go_ret2
  exact⟨rfl,hb2⟩
set_option maxRecDepth 100000 in
set_option maxHeartbeats 2000000 in
theorem newer_endC (s k:Nat) (t:Int) (l:List (Int × Int)) (w:World) (hk:k<10) (hlen:l.length≤1000000) (hc:w.cell? ⟨s,1+k,none⟩=some (.slice none 0 0)) (hvers:Vers w.heap.size w (.slice none 0 0) l) (hlat:lat l t=-1) :
  Calls Tryz.prog 260 #[.pointer (some ⟨s,0,none⟩),.int .i64 (k:Int),.int .i64 t] w fun e w'=>e=.returned (.tuple #[.slice none 0 0,.nilIface])∧Below w.heap.size w w':=by
 have hs:s<w.heap.size:=World.block_lt_of_cell? w _ hc
 have hkb:keyB (k:Int)=true:=by simp [keyB];omega
 have hk0:(0:Int)≤(k:Int):=by omega
 have hk1:(k:Int)<10:=by omega
 have hlo:Hid (lat l t=-1):=hlat
 have hwr:IntKind.i64.wrap 0=0:=by decide
 clear hlat
 go_enter Tryz.func260,Tryz.ntmps260
 go_wp2_with (first | (go_at_call 259;refine (isKey_any _ _).mono ?_;rintro e w' ⟨rfl,hw1⟩;rw [hw1];clear hw1 w'))
 have hvers2:Vers w.drew.heap.size w.drew (.slice none 0 0) l:=hvers.below ((Below.refl _ w).drew)
 go_region_held3 (fun w'=>w'.cell? ⟨s,1+k,none⟩=some (.slice none 0 0))
  (first | go_keep | (exact (hb1.cell (p:=⟨s,1+k,none⟩) hs).trans hc))
  ((go_at_call 229;refine (latest_any _ _ _ t l hlen w.drew hvers2).mono ?_;rintro e w1 ⟨rfl,hb1⟩;rw [hlo.out]))
 have hb2:Below w.heap.size w w1:=⟨hb1.os,hb1.tape,hb1.output,hb1.size,hb1.block⟩
 clear hvers2 hvers hb1 hc
 go_wp2
 go_loop [8,32] (fun tv i=>tv=.slice none 0 0∧i=.int .i64 0) (fun _ _=>0)
 case atStart=>exact⟨rfl,rfl⟩
 case round =>
  obtain⟨rfl,rfl⟩:=hrel
  go_wp2
  go_ret2
  exact⟨rfl,hb2⟩
theorem newer_any (base s k:Nat) (last t:Int) (vs:List Value) (ks:List (List (Int × Int))) (l:List (Int × Int)) (w:World) (h:Sto P w base s last vs ks) (hl:ks[k]?=some l) (hlen:l.length≤1000000) :
  Calls Tryz.prog 260 #[.pointer (some ⟨s,0,none⟩),.int .i64 (k:Int),.int .i64 t] w fun e w'=>∃ tv,e=.returned (.tuple #[tv,.nilIface]) ∧
   w'.ownsRow w.heap.size 3 1 tv (l.drop (lat l t+1).toNat).length (timesV (l.drop (lat l t+1).toNat))∧Below w.heap.size w w':=by
 have hlat:=lat_lt l t l.length
 have hlat2:lat l t<l.length∧-1≤lat l t:=hlat
 obtain⟨m,hm⟩:∃ m:Nat,lat l t+1=m:=⟨(lat l t+1).toNat,by omega⟩
 rw [hm,Int.toNat_natCast,List.length_drop]
 by_cases hml:m<l.length
 ·exact newer_some base s k m last t vs ks l w h hl hlen hm hml
 ·have hme:m=l.length:=by omega
  subst hme
  have hk:k<10:=by have:=(List.getElem?_eq_some_iff.1 hl).1;have:=h.lk;omega
  obtain⟨ad,cap,l',hv,hl',ho⟩:=h.slice hk
  rw [hl] at hl'
  cases hl'
  have hvers:=vers_of_owns ho
  have fin:∀ e (w':World),(e=Ending.returned (.tuple #[.slice none 0 0,.nilIface])∧Below w.heap.size w w')→∃ tv,e=.returned (.tuple #[tv,.nilIface]) ∧
    w'.ownsRow w.heap.size 3 1 tv (l.length-l.length) (timesV (l.drop l.length))∧Below w.heap.size w w':=fun e w' ⟨he,hb⟩ =>
   ⟨_,he,by simpa [timesV] using World.ownsRow_nil w' w.heap.size 3 1,hb⟩
  rcases ho.2 with ⟨e,e0⟩ | ⟨g,cp,cur,e,_,_,hcp,_⟩
  ·have hv2:vs[k]?=some (.slice none 0 0):=by rw [hv,e]
   rw [e] at hvers
   exact (newer_endC s k t l w hk hlen (h.cell hv2) hvers (by omega)).mono fin
  ·cases e
   rcases Nat.lt_or_ge l.length cap with hc | hc
   ·exact (newer_endA s k l.length g cap t l w hk hlen hlen (h.cell hv) hvers (by omega) hc).mono fin
   ·have hce:cap=l.length:=by omega
    subst hce
    exact (newer_endB s k l.length g t l w hk hlen hlen (h.cell hv) hvers (by omega)).mono fin
end Go.Proofs.YtjefgmeejhakbabGreatDoor
