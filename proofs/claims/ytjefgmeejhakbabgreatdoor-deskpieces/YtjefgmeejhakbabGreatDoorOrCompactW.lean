/- slices.Compact over twos: the walk. -/
import Derived.Test.YtjefgmeejhakbabGreatDoorMgBB
namespace Go.Proofs.YtjefgmeejhakbabGreatDoor
open Go.RowKit
set_option maxRecDepth 100000 in
set_option maxHeartbeats 400000 in
theorem compact_short (ad:Option Addr) (n cap:Nat) (w:World) (hn:n<2):Calls Tryz.prog 249 #[.slice ad n cap] w fun e w'=>e=.returned (.slice ad n cap)∧w'=w:=by
 have hb:(n:Int)<2:=by omega
 go_enter Tryz.func249,Tryz.ntmps249
 go_wp2
 go_ret
 exact⟨rfl,rfl⟩
theorem two_cells {w:World} {N g n cap:Nat} {m:List (Int × Int)} {e:TypeId} (h:w.ownsRow N e 2 (.slice (some ⟨g,0,none⟩) n cap) n (vrow m)) {j:Nat} {a b:Int} (hj:m[j]?=some (a,b)):w.cell? ⟨g,j*2,none⟩=some (.int .i64 a)∧w.cell? ⟨g,j*2+1,none⟩=some (.int .i64 b):=by
 have hv:=vrow_get m j a b hj
 have h1:=h.cells (g:=g) rfl _ _ hv.1
 have h2:=h.cells (g:=g) rfl _ _ hv.2
 rw [addr_add] at h1 h2
 exact⟨h1,h2⟩
theorem two_free {w:World} {N g n cap:Nat} {xs:List Value} {e:TypeId} (h:w.ownsRow N e 2 (.slice (some ⟨g,0,none⟩) n cap) n xs) (j:Nat):w.frozen? ⟨g,j,none⟩=false:=by
 rcases h.2 with ⟨e1,_⟩ | ⟨g',cap',cur,e1,_,hg,_⟩
 ·cases e1
 ·cases e1;simp [World.frozen?,hg]
set_option maxRecDepth 100000 in
set_option maxHeartbeats 1000000 in
theorem compact_long (N g cap:Nat) (d:List (Int × Int)) (n:Nat) (w:World) (hdn:d.length=n) (hn2:2≤n) (hn:n≤100000000) (h:w.ownsRow N 122 2 (.slice (some ⟨g,0,none⟩) n cap) n (vrow d)) :
  Calls Tryz.prog 249 #[.slice (some ⟨g,0,none⟩) n cap] w fun e w'=>∃ k,e=.returned (.slice (some ⟨g,0,none⟩) k cap)∧k=(compP d).length∧w'.ownsRow N 122 2 (.slice (some ⟨g,0,none⟩) k cap) k (vrow (compP d))∧w.grownBy w' (some g):=by
 have hcap:n≤cap∧cap≤maxLen:=by
  rcases h.2 with ⟨e,_⟩ | ⟨g',cap',cur,e,_,_,h1,h2,_⟩
  ·cases e
  ·cases e;exact⟨h1,h2⟩
 have hgl:g<w.heap.size:=(h.lt g rfl).2
 have HH:=hid h
 have HD:=hid hdn
 have hge:¬ (n:Int)<2:=by omega
 clear h hdn
 go_enter Tryz.func249,Tryz.ntmps249
 go_wp2
 go_loopw [3] (fun kv wr=>∃ i:Nat,kv=.int .i64 ((i:Int)+1)∧i+1≤n∧compP (d.take (i+1))=d.take (i+1)∧∃ q,wr=w.drewN q) (fun kv _=>n+1-(intOf kv).toNat)
 case atStart=>exact⟨0,rfl,by omega,comp_one,0,rfl⟩
 case round =>
  obtain⟨i,rfl,hi,hcp,q,rfl⟩:=hrel
  have hr:(w.drewN q).ownsRow N 122 2 (.slice (some ⟨g,0,none⟩) n cap) n (vrow d):=owns_same HH.out (fun _ _=>by simp)
  by_cases hlt:i+1<n
  ·obtain⟨⟨a1,a2⟩,ha⟩:∃ a,d[i]?=some a:=⟨d[i]'(by have:=HD.out;omega),List.getElem?_eq_getElem _⟩
   obtain⟨⟨b1,b2⟩,hb⟩:∃ b,d[i+1]?=some b:=⟨d[i+1]'(by have:=HD.out;omega),List.getElem?_eq_getElem _⟩
   obtain⟨ca1,ca2⟩:=two_cells HH.out ha
   obtain⟨cb1,cb2⟩:=two_cells HH.out hb
   have hst:=compTo_step ha hb
   have hi0:(0:Int)≤(i:Int):=by omega
   have hi1:(i:Int)+1<(n:Int):=by omega
   have hi2:(i:Int)<(n:Int):=by omega
   have hi3:(0:Int)≤(i:Int)+1:=by omega
   have hi4:((i:Int)+1).toNat=i+1:=by omega
   have hi5:IntKind.i64.wrap (i:Int)=(i:Int):=IntWalk.i64_in _ (by omega)
   have hi6:(i:Int)+1-1=(i:Int):=by omega
   have heq:=eqW b1 b2 a1 a2
   by_cases hab:(b1==a1&&b2==a2)=true
   ·rw [hab] at heq
    have heab:(a1,a2)=(b1,b2):=by simp at hab;simp [hab.1,hab.2]
    rw [if_pos heab] at hst
    have HC:=hid (hst.trans hcp)
    clear hst hcp hr ha hb hab heab
    go_wp2
    go_quiet (fail)
    go_wp2
    go_loopw [3,5] (fun kv k2v wr=>∃ (k j:Nat) (m:List (Int × Int)),kv=.int .i64 k∧k2v=.int .i64 ((j:Int)+1)∧k≤i+1+j∧i+1+j+1≤n∧m.length=n∧compP (d.take (i+1+j+1))=m.take k∧(∀ t,i+1+j≤t→m[t]?=d[t]?)∧wr.ownsRow N 122 2 (.slice (some ⟨g,0,none⟩) n cap) n (vrow m)∧w.grownBy wr (some g)) (fun _ k2v _=>n+1-(intOf k2v).toNat)
    case atStart =>
     refine⟨i+1,0,d,by go_num,rfl,by omega,by omega,HD.out,HC.out,fun _ _=>rfl,owns_same HH.out (fun _ _=>by simp),grown_drewN w _ _⟩
    case round =>
     obtain⟨k,j,m,rfl,rfl,hkj,hjn,hml,hcm,hmt,hro,hgr⟩:=hrel
     have hdl:=HD.out
     by_cases hlt2:j+1<n-(i+1)
     ·obtain⟨⟨x1,x2⟩,hx⟩:∃ x,d[i+1+j]?=some x:=⟨d[i+1+j]'(by omega),List.getElem?_eq_getElem _⟩
      obtain⟨⟨y1,y2⟩,hy⟩:∃ y,d[i+1+j+1]?=some y:=⟨d[i+1+j+1]'(by omega),List.getElem?_eq_getElem _⟩
      obtain⟨⟨z1,z2⟩,hz⟩:∃ z,m[k]?=some z:=⟨m[k]'(by omega),List.getElem?_eq_getElem _⟩
      obtain⟨cx1,cx2⟩:=two_cells hro ((hmt (i+1+j) (Nat.le_refl _)).trans hx)
      obtain⟨cy1,cy2⟩:=two_cells hro ((hmt (i+1+j+1) (by omega)).trans hy)
      obtain⟨cz1,cz2⟩:=two_cells hro hz
      rw [show (i+1+j)*2=(i+1)*2+j*2 by omega] at cx1 cx2
      rw [show (i+1+j+1)*2=(i+1)*2+(j+1)*2 by omega] at cy1 cy2
      have f1:=two_free hro (k*2)
      have f2:=two_free hro (k*2+1)
      have hst:=compTo_step hx hy
      have hj0:(0:Int)≤(j:Int):=by omega
      have hj1:(j:Int)+1<((n-(i+1):Nat):Int):=by omega
      have hj2:(j:Int)<((n-(i+1):Nat):Int):=by omega
      have hj3:(0:Int)≤(j:Int)+1:=by omega
      have hj4:((j:Int)+1).toNat=j+1:=by omega
      have hj5:IntKind.i64.wrap (j:Int)=(j:Int):=IntWalk.i64_in _ (by omega)
      have hj6:(j:Int)+1-1=(j:Int):=by omega
      have hk0:(0:Int)≤(k:Int):=by omega
      have hk1:(k:Int)<(n:Int):=by omega
      have hne:=neW y1 y2 x1 x2
      have HRO:=hid hro
      have HGR:=hid hgr
      have HMT:=hid hmt
      by_cases hxy:(y1==x1&&y2==x2)=true
      ·rw [hxy] at hne
       have hexy:(x1,x2)=(y1,y2):=by simp at hxy;simp [hxy.1,hxy.2]
       rw [if_pos hexy,hcm] at hst
       have HST:=hid hst
       clear hst hcm hx hy hz hxy hexy hro hgr hmt hdl
       go_wp2
       go_quiet (fail)
       go_wp2
       go_roundw
       case rel=>exact⟨k,j+1,m,rfl,by go_num,by omega,by omega,hml,HST.out,fun t ht=>HMT.out t (by omega),owns_same HRO.out (fun _ _=>by simp),grown_trans HGR.out (grown_drewN _ _ _)⟩
       case measure=>simp [intOf];omega
      ·have hxy2:(y1==x1&&y2==x2)=false:=by simpa using hxy
       rw [hxy2] at hne
       have hexy:(x1,x2)≠(y1,y2):=fun e=>hxy (by cases e;simp)
       rw [if_neg hexy,hcm] at hst
       have hnx:m.take k++[(y1,y2)]=(m.set k (y1,y2)).take (k+1):=by
        rw [List.take_add_one (i:=k),List.getElem?_set_self (by omega),List.take_set_of_le (Nat.le_refl _)];rfl
       rw [hnx] at hst
       have HST:=hid hst
       clear hst hcm hx hy hz hxy hexy hro hgr hmt hdl hnx hxy2
       go_wp2
       go_quiet (fail)
       go_wp2
       go_roundw
       case rel =>
        refine⟨k+1,j+1,m.set k (y1,y2),by go_num,by go_num,by omega,by omega,by rw [List.length_set];exact hml,HST.out,fun t ht=>?_,?_,?_⟩
        ·rw [List.getElem?_set_ne (by omega)];exact HMT.out t (by omega)
        ·exact owns_setTwo (owns_same HRO.out (fun _ _=>by simp)) k y1 y2 hml (by omega)
        ·exact grown_trans (grown_trans HGR.out (grown_drewN _ _ _)) (grown_setTwo _ g _ _ _ _)
       case measure=>simp [intOf];omega
     ·have hfin:d.take (i+1+j+1)=d:=List.take_of_length_le (by omega)
      rw [hfin] at hcm
      have hkn:k≤n:=by omega
      obtain⟨w9,h9,ho9,hg9⟩:=clear_keeps2 hro hkn 0 (cap-k)
      have HO9:=hid (And.intro ho9 hg9)
      have HCM:=hid hcm
      have HGR:=hid hgr
      have hk0:(0:Int)≤(k:Int):=by omega
      have hk1:(k:Int)≤(n:Int):=by omega
      have hkl:(m.take k).length=k:=by rw [List.length_take];omega
      have hj1:¬ (j:Int)+1<((n-(i+1):Nat):Int):=by omega
      clear hcm hro hgr hmt hfin hdl ho9 hg9
      go_wp2
      go_ret
      exact⟨k,rfl,by rw [HCM.out,hkl],by rw [HCM.out];exact HO9.out.1,grown_trans HGR.out HO9.out.2⟩
   ·have hab2:(b1==a1&&b2==a2)=false:=by simpa using hab
    rw [hab2] at heq
    have heab:(a1,a2)≠(b1,b2):=fun e=>hab (by cases e;simp)
    rw [if_neg heab,hcp] at hst
    have hnx:d.take (i+1)++[(b1,b2)]=d.take (i+1+1):=by rw [List.take_add_one (i:=i+1),hb];rfl
    rw [hnx] at hst
    have HC:=hid hst
    clear hst hcp hr ha hb hab heab hnx hab2
    go_wp2
    go_quiet (fail)
    go_wp2
    go_roundw
    case rel=>exact⟨i+1,by go_num,by omega,HC.out,_,rfl⟩
    case measure=>simp [intOf];omega
  ·have hfin:d.take (i+1)=d:=List.take_of_length_le (by have:=HD.out;omega)
   rw [hfin] at hcp
   have HC:=hid hcp
   have HR:=hid hr
   clear hcp hfin hr
   go_wp2
   go_ret
   refine⟨n,rfl,by rw [HC.out,HD.out],by rw [HC.out];exact HR.out,grown_drewN w _ _⟩
theorem compact_any (N:Nat) (v:Value) (d:List (Int × Int)) (w:World) (hn:d.length≤100000000) (h:w.ownsRow N 122 2 v d.length (vrow d)) :
  Calls Tryz.prog 249 #[v] w fun e w'=>∃ v',e=.returned v'∧w'.ownsRow N 122 2 v' (compP d).length (vrow (compP d))∧w.grownBy w' v.ownBlock:=by
 by_cases h2:d.length<2
 ·obtain⟨ad,cap,rfl⟩:=row_form h
  refine (compact_short ad d.length cap w h2).mono ?_
  rintro e w' ⟨rfl,rfl⟩
  have hc:compP d=d:=by
   cases d with
   | nil=>rfl
   | cons a r=>cases r with
    | nil=>rfl
    | cons b r=>simp at h2;omega
  rw [hc]
  exact⟨_,rfl,h,⟨rfl,rfl,rfl,Nat.le_refl _,fun _ _ _=>rfl⟩⟩
 ·rcases row_slice h with ⟨_,e0⟩ | ⟨g,cap,rfl,_,_⟩
  ·omega
  ·refine (compact_long N g cap d d.length w rfl (by omega) hn h).mono ?_
   rintro e w' ⟨k,rfl,rfl,h1,h3⟩
   exact⟨_,rfl,h1,h3⟩
end Go.Proofs.YtjefgmeejhakbabGreatDoor
