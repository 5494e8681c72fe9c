/- container/heap.down and Pop over the queue; least. -/
import Derived.Test.YtjefgmeejhakbabGreatDoorMgBB
namespace Go.Proofs.YtjefgmeejhakbabGreatDoor
open Go.RowKit
open Go.Sort (swp swp_left swp_right swp_other size_swp)
theorem qLessI (g n c i j:Nat) (a b x y:Int) (w:World) (ha:a=(i:Int)) (hb:b=(j:Int)) (hi:i<n) (hj:j<n) (c1:w.cell? ⟨g,i,none⟩=some (.int .i64 x)) (c2:w.cell? ⟨g,j,none⟩=some (.int .i64 y)) (r:Bool) (hr:decide (x<y)=r) :
  Calls Tryz.prog 411 #[.slice (some ⟨g,0,none⟩) n c,.int .i64 a,.int .i64 b] w fun e w'=>e=.returned (.bool r)∧∃ q,w'=w.drewN q:=by
 subst ha;subst hb;subst hr
 exact qLess g n c i j x y w hi hj c1 c2
theorem qSwapI (g n c i j:Nat) (a b x y:Int) (w:World) (ha:a=(i:Int)) (hb:b=(j:Int)) (hi:i<n) (hj:j<n) (c1:w.cell? ⟨g,i,none⟩=some (.int .i64 x)) (c2:w.cell? ⟨g,j,none⟩=some (.int .i64 y)) (f1:w.frozen? ⟨g,i,none⟩=false) (f2:w.frozen? ⟨g,j,none⟩=false) :
  Calls Tryz.prog 412 #[.slice (some ⟨g,0,none⟩) n c,.int .i64 a,.int .i64 b] w fun e w'=>e=.returned (.tuple #[])∧∃ q,w'=((w.setCell ⟨g,i,none⟩ (.int .i64 y)).setCell ⟨g,j,none⟩ (.int .i64 x)).drewN q:=by
 subst ha;subst hb
 exact qSwap g n c i j x y w hi hj c1 c2 f1 f2
set_option maxRecDepth 100000 in
set_option maxHeartbeats 1000000 in
theorem down_any (Q:Nat) (v:Value) (d:Array Int) (n:Nat) (w:World) (h:QAt w Q v d) (hd:d.size≤100000000) (hn:d.size=n+1) (hu:DownHole d n 0) :
    Calls Tryz.prog 307 #[.iface 273 (.pointer (some ⟨Q,0,none⟩)),.int .i64 0,.int .i64 n] w fun e w'=>∃ b,e=.returned (.bool b)∧∃ d',QAt w' Q v d'∧d'.size=n+1∧HeapP d' n∧d'[n]! = d[n]!∧d'.toList.Perm d.toList∧KeptO (qOwn Q v) (qOwn Q v) w w':=by
  have H0:=hid h
  have HU:=hid hu
  have HN:=hid hn
  clear h hu hn
  go_enter Tryz.func307,Tryz.ntmps307
  go_wp2
  go_loopw [7] (fun vj wr=>∃ (i:Nat) (dk:Array Int),vj=.int .i64 i∧i≤n∧dk.size=n+1∧QAt wr Q v dk∧DownHole dk n i∧dk[n]! = d[n]!∧dk.toList.Perm d.toList∧KeptO (qOwn Q v) (qOwn Q v) w wr) (fun vj _=>n-(intOf vj).toNat)
  case atStart=>exact⟨0,d,rfl,Nat.zero_le _,HN.out,H0.out,HU.out,rfl,List.Perm.refl _,KeptO.refl _ _⟩
  case round =>
    obtain⟨i,dk,rfl,hin,hs,hQ,hu,hl,hp,hK⟩:=hrel
    have hdk:n≤100000000:=by have:=HN.out;omega
    have HR:=hid (And.intro hQ (And.intro hu (And.intro hl (And.intro hp hK))))
    have HS:=hid hs
    have c0:=hQ.cell
    obtain⟨g,cap,rfl,hg,hfz,hc⟩:=hQ.rowAt (by omega)
    rw [hs] at c0
    clear hd
    by_cases hend:n≤2*i+1
    · have HU1:=hid (down_stop hu (fun k h1 h2 h3=>by omega))
      have hb1:decide ((n:Int)≤2*(i:Int)+1)=true:=by simp;omega
      clear hQ hu hl hp hK hc hs
      go_wp2
      go_ret
      exact⟨_,rfl,dk,HR.out.1,HS.out,HU1.out,HR.out.2.2⟩
    · have hb1:decide ((n:Int)≤2*(i:Int)+1)=false:=by simp;omega
      have hb0:decide (2*(i:Int)+1<0)=false:=by simp;omega
      have hmL:∀ q,(method 570 273 (.pointer (some ⟨Q,0,none⟩)) "Less").run Tryz.prog (wr.drewN q)=.ok (411,.slice (some ⟨g,0,none⟩) (n+1) cap) (wr.drewN q):=fun q=>mLess (by simpa using c0)
      have hmL0:(method 570 273 (.pointer (some ⟨Q,0,none⟩)) "Less").run Tryz.prog wr=.ok (411,.slice (some ⟨g,0,none⟩) (n+1) cap) wr:=hmL 0
      have hmS:∀ q,(method 570 273 (.pointer (some ⟨Q,0,none⟩)) "Swap").run Tryz.prog (wr.drewN q)=.ok (412,.slice (some ⟨g,0,none⟩) (n+1) cap) (wr.drewN q):=fun q=>mSwap (by simpa using c0)
      have ci:=hc i (by omega)
      have fi:=hfz i
      obtain⟨x,hx⟩:∃ x,dk[i]! = x:=⟨_,rfl⟩
      rw [hx] at ci
      have step:∀ c,0<c→c<n→(c-1) / 2=i→dk[c]!<x→(∀ k,0<k→k<n→(k-1) / 2=i→dk[c]!≤dk[k]!)→∀ q,DownHole (swp dk i c) n c∧(swp dk i c)[n]! = d[n]!∧(swp dk i c).toList.Perm d.toList∧∀ q2,
          QAt ((((wr.drewN q).setCell ⟨g,i,none⟩ (.int .i64 dk[c]!)).setCell ⟨g,c,none⟩ (.int .i64 x)).drewN q2) Q (.slice (some ⟨g,0,none⟩) dk.size cap) (swp dk i c)∧KeptO (qOwn Q (.slice (some ⟨g,0,none⟩) dk.size cap)) (qOwn Q (.slice (some ⟨g,0,none⟩) dk.size cap)) w ((((wr.drewN q).setCell ⟨g,i,none⟩ (.int .i64 dk[c]!)).setCell ⟨g,c,none⟩ (.int .i64 x)).drewN q2):=by
        intro c h1 h2 h3 h4 h5 q
        refine⟨down_step hu h1 h2 h3 (by omega) (by rw [hx];exact h4) h5,?_,(swp_perm dk i c (by omega) (by omega)).trans hp,fun q2=>?_⟩
        · rw [swp_other dk i c n (by omega) (by omega)];exact hl
        · have hsw:=(hQ.below (below_drewN (Below.refl _ _) q)).swapped (g:=g) (i:=i) (j:=c) rfl q2
          rw [hx] at hsw
          exact⟨hsw.1,(hK.drewN q).trans hsw.2⟩
      have STEP:=hid step
      have stop:(∀ k,0<k→k<n→(k-1) / 2=i→x≤dk[k]!)→HeapP dk n:=fun hk=>down_stop hu (by rw [hx];exact hk)
      have STOP:=hid stop
      have cl:=hc (2*i+1) (by omega)
      have fl:=hfz (2*i+1)
      obtain⟨l,hl'⟩:∃ l,dk[2*i+1]! = l:=⟨_,rfl⟩
      rw [hl'] at cl
      by_cases hr:2*i+2<n
      · have hb2:decide (2*(i:Int)+1+1<(n:Int))=true:=by simp;omega
        have cr:=hc (2*i+2) (by omega)
        have fr:=hfz (2*i+2)
        obtain⟨r,hr'⟩:∃ r,dk[2*i+2]! = r:=⟨_,rfl⟩
        rw [hr'] at cr
        have kids:∀ k,0<k→k<n→(k-1) / 2=i→k=2*i+1∨k=2*i+2:=fun k h1 h2 h3=>by omega
        have KIDS:=hid kids
        clear step stop hQ hu hl hp hK hc hs hfz kids
        by_cases hrl:r<l
        · have hbr:decide (r<l)=true:=by simpa using hrl
          by_cases hrx:r<x
          · have hbx:decide (r<x)=true:=by simpa using hrx
            go_wp2_with (first
              | (go_at_call 411;first
                | (refine (qLessI g (n+1) cap (2*i+2) (2*i+1) _ _ r l _ (by omega) (by omega) (by omega) (by omega) (by simpa using cr) (by simpa using cl) true hbr).mono ?_;rintro e w' ⟨rfl,q,rfl⟩)
                | (refine (qLessI g (n+1) cap (2*i+2) i _ _ r x _ (by omega) (by omega) (by omega) (by omega) (by simpa using cr) (by simpa using ci) true hbx).mono ?_;rintro e w' ⟨rfl,q',rfl⟩))
              | (go_at_call 412;refine (qSwapI g (n+1) cap i (2*i+2) _ _ x r _ (by omega) (by omega) (by omega) (by omega) (by simpa using ci) (by simpa using cr) (by simpa using fi) (by simpa using fr)).mono ?_;rintro e w' ⟨rfl,q2,rfl⟩))
            go_roundw
            case rel =>
              have hst:=STEP.out (2*i+2) (by omega) (by omega) (by omega) (by rw [hr'];omega) (fun k h1 h2 h3=>by
                rcases KIDS.out k h1 h2 h3 with rfl | rfl<;>omega) (q+q')
              rw [hr'] at hst
              exact⟨2*i+2,swp dk i (2*i+2),by go_num,by omega,by rw [size_swp];exact HS.out,(hst.2.2.2 q2).1,hst.1,hst.2.1,hst.2.2.1,(hst.2.2.2 q2).2⟩
            case measure=>simp [intOf];omega
          · have hbx:decide (r<x)=false:=by simpa using hrx
            go_wp2_with (go_at_call 411;first
              | (refine (qLessI g (n+1) cap (2*i+2) (2*i+1) _ _ r l _ (by omega) (by omega) (by omega) (by omega) (by simpa using cr) (by simpa using cl) true hbr).mono ?_;rintro e w' ⟨rfl,q,rfl⟩)
              | (refine (qLessI g (n+1) cap (2*i+2) i _ _ r x _ (by omega) (by omega) (by omega) (by omega) (by simpa using cr) (by simpa using ci) false hbx).mono ?_;rintro e w' ⟨rfl,q',rfl⟩))
            go_ret
            exact⟨_,rfl,dk,HR.out.1.below (below_drewN (Below.refl _ _) (q+q')),HS.out,STOP.out (fun k h1 h2 h3=>by
              rcases KIDS.out k h1 h2 h3 with rfl | rfl<;>omega),HR.out.2.2.1,HR.out.2.2.2.1,HR.out.2.2.2.2.drewN (q+q')⟩
        · have hbr:decide (r<l)=false:=by simpa using hrl
          by_cases hrx:l<x
          · have hbx:decide (l<x)=true:=by simpa using hrx
            go_wp2_with (first
              | (go_at_call 411;first
                | (refine (qLessI g (n+1) cap (2*i+2) (2*i+1) _ _ r l _ (by omega) (by omega) (by omega) (by omega) (by simpa using cr) (by simpa using cl) false hbr).mono ?_;rintro e w' ⟨rfl,q,rfl⟩)
                | (refine (qLessI g (n+1) cap (2*i+1) i _ _ l x _ (by omega) (by omega) (by omega) (by omega) (by simpa using cl) (by simpa using ci) true hbx).mono ?_;rintro e w' ⟨rfl,q',rfl⟩))
              | (go_at_call 412;refine (qSwapI g (n+1) cap i (2*i+1) _ _ x l _ (by omega) (by omega) (by omega) (by omega) (by simpa using ci) (by simpa using cl) (by simpa using fi) (by simpa using fl)).mono ?_;rintro e w' ⟨rfl,q2,rfl⟩))
            go_roundw
            case rel =>
              have hst:=STEP.out (2*i+1) (by omega) (by omega) (by omega) (by rw [hl'];omega) (fun k h1 h2 h3=>by
                rcases KIDS.out k h1 h2 h3 with rfl | rfl<;>omega) (q+q')
              rw [hl'] at hst
              exact⟨2*i+1,swp dk i (2*i+1),by go_num,by omega,by rw [size_swp];exact HS.out,(hst.2.2.2 q2).1,hst.1,hst.2.1,hst.2.2.1,(hst.2.2.2 q2).2⟩
            case measure=>simp [intOf];omega
          · have hbx:decide (l<x)=false:=by simpa using hrx
            go_wp2_with (go_at_call 411;first
              | (refine (qLessI g (n+1) cap (2*i+2) (2*i+1) _ _ r l _ (by omega) (by omega) (by omega) (by omega) (by simpa using cr) (by simpa using cl) false hbr).mono ?_;rintro e w' ⟨rfl,q,rfl⟩)
              | (refine (qLessI g (n+1) cap (2*i+1) i _ _ l x _ (by omega) (by omega) (by omega) (by omega) (by simpa using cl) (by simpa using ci) false hbx).mono ?_;rintro e w' ⟨rfl,q',rfl⟩))
            go_ret
            exact⟨_,rfl,dk,HR.out.1.below (below_drewN (Below.refl _ _) (q+q')),HS.out,STOP.out (fun k h1 h2 h3=>by
              rcases KIDS.out k h1 h2 h3 with rfl | rfl<;>omega),HR.out.2.2.1,HR.out.2.2.2.1,HR.out.2.2.2.2.drewN (q+q')⟩
      · have hb2:decide (2*(i:Int)+1+1<(n:Int))=false:=by simp;omega
        clear step stop hQ hu hl hp hK hc hs hfz
        by_cases hrx:l<x
        · have hbx:decide (l<x)=true:=by simpa using hrx
          go_wp2_with (first
            | (go_at_call 411;(refine (qLessI g (n+1) cap (2*i+1) i _ _ l x _ (by omega) (by omega) (by omega) (by omega) (by simpa using cl) (by simpa using ci) true hbx).mono ?_;rintro e w' ⟨rfl,q',rfl⟩))
            | (go_at_call 412;refine (qSwapI g (n+1) cap i (2*i+1) _ _ x l _ (by omega) (by omega) (by omega) (by omega) (by simpa using ci) (by simpa using cl) (by simpa using fi) (by simpa using fl)).mono ?_;rintro e w' ⟨rfl,q2,rfl⟩))
          go_roundw
          case rel =>
            have hst:=STEP.out (2*i+1) (by omega) (by omega) (by omega) (by rw [hl'];omega) (fun k h1 h2 h3=>by
              have e:k=2*i+1:=by omega
              subst e;omega) (q')
            rw [hl'] at hst
            exact⟨2*i+1,swp dk i (2*i+1),by go_num,by omega,by rw [size_swp];exact HS.out,(hst.2.2.2 q2).1,hst.1,hst.2.1,hst.2.2.1,(hst.2.2.2 q2).2⟩
          case measure=>simp [intOf];omega
        · have hbx:decide (l<x)=false:=by simpa using hrx
          go_wp2_with (go_at_call 411;(refine (qLessI g (n+1) cap (2*i+1) i _ _ l x _ (by omega) (by omega) (by omega) (by omega) (by simpa using cl) (by simpa using ci) false hbx).mono ?_;rintro e w' ⟨rfl,q',rfl⟩))
          go_ret
          exact⟨_,rfl,dk,HR.out.1.below (below_drewN (Below.refl _ _) (q')),HS.out,STOP.out (fun k h1 h2 h3=>by
            have e:k=2*i+1:=by omega
            subst e;omega),HR.out.2.2.1,HR.out.2.2.2.1,HR.out.2.2.2.2.drewN (q')⟩
end Go.Proofs.YtjefgmeejhakbabGreatDoor
