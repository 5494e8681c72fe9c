/- FxDuo FxDoes FxDoesC BpStop BpSav: put together for a claim. -/
import Derived.Test.YtjefgmeejhakbaaGreatDoorFeCommit
import Derived.Test.YtjefgmeejhakbaaGreatDoorFeReadS
import Derived.Test.YtjefgmeejhakbaaGreatDoorMgAP
import Derived.Test.YtjefgmeejhakbaaGreatDoorMgAB
import Derived.Deep.RegionHeld3
import Derived.Test.YtjefgmeejhakbaaGreatDoorMgBB
import Derived.Test.YtjefgmeejhakbaaGreatDoorMgAN
import Derived.Test.YtjefgmeejhakbaaGreatDoorMgBA
/- The landed engine and the document's, in one world. -/
namespace Go.Proofs.YtjefgmeejhakbaaGreatDoor
open Go.RowKit
structure Duo (w:World) (L:EnL) (M:REnL) (B:Nat) (E F:Eng):Prop where
 en:EnAt w L E
 rf:RefAt w M B F
 dis:∀ g,L.own g→¬ M.own g
def both (L:EnL) (M:REnL) (g:Nat):Prop:=L.own g∨M.own g
section
variable {w w':World} {L L':EnL} {M M':REnL} {B B':Nat} {E E' F F':Eng}
theorem RefAt.same (h:RefAt w M B F) (hs:∀ g,M.own g→w'.heap[g]?=w.heap[g]?):RefAt w' M B F:=by
 obtain⟨R,h1,h2⟩:=h
 exact⟨R,h1.same hs,h2⟩
theorem Duo.below (h:Duo w L M B E F) (hB:Below w.heap.size w w'):Duo w' L M B E F:=⟨h.en.below hB,h.rf.below hB,h.dis⟩
theorem Duo.mono (h:Duo w L M B E F) (hB:B≤B'):Duo w L M B' E F:=⟨h.en,h.rf.mono hB,h.dis⟩
theorem Duo.own_lt (h:Duo w L M B E F) {g:Nat} (hg:both L M g):g<w.heap.size:=hg.elim (fun h1=>h.en.own_lt h1) (fun h1=>h.rf.own_lt h1)
theorem Duo.ref (h:Duo w L M B E F) (hr:RefAt w' M' B' F') (hK:KeptO M.own M'.own w w'):Duo w' L M' B' E F'∧KeptO (both L M) (both L M') w w':=by
 refine⟨⟨h.en.same (fun g hg=>hK.block g (h.en.own_lt hg) (h.dis g hg)),hr,fun g hg hm=>?_⟩,hK.os,hK.tape,hK.output,hK.size,fun g hg hn=>hK.block g hg (fun e=>hn (.inr e)),fun g hg=>?_⟩
 ·rcases hK.sub g hm with h1 | h1
  ·exact h.dis g hg h1
  ·have:=h.en.own_lt hg;omega
 ·rcases hg with h1 | h1
  ·exact .inl (.inl h1)
  ·exact (hK.sub g h1).imp .inr id
theorem Duo.eng (h:Duo w L M B E F) (hr:EnAt w' L' E') (hK:KeptO L.own L'.own w w'):Duo w' L' M B E' F∧KeptO (both L M) (both L' M) w w':=by
 refine⟨⟨hr,h.rf.same (fun g hg=>hK.block g (h.rf.own_lt hg) (fun e=>h.dis g e hg)),fun g hg hm=>?_⟩,hK.os,hK.tape,hK.output,hK.size,fun g hg hn=>hK.block g hg (fun e=>hn (.inl e)),fun g hg=>?_⟩
 ·rcases hK.sub g hg with h1 | h1
  ·exact h.dis g h1 hm
  ·have:=h.rf.own_lt hm;omega
 ·rcases hg with h1 | h1
  ·exact (hK.sub g h1).imp .inl id
  ·exact .inl (.inr h1)
def DuoPost (L:EnL) (M:REnL) (B:Nat) (E:Eng) (w w':World):Prop:=∃ L' M',Duo w' L' M' B E E∧KeptO (both L M) (both L' M') w w'∧L'.s=L.s∧M'.R=M.R
theorem DuoPost.refl (h:Duo w L M B E E):DuoPost L M B E w w:=⟨L,M,h,KeptO.refl _ _,rfl,rfl⟩
theorem DuoPost.below {w1:World} (h:DuoPost L M B E w w') (hB:Below w'.heap.size w' w1):DuoPost L M B E w w1:=by
 obtain⟨L',M',a,b,c,d⟩:=h
 exact⟨L',M',a.below hB,b.trans (KeptO.of_below hB),c,d⟩
theorem DuoPost.mono (h:DuoPost L M B E w w') (hB:B≤B'):DuoPost L M B' E w w':=by
 obtain⟨L',M',a,b,c,d⟩:=h
 exact⟨L',M',a.mono hB,b,c,d⟩
theorem Duo.refEng {w1:World} (h:Duo w L M B E E) (hr:RefPost M B' E' w w1):∃ M',Duo w1 L M' B' E E'∧M'.R=M.R∧(∀ w2,EnPost L E' w1 w2→DuoPost L M B' E' w w2):=by
 obtain⟨M',a,b,c,d⟩:=hr
 obtain⟨h1,k1⟩:=h.ref a b
 refine⟨M',h1,c.1,fun w2 h2=>?_⟩
 obtain⟨L',a2,b2,c2,d2⟩:=h2
 obtain⟨h3,k3⟩:=h1.eng a2 b2
 exact⟨L',M',h3,k1.trans k3,c2,c.1⟩
theorem Duo.engRef {w1:World} (h:Duo w L M B E E) (hr:EnPost L E' w w1):∃ L',Duo w1 L' M B E' E∧L'.s=L.s∧(∀ w2,RefPost M B' E' w1 w2→DuoPost L M B' E' w w2):=by
 obtain⟨L',a,b,c,d⟩:=hr
 obtain⟨h1,k1⟩:=h.eng a b
 refine⟨L',h1,c,fun w2 h2=>?_⟩
 obtain⟨M',a2,b2,c2,d2⟩:=h2
 obtain⟨h3,k3⟩:=h1.ref a2 b2
 exact⟨L',M',h3,k1.trans k3,c,c2.1⟩
end
end Go.Proofs.YtjefgmeejhakbaaGreatDoor
/- law.does, whatever the two engines do. -/
namespace Go.Proofs.YtjefgmeejhakbaaGreatDoor
open Go.RowKit
theorem errV_at (w:World) (c:Int):ErrIs w (errV c) c (-1):=by
 unfold errV
 by_cases h:c=0
 ·rw [if_pos h];exact .inl ⟨rfl,h,rfl⟩
 ·rw [if_neg h];exact .inr (.inl ⟨rfl,rfl⟩)
def actB (wh tx key val:Int):Obj:=.cells #[.int .i64 wh,.int .i64 tx,.int .i64 key,.int .i64 val] 53
section
variable {w:World} {s R:Nat} {tx key val:Int} {P Q:World→Prop}
set_option maxRecDepth 100000 in
set_option maxHeartbeats 2000000 in
theorem does0 {v:Int} {c:Int} (hR:Calls Tryz.prog 77 #[.pointer (some ⟨R,0,none⟩),.int .i64 key] (w.alloc (actB 0 tx key val)) fun e w2=>e=.returned (.tuple #[.int .i64 v,.int .i64 c])∧P w2) (hbox:∀ w2,P w2→w2.heap[w.heap.size]?=some (actB 0 tx key val))
  (hE:∀ w2,P w2→Calls Tryz.prog 51 #[.pointer (some ⟨s,0,none⟩),.int .i64 key] w2 fun e w3=>e=.returned (.tuple #[.int .i64 v,errV c])∧Q w3) (hH:∀ w3,Q w3→Handle w3) :
  Calls Tryz.prog 20 #[.pointer (some ⟨s,0,none⟩),.pointer (some ⟨R,0,none⟩),.agg #[.int .i64 0,.int .i64 tx,.int .i64 key,.int .i64 val]] w fun e w'=>e=.returned (.bool true)∧∃ w3,Q w3∧Below w3.heap.size w3 w':=by
 have HR:=hid hR
 have HBX:=hid hbox
 have HE:=hid hE
 have HH:=hid hH
 clear hR hbox hE hH
 unfold actB at HR HBX
 go_enter Tryz.func20,Tryz.ntmps20
 go_wp2_with fail
 refine HR.out.mono ?_
 rintro e w2 ⟨rfl,hP⟩
 have bx:=HBX.out w2 hP
 have k1:w2.cell? ⟨w.heap.size,1,none⟩=some (.int .i64 tx):=(cell_of_row _ w.heap.size 1 _ _ (0,0) bx).trans rfl
 have k2:w2.cell? ⟨w.heap.size,2,none⟩=some (.int .i64 key):=(cell_of_row _ w.heap.size 2 _ _ (0,0) bx).trans rfl
 have k3:w2.cell? ⟨w.heap.size,3,none⟩=some (.int .i64 val):=(cell_of_row _ w.heap.size 3 _ _ (0,0) bx).trans rfl
 have HE2:=hid (HE.out w2 hP)
 clear bx HR HE HBX hP
 go_wp2_with fail
 refine HE2.out.mono ?_
 rintro e w3 ⟨rfl,hQ⟩
 have HB:=hid (bare_true c (errV c) w3 (errV_at w3 c) (HH.out w3 hQ))
 have HQ:=hid hQ
 clear hQ HE2 HH
 go_wp2_with fail
 refine HB.out.mono ?_
 rintro e w4 ⟨rfl,hB4⟩
 have HB4:=hid hB4
 clear hB4 HB
 go_wp2
 go_ret
 exact⟨rfl,w3,HQ.out,HB4.out⟩
set_option maxRecDepth 100000 in
set_option maxHeartbeats 2000000 in
theorem does1 {v:Int} {c:Int} (hR:Calls Tryz.prog 78 #[.pointer (some ⟨R,0,none⟩),.int .i64 tx,.int .i64 key] (w.alloc (actB 1 tx key val)) fun e w2=>e=.returned (.tuple #[.int .i64 v,.int .i64 c])∧P w2) (hbox:∀ w2,P w2→w2.heap[w.heap.size]?=some (actB 1 tx key val))
  (hE:∀ w2,P w2→Calls Tryz.prog 52 #[.pointer (some ⟨s,0,none⟩),.int .i64 tx,.int .i64 key] w2 fun e w3=>e=.returned (.tuple #[.int .i64 v,errV c])∧Q w3) (hH:∀ w3,Q w3→Handle w3) :
  Calls Tryz.prog 20 #[.pointer (some ⟨s,0,none⟩),.pointer (some ⟨R,0,none⟩),.agg #[.int .i64 1,.int .i64 tx,.int .i64 key,.int .i64 val]] w fun e w'=>e=.returned (.bool true)∧∃ w3,Q w3∧Below w3.heap.size w3 w':=by
 have HR:=hid hR
 have HBX:=hid hbox
 have HE:=hid hE
 have HH:=hid hH
 clear hR hbox hE hH
 unfold actB at HR HBX
 go_enter Tryz.func20,Tryz.ntmps20
 go_wp2_with fail
 refine HR.out.mono ?_
 rintro e w2 ⟨rfl,hP⟩
 have bx:=HBX.out w2 hP
 have k1:w2.cell? ⟨w.heap.size,1,none⟩=some (.int .i64 tx):=(cell_of_row _ w.heap.size 1 _ _ (0,0) bx).trans rfl
 have k2:w2.cell? ⟨w.heap.size,2,none⟩=some (.int .i64 key):=(cell_of_row _ w.heap.size 2 _ _ (0,0) bx).trans rfl
 have k3:w2.cell? ⟨w.heap.size,3,none⟩=some (.int .i64 val):=(cell_of_row _ w.heap.size 3 _ _ (0,0) bx).trans rfl
 have HE2:=hid (HE.out w2 hP)
 clear bx HR HE HBX hP
 go_wp2_with fail
 refine HE2.out.mono ?_
 rintro e w3 ⟨rfl,hQ⟩
 have HB:=hid (bare_true c (errV c) w3 (errV_at w3 c) (HH.out w3 hQ))
 have HQ:=hid hQ
 clear hQ HE2 HH
 go_wp2_with fail
 refine HB.out.mono ?_
 rintro e w4 ⟨rfl,hB4⟩
 have HB4:=hid hB4
 clear hB4 HB
 go_wp2
 go_ret
 exact⟨rfl,w3,HQ.out,HB4.out⟩
set_option maxRecDepth 100000 in
set_option maxHeartbeats 2000000 in
theorem does2 {v:Bool} {c:Int} (hR:Calls Tryz.prog 79 #[.pointer (some ⟨R,0,none⟩),.int .i64 tx,.int .i64 key,.int .i64 val] (w.alloc (actB 2 tx key val)) fun e w2=>e=.returned (.tuple #[.bool v,.int .i64 c])∧P w2) (hbox:∀ w2,P w2→w2.heap[w.heap.size]?=some (actB 2 tx key val))
  (hE:∀ w2,P w2→Calls Tryz.prog 53 #[.pointer (some ⟨s,0,none⟩),.int .i64 tx,.int .i64 key,.int .i64 val] w2 fun e w3=>e=.returned (.tuple #[.bool v,errV c])∧Q w3) (hH:∀ w3,Q w3→Handle w3) :
  Calls Tryz.prog 20 #[.pointer (some ⟨s,0,none⟩),.pointer (some ⟨R,0,none⟩),.agg #[.int .i64 2,.int .i64 tx,.int .i64 key,.int .i64 val]] w fun e w'=>e=.returned (.bool true)∧∃ w3,Q w3∧Below w3.heap.size w3 w':=by
 have HR:=hid hR
 have HBX:=hid hbox
 have HE:=hid hE
 have HH:=hid hH
 clear hR hbox hE hH
 unfold actB at HR HBX
 go_enter Tryz.func20,Tryz.ntmps20
 go_wp2_with fail
 refine HR.out.mono ?_
 rintro e w2 ⟨rfl,hP⟩
 have bx:=HBX.out w2 hP
 have k1:w2.cell? ⟨w.heap.size,1,none⟩=some (.int .i64 tx):=(cell_of_row _ w.heap.size 1 _ _ (0,0) bx).trans rfl
 have k2:w2.cell? ⟨w.heap.size,2,none⟩=some (.int .i64 key):=(cell_of_row _ w.heap.size 2 _ _ (0,0) bx).trans rfl
 have k3:w2.cell? ⟨w.heap.size,3,none⟩=some (.int .i64 val):=(cell_of_row _ w.heap.size 3 _ _ (0,0) bx).trans rfl
 have HE2:=hid (HE.out w2 hP)
 clear bx HR HE HBX hP
 go_wp2_with fail
 refine HE2.out.mono ?_
 rintro e w3 ⟨rfl,hQ⟩
 have HB:=hid (bare_true c (errV c) w3 (errV_at w3 c) (HH.out w3 hQ))
 have HQ:=hid hQ
 clear hQ HE2 HH
 go_wp2_with fail
 refine HB.out.mono ?_
 rintro e w4 ⟨rfl,hB4⟩
 have HB4:=hid hB4
 clear hB4 HB
 go_wp2
 go_ret
 exact⟨rfl,w3,HQ.out,HB4.out⟩
end
end Go.Proofs.YtjefgmeejhakbaaGreatDoor
/- law.does, whatever the two engines do: where both calls stand in one line. -/
namespace Go.Proofs.YtjefgmeejhakbaaGreatDoor
open Go.RowKit
section
variable {w:World} {s R:Nat} {tx key val:Int} {P Q:World→Prop}
set_option maxRecDepth 100000 in
set_option maxHeartbeats 4000000 in
theorem does3 {c:Int} (hE:∀ q,Calls Tryz.prog 37 #[.pointer (some ⟨s,0,none⟩),.int .i64 tx] ((w.alloc (actB 3 tx key val)).drewN q) fun e w2=>e=.returned (errV c)∧P w2)
    (hR:∀ w2,P w2→Calls Tryz.prog 80 #[.pointer (some ⟨R,0,none⟩),.int .i64 tx] w2 fun e w3=>e=.returned (.int .i64 c)∧Q w3)
    (hbP:∀ w2,P w2→w2.heap[w.heap.size]?=some (actB 3 tx key val)) (hbQ:∀ w2,Q w2→w2.heap[w.heap.size]?=some (actB 3 tx key val)) (hH:∀ w3,Q w3→Handle w3) :
    Calls Tryz.prog 20 #[.pointer (some ⟨s,0,none⟩),.pointer (some ⟨R,0,none⟩),.agg #[.int .i64 3,.int .i64 tx,.int .i64 key,.int .i64 val]] w fun e w'=>e=.returned (.bool true)∧∃ w3,Q w3∧Below w3.heap.size w3 w':=by
  have HE:=hid (hE 1)
  have HBP:=hid hbP
  have HBQ:=hid hbQ
  have HR:=hid hR
  have HH:=hid hH
  clear hR hbP hbQ hE hH
  have bx0:=heap_alloc_new w (actB 3 tx key val)
  unfold actB at HE HBP HBQ bx0
  have k0:(w.alloc (.cells #[.int .i64 3,.int .i64 tx,.int .i64 key,.int .i64 val] 53)).cell? ⟨w.heap.size,1,none⟩=some (.int .i64 tx):=(cell_of_row _ w.heap.size 1 _ _ (0,0) bx0).trans rfl
  clear bx0
  go_enter Tryz.func20,Tryz.ntmps20
  go_wp2
  go_region_held3 (fun W=>W.cell? ⟨w.heap.size,1,none⟩=some (.int .i64 tx))
    (first | go_keep | exact y1 | exact y2 | exact y3)
    (first | (go_at_call 37
              refine HE.out.mono ?_
              rintro e w2 ⟨rfl,hP⟩
              have y1:w2.cell? ⟨w.heap.size,1,none⟩=some (.int .i64 tx):=(cell_of_row _ w.heap.size 1 _ _ (0,0) (HBP.out w2 hP)).trans rfl
              have HR2:=hid (HR.out w2 hP)
              clear hP)
           | (go_at_call 80
              refine HR2.out.mono ?_
              rintro e w3 ⟨rfl,hQ⟩
              have y2:w3.cell? ⟨w.heap.size,1,none⟩=some (.int .i64 tx):=(cell_of_row _ w.heap.size 1 _ _ (0,0) (HBQ.out w3 hQ)).trans rfl
              have HB:=hid (bare_true c (errV c) w3 (errV_at w3 c) (HH.out w3 hQ))
              have HQ:=hid hQ
              clear hQ)
           | (go_at_call 40
              refine HB.out.mono ?_
              rintro e w4 ⟨rfl,hB4⟩
              have y3:w4.cell? ⟨w.heap.size,1,none⟩=some (.int .i64 tx):=(hB4.cell (p:=⟨w.heap.size,1,none⟩) (World.block_lt_of_cell? w3 _ y2)).trans y2
              have HB4:=hid hB4
              clear hB4))
  go_wp2
  go_ret
  exact⟨rfl,w3,HQ.out,HB4.out⟩
set_option maxRecDepth 100000 in
set_option maxHeartbeats 4000000 in
theorem does4 {c:Int} (hE:∀ q,Calls Tryz.prog 36 #[.pointer (some ⟨s,0,none⟩),.int .i64 tx] ((w.alloc (actB 4 tx key val)).drewN q) fun e w2=>e=.returned (errV c)∧P w2)
    (hR:∀ w2,P w2→Calls Tryz.prog 81 #[.pointer (some ⟨R,0,none⟩),.int .i64 tx] w2 fun e w3=>e=.returned (.int .i64 c)∧Q w3)
    (hbP:∀ w2,P w2→w2.heap[w.heap.size]?=some (actB 4 tx key val)) (hbQ:∀ w2,Q w2→w2.heap[w.heap.size]?=some (actB 4 tx key val)) (hH:∀ w3,Q w3→Handle w3) :
    Calls Tryz.prog 20 #[.pointer (some ⟨s,0,none⟩),.pointer (some ⟨R,0,none⟩),.agg #[.int .i64 4,.int .i64 tx,.int .i64 key,.int .i64 val]] w fun e w'=>e=.returned (.bool true)∧∃ w3,Q w3∧Below w3.heap.size w3 w':=by
  have HE:=hid (hE 1)
  have HBP:=hid hbP
  have HBQ:=hid hbQ
  have HR:=hid hR
  have HH:=hid hH
  clear hR hbP hbQ hE hH
  have bx0:=heap_alloc_new w (actB 4 tx key val)
  unfold actB at HE HBP HBQ bx0
  have k0:(w.alloc (.cells #[.int .i64 4,.int .i64 tx,.int .i64 key,.int .i64 val] 53)).cell? ⟨w.heap.size,1,none⟩=some (.int .i64 tx):=(cell_of_row _ w.heap.size 1 _ _ (0,0) bx0).trans rfl
  clear bx0
  go_enter Tryz.func20,Tryz.ntmps20
  go_wp2
  go_region_held3 (fun W=>W.cell? ⟨w.heap.size,1,none⟩=some (.int .i64 tx))
    (first | go_keep | exact y1 | exact y2 | exact y3)
    (first | (go_at_call 36
              refine HE.out.mono ?_
              rintro e w2 ⟨rfl,hP⟩
              have y1:w2.cell? ⟨w.heap.size,1,none⟩=some (.int .i64 tx):=(cell_of_row _ w.heap.size 1 _ _ (0,0) (HBP.out w2 hP)).trans rfl
              have HR2:=hid (HR.out w2 hP)
              clear hP)
           | (go_at_call 81
              refine HR2.out.mono ?_
              rintro e w3 ⟨rfl,hQ⟩
              have y2:w3.cell? ⟨w.heap.size,1,none⟩=some (.int .i64 tx):=(cell_of_row _ w.heap.size 1 _ _ (0,0) (HBQ.out w3 hQ)).trans rfl
              have HB:=hid (bare_true c (errV c) w3 (errV_at w3 c) (HH.out w3 hQ))
              have HQ:=hid hQ
              clear hQ)
           | (go_at_call 40
              refine HB.out.mono ?_
              rintro e w4 ⟨rfl,hB4⟩
              have y3:w4.cell? ⟨w.heap.size,1,none⟩=some (.int .i64 tx):=(hB4.cell (p:=⟨w.heap.size,1,none⟩) (World.block_lt_of_cell? w3 _ y2)).trans y2
              have HB4:=hid hB4
              clear hB4))
  go_wp2
  go_ret
  exact⟨rfl,w3,HQ.out,HB4.out⟩
set_option maxRecDepth 100000 in
set_option maxHeartbeats 4000000 in
theorem does6 {c:Int} (hE:∀ q,Calls Tryz.prog 84 #[.pointer (some ⟨s,0,none⟩),.int .i64 tx] ((w.alloc (actB 6 tx key val)).drewN q) fun e w2=>e=.returned (errV c)∧P w2)
    (hR:∀ w2,P w2→Calls Tryz.prog 85 #[.pointer (some ⟨R,0,none⟩),.int .i64 tx] w2 fun e w3=>e=.returned (.int .i64 c)∧Q w3)
    (hbP:∀ w2,P w2→w2.heap[w.heap.size]?=some (actB 6 tx key val)) (hbQ:∀ w2,Q w2→w2.heap[w.heap.size]?=some (actB 6 tx key val)) (hH:∀ w3,Q w3→Handle w3) :
    Calls Tryz.prog 20 #[.pointer (some ⟨s,0,none⟩),.pointer (some ⟨R,0,none⟩),.agg #[.int .i64 6,.int .i64 tx,.int .i64 key,.int .i64 val]] w fun e w'=>e=.returned (.bool true)∧∃ w3,Q w3∧Below w3.heap.size w3 w':=by
  have HE:=hid (hE 1)
  have HBP:=hid hbP
  have HBQ:=hid hbQ
  have HR:=hid hR
  have HH:=hid hH
  clear hR hbP hbQ hE hH
  have bx0:=heap_alloc_new w (actB 6 tx key val)
  unfold actB at HE HBP HBQ bx0
  have k0:(w.alloc (.cells #[.int .i64 6,.int .i64 tx,.int .i64 key,.int .i64 val] 53)).cell? ⟨w.heap.size,1,none⟩=some (.int .i64 tx):=(cell_of_row _ w.heap.size 1 _ _ (0,0) bx0).trans rfl
  clear bx0
  go_enter Tryz.func20,Tryz.ntmps20
  go_wp2
  go_region_held3 (fun W=>W.cell? ⟨w.heap.size,1,none⟩=some (.int .i64 tx))
    (first | go_keep | exact y1 | exact y2 | exact y3)
    (first | (go_at_call 84
              refine HE.out.mono ?_
              rintro e w2 ⟨rfl,hP⟩
              have y1:w2.cell? ⟨w.heap.size,1,none⟩=some (.int .i64 tx):=(cell_of_row _ w.heap.size 1 _ _ (0,0) (HBP.out w2 hP)).trans rfl
              have HR2:=hid (HR.out w2 hP)
              clear hP)
           | (go_at_call 85
              refine HR2.out.mono ?_
              rintro e w3 ⟨rfl,hQ⟩
              have y2:w3.cell? ⟨w.heap.size,1,none⟩=some (.int .i64 tx):=(cell_of_row _ w.heap.size 1 _ _ (0,0) (HBQ.out w3 hQ)).trans rfl
              have HB:=hid (bare_true c (errV c) w3 (errV_at w3 c) (HH.out w3 hQ))
              have HQ:=hid hQ
              clear hQ)
           | (go_at_call 40
              refine HB.out.mono ?_
              rintro e w4 ⟨rfl,hB4⟩
              have y3:w4.cell? ⟨w.heap.size,1,none⟩=some (.int .i64 tx):=(hB4.cell (p:=⟨w.heap.size,1,none⟩) (World.block_lt_of_cell? w3 _ y2)).trans y2
              have HB4:=hid hB4
              clear hB4))
  go_wp2
  go_ret
  exact⟨rfl,w3,HQ.out,HB4.out⟩
set_option maxRecDepth 100000 in
set_option maxHeartbeats 2000000 in
theorem does5 {v:Int} (hE:Calls Tryz.prog 82 #[.pointer (some ⟨s,0,none⟩)] (w.alloc (actB 5 tx key val)) fun e w2=>e=.returned (.int .i64 v)∧P w2)
  (hR:∀ w2,P w2→Calls Tryz.prog 83 #[.pointer (some ⟨R,0,none⟩)] w2 fun e w3=>e=.returned (.int .i64 v)∧Q w3) :
  Calls Tryz.prog 20 #[.pointer (some ⟨s,0,none⟩),.pointer (some ⟨R,0,none⟩),.agg #[.int .i64 5,.int .i64 tx,.int .i64 key,.int .i64 val]] w fun e w'=>e=.returned (.bool true)∧Q w':=by
 have HE:=hid hE
 have HR:=hid hR
 clear hR hE
 unfold actB at HE
 go_enter Tryz.func20,Tryz.ntmps20
 go_wp2_with fail
 refine HE.out.mono ?_
 rintro e w2 ⟨rfl,hP⟩
 have HR2:=hid (HR.out w2 hP)
 clear hP HE HR
 go_wp2_with fail
 refine HR2.out.mono ?_
 rintro e w3 ⟨rfl,hQ⟩
 have HQ:=hid hQ
 clear hQ HR2
 go_wp2
 go_ret
 exact⟨rfl,HQ.out⟩
set_option maxRecDepth 100000 in
set_option maxHeartbeats 2000000 in
theorem does_none {wh:Int} (hw:wh<0∨6<wh) :
  Calls Tryz.prog 20 #[.pointer (some ⟨s,0,none⟩),.pointer (some ⟨R,0,none⟩),.agg #[.int .i64 wh,.int .i64 tx,.int .i64 key,.int .i64 val]] w fun e w'=>e=.returned (.bool true)∧Below w.heap.size w w':=by
 have e0:(wh==0)=false:=by simp;omega
 have e1:(wh==1)=false:=by simp;omega
 have e2:(wh==2)=false:=by simp;omega
 have e3:(wh==3)=false:=by simp;omega
 have e4:(wh==4)=false:=by simp;omega
 have e5:(wh==5)=false:=by simp;omega
 have e6:(wh==6)=false:=by simp;omega
 clear hw
 go_enter Tryz.func20,Tryz.ntmps20
 go_wp2
 go_ret
 exact⟨rfl,(Below.refl _ w).alloc (Nat.le_refl _) _⟩
end
end Go.Proofs.YtjefgmeejhakbaaGreatDoor
/- The landed base where it can write no more. -/
namespace Go.Proofs.YtjefgmeejhakbaaGreatDoor
open Go.RowKit
section
variable {w w':World} {b d:Nat} {L:EnL} {E:Eng} {dv:List Value} {D:Dsk} {used torn:Int} {down:Bool}
set_option maxRecDepth 100000 in
set_option maxHeartbeats 1000000 in
theorem bwrite_stop {lv:Value} (h:BasAt w b d L E dv D used torn down) {rc:Int} (hst:(rc=6∧down=true)∨(rc=4∧down=false∧250≤used)) :
  Calls Tryz.prog 107 #[.pointer (some ⟨b,0,none⟩),lv] w fun e w'=>e=.returned (.iface 24 (.int .i64 rc))∧w'=w:=by
 have c2:=h.cell 2
 have c4:=h.cell 4
 simp only [basCells,List.getElem?_toArray,List.getElem?_cons_zero,List.getElem?_cons_succ] at c2 c4
 clear h
 rcases hst with ⟨rfl,rfl⟩ | ⟨rfl,rfl,hu⟩
 ·go_enter Tryz.func107,Tryz.ntmps107
  go_wp2
  go_ret
  exact⟨rfl,rfl⟩
 ·have gu:decide (used≥250)=true:=decide_eq_true hu
  go_enter Tryz.func107,Tryz.ntmps107
  go_wp2
  go_ret
  exact⟨rfl,rfl⟩
set_option maxRecDepth 100000 in
set_option maxHeartbeats 1000000 in
theorem bcommit_stop (h:BasAt w b d L E dv D used torn down) {i:Nat} {t:Tx} (hM:CmOk E i t) (ht:E.txs[i]?=some t) (hs:t.state=0) (hb:betB t.ahead t.behind=false) (hne:writesP t.vals≠[]) {rc:Int} (hst:(rc=6∧down=true)∨(rc=4∧down=false∧250≤used)) :
  Calls Tryz.prog 43 #[.pointer (some ⟨b,0,none⟩),.int .i64 ((i:Int)+1)] w fun e w'=>e=.returned (.iface 24 (.int .i64 rc))∧Below w.heap.size w w':=by
 have c1:=h.cell 1
 simp only [basCells,List.getElem?_toArray,List.getElem?_cons_zero,List.getElem?_cons_succ] at c1
 have HW:=hid (writesE_ok h.en ht)
 have HH:=hid h
 have HT:=hid (And.intro ht hs)
 have HBT:=hid hb
 have hwl:=writesP_len t.vals
 have hfv:=hM.fine
 have hvk:=hM.vk
 have HWF:=hid (show ∀ p∈writesP t.vals,Fine p from writesP_fine hvk hfv)
 obtain⟨ws,hws⟩:∃ ws,writesP t.vals=ws:=⟨_,rfl⟩
 rw [hws] at HW hne hwl HWF
 have gw0:((ws.length:Int)==0)=false:=beq_false_of_ne (fun e=>hne (List.eq_nil_of_length_eq_zero (by omega)))
 have hne14:∀ w,(binOp .neq 33 (.iface 24 (.int .i64 rc)) .nilIface).run Tryz.prog w=.ok (.bool true) w:=fun _=>by rcases hst with ⟨rfl,_⟩ | ⟨rfl,_⟩<;>kernel_rfl
 clear h hM ht hs hws hb hfv hvk
 go_enter Tryz.func43,Tryz.ntmps43
 go_wp2_with fail
 refine HW.out.mono ?_
 rintro e w1 ⟨v,rfl,hrow,hB1⟩
 rcases row_slice hrow with ⟨_,e0⟩ | ⟨g,cap,rfl,hg,hc⟩
 ·exact (hne (List.eq_nil_of_length_eq_zero e0)).elim
 have HH1:=hid (HH.out.below hB1)
 have HB1:=hid hB1
 have d1:=HH1.out.cell 1
 simp only [basCells,List.getElem?_toArray,List.getElem?_cons_zero,List.getElem?_cons_succ] at d1
 have hRD:=ready_main HH1.out.en HT.out.1 HT.out.2
 rw [HBT.out,if_neg (by simp)] at hRD
 have HRD:=hid hRD
 have HREC:=hid (record_any (some ⟨g,0,none⟩) cap ws w1 hwl (fun p hp=>fine_key (HWF.out p hp)) (fun j a x hax=>⟨g,0,rfl,hg,by rw [Nat.zero_add];exact hc _ _ (vrow_get ws j a x hax).1,by rw [Nat.zero_add];exact hc _ _ (vrow_get ws j a x hax).2⟩))
 clear hrow hB1 HW c1 hRD hc
 go_wp2_with fail
 refine HRD.out.mono ?_
 rintro e w2 ⟨rfl,hw2⟩
 rw [hw2]
 clear hw2 w2 HRD
 go_wp2_with fail
 refine HREC.out.mono ?_
 rintro e w2 ⟨rv,rfl,hrow2,hB2⟩
 have hrec10:(recP ws).length=9+9*ws.length:=recP_len ws
 obtain⟨_,rad,rcap,erv,hcap2,hx2⟩:=bytesV_own hrow2
 rcases row_slice hrow2 with ⟨_,e0⟩ | ⟨g2,cap2,rfl,hg2,hc2⟩
 ·omega
 have HH2:=hid (HH1.out.below hB2)
 have HB2:=hid hB2
 have HBW:=hid (bwrite_stop (lv:=.slice (some ⟨g2,0,none⟩) (recP ws).length cap2) HH2.out hst)
 clear hrow2 hB2 HREC hc2 hrec10 erv hcap2 hx2
 go_wp2_with fail
 refine HBW.out.mono ?_
 rintro e w3 ⟨rfl,hw3⟩
 rw [hw3]
 clear hw3 w3
 go_wp2
 go_ret
 exact⟨rfl,HB1.out.trans (HB2.out.mono HB1.out.size)⟩
end
end Go.Proofs.YtjefgmeejhakbaaGreatDoor
/- Plain: what was saved, by the document, and what was written to the disk. -/
namespace Go.Proofs.YtjefgmeejhakbaaGreatDoor
open Go.RowKit
theorem lastFW_lastOf (k t:Int) (ws:List (Int × Int)):lastFW k t ws=match lastOf ws k with
  | some x=>[(t,x)]
  | none=>[]:=by
 refine snoc_ind (P:=fun ws=>lastFW k t ws=match lastOf ws k with | some x=>[(t,x)] | none=>[]) (lastFW_nil k t) (fun l p ih=>?_) ws
 rw [lastFW_snoc,lastOf_snoc,ih]
 by_cases h:p.1=k
 ·rw [if_pos h,if_pos h.symm]
 ·rw [if_neg h,if_neg (fun e=>h e.symm)]
theorem lastOf_mem {ws:List (Int × Int)} {k x:Int} (h:lastOf ws k=some x):(k,x)∈ws:=by
 unfold lastOf at h
 cases hl:(ws.filter (fun p=>p.1==k)).getLast? with
 | none=>rw [hl] at h;cases h
 | some p =>
  rw [hl] at h
  have h1:=List.mem_filter.1 (List.mem_of_getLast? hl)
  have h2:p.1=k:=by simpa using h1.2
  have h3:p.2=x:=by simpa using h
  obtain⟨a,v⟩:=p
  simp only at h2 h3
  rw [← h2,← h3]
  exact h1.1
theorem rdP_all (t:Int) (l:List (Int × Int)):(∀ x∈l,x.1≤t)→rdP t l=l.getLast?:=by
 refine snoc_ind (P:=fun l=>(∀ x∈l,x.1≤t)→rdP t l=l.getLast?) (fun _=>by simp [rdP,lat,latN]) (fun l p ih h=>?_) l
 rw [rdP_snoc,if_pos (h p (by simp)),List.getLast?_concat]
theorem lastOf_allK (f:Nat→Option (Int × Int)) (a:Nat):∀ n,lastOf (allK f n) (a:Int)=if a<n then (f a).map (·.2) else none
 | 0=>rfl
 | n+1=>by
  have ih:=lastOf_allK f a n
  cases hf:f n with
  | none =>
   rw [allK_none f n hf,ih]
   by_cases e:a=n
   ·subst e
    rw [if_neg (by omega),if_pos (by omega),hf]
    rfl
   ·by_cases h:a<n
    ·rw [if_pos h,if_pos (by omega)]
    ·rw [if_neg h,if_neg (by omega)]
  | some p =>
   rw [allK_some f n p hf,lastOf_snoc,ih]
   by_cases e:a=n
   ·subst e
    rw [if_pos rfl,if_pos (by omega),hf]
    rfl
   ·rw [if_neg (by simp;omega)]
    by_cases h:a<n
    ·rw [if_pos h,if_pos (by omega)]
    ·rw [if_neg h,if_neg (by omega)]
theorem mem_allK (f:Nat→Option (Int × Int)) (p:Int × Int):∀ n,p∈allK f n→∃ k,k<n∧∃ q,f k=some q∧p=((k:Int),q.2)
 | 0,h=>by simp [allK] at h
 | n+1,h=>by
  cases hf:f n with
  | none =>
   rw [allK_none f n hf] at h
   obtain⟨k,hk,q,h1,h2⟩:=mem_allK f p n h
   exact⟨k,by omega,q,h1,h2⟩
  | some q =>
   rw [allK_some f n q hf] at h
   rcases List.mem_append.1 h with h | h
   ·obtain⟨k,hk,q,h1,h2⟩:=mem_allK f p n h
    exact⟨k,by omega,q,h1,h2⟩
   ·exact⟨n,by omega,q,hf,List.mem_singleton.1 h⟩
structure Saved (recs:List (List (Int × Int))) (kept:List (Int × Int × Int)):Prop where
 doc:∃ ks,Doc (recs.length:Int) ks kept
 last:∀ k:Nat,k<10→((sub k kept).getLast?).map (·.2)=lastOf recs.flatten k
 len:kept.length≤10*recs.length
section
variable {recs:List (List (Int × Int))} {kept:List (Int × Int × Int)}
theorem saved0:Saved [] []:=⟨⟨List.replicate 10 [],rfl,fun k hk=>by rw [List.getElem?_replicate,if_pos hk];rfl,fun x hx=>by simp at hx,fun _=>List.Pairwise.nil,fun x hx=>by simp at hx⟩,fun _ _=>rfl,Nat.le_refl _⟩
theorem Saved.add (h:Saved recs kept) {ws:List (Int × Int)} (hf:∀ p∈ws,Fine p):Saved (recs++[ws]) (kept++addTo ((recs.length:Int)+1) ws 10):=by
 obtain⟨ks,hd⟩:=h.doc
 have e:(((recs++[ws]).length:Nat):Int)=(recs.length:Int)+1:=by simp
 refine⟨⟨_,by rw [e];exact hd.inst (by omega) hf⟩,fun k hk=>?_,?_⟩
 ·rw [sub_append,sub_addTo,if_pos hk,lastFW_lastOf,List.flatten_append,lastOf_append]
  simp only [List.flatten_cons,List.flatten_nil,List.append_nil]
  cases lastOf ws (k:Int) with
  | none=>simp only [List.append_nil];exact h.last k hk
  | some x=>simp
 ·have:=addTo_length ((recs.length:Int)+1) ws 10
  have:=h.len
  simp only [List.length_append,List.length_singleton]
  omega
theorem Saved.best (h:Saved recs kept) {k:Nat} (hk:k<10):(best (k:Int) (recs.length:Int) kept).map (·.2)=lastOf recs.flatten k:=by
 obtain⟨ks,hd⟩:=h.doc
 rw [best_sub _ _ _ (hd.rise _),rdP_all _ _ (fun x hx=>hd.top _ (mem_sub.1 hx))]
 exact h.last k hk
theorem Saved.all (h:Saved recs kept) (hr:∀ ws∈recs,∀ p∈ws,Fine p):∃ ws,allK (fun k=>Go.Proofs.YtjefgmeejhakbaaGreatDoor.best (k:Int) (recs.length:Int) kept) 10=ws∧ws.length≤10∧(∀ p∈ws,Fine p)∧engO recs.length ws=engO recs.length recs.flatten∧(recs=[]→ws=[]):=by
 refine⟨_,rfl,allK_length _ 10,fun p hp=>?_,?_,fun e=>?_⟩
 ·obtain⟨k,hk,q,h1,rfl⟩:=mem_allK _ p 10 hp
  have h2:=h.best hk
  rw [h1] at h2
  have h3:=lastOf_mem h2.symm
  obtain⟨ws,h4,h5⟩:=List.mem_flatten.1 h3
  exact hr ws h4 _ h5
 ·have hw:∀ p∈recs.flatten,0≤p.1∧p.1<10:=fun p hp=>by
   obtain⟨ws,h4,h5⟩:=List.mem_flatten.1 hp
   exact fine_key (hr ws h4 p h5)
  have hv:∀ p∈allK (fun k=>Go.Proofs.YtjefgmeejhakbaaGreatDoor.best (k:Int) (recs.length:Int) kept) 10,0≤p.1∧p.1<10:=fun p hp=>by
   obtain⟨k,hk,q,h1,rfl⟩:=mem_allK _ p 10 hp
   simp only
   omega
  have h1:=inst_over (recs.length:Int) recs.flatten hw
  have h2:=inst_over (recs.length:Int) (allK (fun k=>Go.Proofs.YtjefgmeejhakbaaGreatDoor.best (k:Int) (recs.length:Int) kept) 10) hv
  have hk:instP (recs.length:Int) (allK (fun k=>Go.Proofs.YtjefgmeejhakbaaGreatDoor.best (k:Int) (recs.length:Int) kept) 10) (List.replicate 10 [])=instP (recs.length:Int) recs.flatten (List.replicate 10 []):=by
   refine List.ext_getElem? (fun a=>?_)
   by_cases ha:a<10
   ·rw [h1.2 a ha,h2.2 a ha,lastOf_allK,if_pos ha,h.best ha]
   ·rw [List.getElem?_eq_none (by omega),List.getElem?_eq_none (by omega)]
  unfold engO
  rw [hk]
 ·subst e
  have:=h.len
  have hk:kept=[]:=List.eq_nil_of_length_eq_zero (by simpa using this)
  subst hk
  rfl
end
end Go.Proofs.YtjefgmeejhakbaaGreatDoor
