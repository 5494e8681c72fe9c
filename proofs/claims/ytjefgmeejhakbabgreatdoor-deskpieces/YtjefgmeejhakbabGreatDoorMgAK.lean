/- DkList DkThrow KtPlain KtLater OrSort: put together for a claim. -/
import Derived.Test.YtjefgmeejhakbabGreatDoorMgAE
import Derived.Test.YtjefgmeejhakbabGreatDoorMgAD
import Derived.Test.YtjefgmeejhakbabGreatDoorMgAJ
import Derived.Test.YtjefgmeejhakbabGreatDoorMgAA
import Derived.Test.YtjefgmeejhakbabGreatDoorMgAX
import Derived.Test.YtjefgmeejhakbabGreatDoorMgAR
namespace Go.Proofs.YtjefgmeejhakbabGreatDoor
open Go.RowKit
theorem below_of_drew {w w1:World} (h:Below w.drew.heap.size w.drew w1):Below w.heap.size w w1:=⟨h.os,h.tape,h.output,h.size,h.block⟩
theorem nums_new {w:World} {k:Nat} {l:List Int} {t:TypeId} {fr:Nat × Nat} (h:w.heap[k]?=some (.cells (l.map (Value.int .i64)).toArray t fr)):NumsAt w (.slice (some ⟨k,0,none⟩) l.length l.length) l:=by
 refine⟨_,k,0,l.length,rfl,fun _=>rfl,Nat.le_refl _,fun j x hx=>?_⟩
 rw [cell_of_row w k (0+j) _ _ fr h]
 simp [hx]
theorem ba_app (a b:List UInt8):((⟨a.toArray⟩:ByteArray)++(⟨b.toArray⟩:ByteArray))=⟨(a++b).toArray⟩:=by
 apply ByteArray.ext
 simp
theorem txt_app (a b:List UInt8):Value.string ((⟨a.toArray⟩:ByteArray)++(⟨b.toArray⟩:ByteArray))=txt (a++b):=by rw [ba_app]
set_option maxRecDepth 100000 in
theorem tellError_any {w:World} (hg:LibAt w) {c:Int} (hc:I64 c):Calls Tryz.prog 12 #[.iface 33 (.int .i64 c)] w fun e w'=>e=.returned (txt ([101,114,114,111,114,32]++Lib.itoa c))∧Below w.heap.size w w':=by
 have HT:=hid (tell_errno c w hg.hand)
 have HI:=hid (fun (W:World) (hW:Below w.heap.size w W)=>itoa_any (hg.below hW hg.room) hc)
 have hlen:¬ 9223372036854775807<6+(Lib.itoa c).length:=by have:=itoa_len hc;omega
 clear hg
 go_enter Tryz.func12,Tryz.ntmps12
 go_wp2_with (first | (go_at_call 32;refine HT.out.mono ?_;rintro e w1 ⟨rfl,hB1⟩) | (go_at_call 31;refine (HI.out _ hB1).mono ?_;rintro e w2 ⟨rfl,hB2⟩))
 go_ret
 exact⟨congrArg _ (txt_app [101,114,114,111,114,32] (Lib.itoa c)),hB1.trans (hB2.mono hB1.size)⟩
set_option maxRecDepth 100000 in
theorem tellWrite_any {w:World} (hg:LibAt w) {k v:Int} (hk:I64 k) (hv:I64 v):Calls Tryz.prog 98 #[.agg #[.int .i64 k,.int .i64 v]] w fun e w'=>e=.returned (txt (numsT [k,v]))∧Below w.heap.size w w':=by
 have hr:=hg.room
 have HT:=hid (fun (W:World) (u:Value) (hW:Below w.heap.size w W) (hn:NumsAt W u [k,v])=>tellNumbers_any (hg.below hW hr) hn (by simp [hk,hv]) (by simp))
 clear hg
 go_enter Tryz.func98,Tryz.ntmps98
 go_wp2_with (go_at_call 99;refine (HT.out _ _ (((Below.refl _ w).alloc (Nat.le_refl _) _).alloc (by simp) _) (nums_new (l:=[k,v]) (t:=3) (fr:=(0,0)) (by have:=heap_alloc_new (w.alloc (.cells #[.int .i64 k,.int .i64 v] 122)) (.cells #[.int .i64 k,.int .i64 v] 3);simpa using this))).mono ?_;rintro e w1 ⟨rfl,hB1⟩)
 go_ret
 exact⟨rfl,(((Below.refl _ w).alloc (Nat.le_refl _) _).alloc (by simp) _).trans (hB1.mono (by simp;omega))⟩
def opT (o:Int × Int × Bool × Int):List UInt8:=if o.2.2.1=true then (Lib.itoa o.1++[32,119,32])++Lib.itoa o.2.1 else (Lib.itoa o.1++[32,114,32])++numsT [o.2.1,o.2.2.2]
theorem numsT2_len {a b:Int} (ha:I64 a) (hb:I64 b):(numsT [a,b]).length≤44:=by
 have:=numsT_len (l:=[a,b]) (by simp [ha,hb])
 simpa using this
theorem opT_len {o:Int × Int × Bool × Int} (h1:I64 o.1) (h2:I64 o.2.1) (h3:I64 o.2.2.2):(opT o).length≤68:=by
 have a1:=itoa_len h1
 have a2:=itoa_len h2
 have a3:=numsT2_len h2 h3
 unfold opT
 split<;>simp only [List.length_append,List.length_cons,List.length_nil]<;>omega
set_option maxRecDepth 100000 in
set_option maxHeartbeats 2000000 in
theorem tellOp_any {w:World} (hg:LibAt w) {o:Int × Int × Bool × Int} (h1:I64 o.1) (h2:I64 o.2.1) (h3:I64 o.2.2.2):Calls Tryz.prog 109 #[.agg #[.int .i64 o.1,.int .i64 o.2.1,.bool o.2.2.1,.int .i64 o.2.2.2]] w fun e w'=>e=.returned (txt (opT o))∧Below w.heap.size w w':=by
  obtain⟨x,k,b,f⟩:=o
  simp only at h1 h2 h3 ⊢
  have hr:=hg.room
  have hl1:¬ 9223372036854775807<(Lib.itoa x).length+3:=by have:=itoa_len h1;omega
  have HI:=hid (fun (W:World) (n:Int) (hn:I64 n) (hW:Below w.heap.size w W)=>itoa_any (hg.below hW hr) hn)
  have HT:=hid (fun (W:World) (u:Value) (hW:Below w.heap.size w W) (hn:NumsAt W u [k,f])=>tellNumbers_any (hg.below hW hr) hn (by simp [h2,h3]) (by simp))
  obtain⟨X,hX⟩:∃ X,w.heap.size=X:=⟨_,rfl⟩
  obtain⟨w0,hw0⟩:∃ w0,w.alloc (.cells #[.int .i64 x,.int .i64 k,.bool b,.int .i64 f] 138)=w0:=⟨_,rfl⟩
  have hb0:Below w.heap.size w w0:=by rw [← hw0];exact (Below.refl _ w).alloc (Nat.le_refl _) _
  have hx0:w0.heap[X]?=some (.cells #[.int .i64 x,.int .i64 k,.bool b,.int .i64 f] 138 (0,0)):=by rw [← hw0,← hX];exact heap_alloc_new _ _
  have hXl:X<w0.heap.size:=(Array.getElem?_eq_some_iff.1 hx0).1
  have cells:∀ W,Below w0.heap.size w0 W→W.cell? ⟨X,0,none⟩=some (.int .i64 x)∧W.cell? ⟨X,1,none⟩=some (.int .i64 k)∧W.cell? ⟨X,3,none⟩=some (.int .i64 f):=fun W hW=>by
    have hx1:=(hW.block X hXl).trans hx0
    exact⟨(cell_of_row W X 0 _ _ (0,0) hx1).trans rfl,(cell_of_row W X 1 _ _ (0,0) hx1).trans rfl,(cell_of_row W X 3 _ _ (0,0) hx1).trans rfl⟩
  have c2:w0.cell? ⟨X,2,none⟩=some (.bool b):=(cell_of_row w0 X 2 _ _ (0,0) hx0).trans rfl
  have c013:=cells w0 (Below.refl _ _)
  have HC:=hid cells
  have HB0:=hid hb0
  have hbx:∀ (W:World),Below w0.heap.size w0 W→Below w.heap.size w W:=fun W hW=>hb0.trans (hW.mono hb0.size)
  have HBX:=hid hbx
  have n2:∀ (W:World) (g:Nat),W.heap[g]?=some (.cells #[.int .i64 k,.int .i64 f] 3 (0,0))→NumsAt W (.slice (some ⟨g,0,none⟩) 2 2) [k,f]:=fun W g h=>nums_new (l:=[k,f]) h
  have HT2:=hid (fun (W:World) (g:Nat) (hW:Below w0.heap.size w0 W) (hh:W.heap[g]?=some (.cells #[.int .i64 k,.int .i64 f] 3 (0,0)))=>(HT.out W _ (hbx W hW) (n2 W g hh)).mono (fun e w' h=>(⟨h.1,hW.trans (h.2.mono hW.size)⟩:e=.returned (txt (numsT [k,f]))∧Below w0.heap.size w0 w')))
  have HT1:=hid (fun (W:World) (hW:Below w0.heap.size w0 W)=>HT2.out (W.alloc (.cells #[.int .i64 k,.int .i64 f] 3)) W.heap.size (hW.alloc hW.size _) (heap_alloc_new _ _))
  clear hg hb0 hx0 cells hbx n2
  have hl3:¬ 9223372036854775807<(Lib.itoa x).length+3+(numsT [k,f]).length:=by have:=itoa_len h1;have:=numsT2_len h2 h3;omega
  have hl2:¬ 9223372036854775807<(Lib.itoa x).length+3+(Lib.itoa k).length:=by have:=itoa_len h1;have:=itoa_len h2;omega
  obtain⟨c0,c1,c3⟩:=c013
  have HD0:=hid (show Below w0.heap.size w0 w0.drew from below_drewN (Below.refl _ w0) 1)
  have he1:Value.string ((⟨(Lib.itoa x).toArray⟩:ByteArray)++⟨#[32,119,32]⟩++⟨(Lib.itoa k).toArray⟩)=txt (opT (x,k,true,f)):=by
    rw [ba_app,ba_app];rfl
  have he2:Value.string ((⟨(Lib.itoa x).toArray⟩:ByteArray)++⟨#[32,114,32]⟩++⟨(numsT [k,f]).toArray⟩)=txt (opT (x,k,false,f)):=by
    rw [ba_app,ba_app];rfl
  have HD1:=hid (show Below w0.heap.size w0 (w0.alloc (.cells #[.int .i64 k,.int .i64 f] 3)).drew from below_drewN ((Below.refl _ w0).alloc (Nat.le_refl _) _) 1)
  cases b with
  | true =>
    go_enter Tryz.func109,Tryz.ntmps109
    go_wp2
    go_region_held3 (fun W=>W.cell? ⟨X,0,none⟩=some (.int .i64 x)∧W.cell? ⟨X,1,none⟩=some (.int .i64 k))
      (first | go_keep | exact sK | exact sK2)
      (first
        | (go_at_call 31
           refine (HI.out _ x h1 (HBX.out _ HD0.out)).mono ?_
           rintro e w1 ⟨rfl,hB1⟩
           have HB1:=hid (below_of_drew hB1)
           have sK:w1.cell? ⟨X,0,none⟩=some (.int .i64 x)∧w1.cell? ⟨X,1,none⟩=some (.int .i64 k):=⟨(HC.out w1 HB1.out).1,(HC.out w1 HB1.out).2.1⟩
           clear hB1)
        | (go_at_call 31
           refine (HI.out _ k h2 (HBX.out _ HB1.out)).mono ?_
           rintro e w2 ⟨rfl,hB2⟩
           have HB2:=hid (show Below w0.heap.size w0 w2 from HB1.out.trans (hB2.mono HB1.out.size))
           have sK2:w2.cell? ⟨X,0,none⟩=some (.int .i64 x)∧w2.cell? ⟨X,1,none⟩=some (.int .i64 k):=⟨(HC.out w2 HB2.out).1,(HC.out w2 HB2.out).2.1⟩
           clear hB2)
        | fail)
    go_wp2
    go_ret
    refine⟨?_,HBX.out _ HB2.out⟩
    exact congrArg _ he1
  | false =>
    go_enter Tryz.func109,Tryz.ntmps109
    go_wp2
    go_region_held3 (fun W=>W.cell? ⟨X,0,none⟩=some (.int .i64 x)∧W.cell? ⟨X,1,none⟩=some (.int .i64 k)∧W.cell? ⟨X,3,none⟩=some (.int .i64 f))
      (first | go_keep | exact sK | exact sK2)
      (first
        | (go_at_call 31
           with_reducible refine (HI.out _ x h1 (HBX.out _ HD0.out)).mono ?_
           rintro e w1 ⟨rfl,hB1⟩
           have HB1:=hid (below_of_drew hB1)
           have sK:=HC.out w1 HB1.out
           clear hB1)
        | (go_at_call 31
           with_reducible refine (HI.out _ x h1 (HBX.out _ HD1.out)).mono ?_
           rintro e w1 ⟨rfl,hB1⟩
           have HB1:=hid (HD1.out.trans (hB1.mono HD1.out.size))
           have HN1:=hid (show w1.heap[w0.heap.size]?=some (.cells #[.int .i64 k,.int .i64 f] 3 (0,0)) from ((below_of_drew hB1).block w0.heap.size (by simp)).trans (heap_alloc_new _ _))
           have sK:=HC.out w1 HB1.out
           clear hB1)
        | (go_at_call 99
           with_reducible refine (HT1.out w1 HB1.out).mono ?_
           rintro e w2 ⟨rfl,hB2⟩
           have HB2:=hid hB2
           have sK2:=HC.out w2 HB2.out
           clear hB2)
        | (go_at_call 99
           with_reducible refine (HT2.out w1 _ HB1.out HN1.out).mono ?_
           rintro e w2 ⟨rfl,hB2⟩
           have HB2:=hid hB2
           have sK2:=HC.out w2 HB2.out
           clear hB2)
        | fail)
    all_goals
      go_wp2
      go_ret
      exact⟨congrArg _ he2,HBX.out _ HB2.out⟩
end Go.Proofs.YtjefgmeejhakbabGreatDoor
namespace Go.Proofs.YtjefgmeejhakbabGreatDoor
open Go.RowKit
def thrown (c:Int):Ending:=.panicked [{ v:=.iface 33 (.int .i64 c),recovered:=false }]
theorem throw_nil (w:World):Calls Tryz.prog 53 #[.nilIface] w fun e w'=>e=.returned (.tuple #[])∧w'=w:=by
 go_enter Tryz.func53,Tryz.ntmps53
 go_wp2
 refine bodyPost_end (results_none rfl _ _ _) rfl ?_
 exact⟨rfl,rfl⟩
theorem throw_errno (c:Int) (w:World):Calls Tryz.prog 53 #[.iface 33 (.int .i64 c)] w fun e w'=>e=thrown c∧w'=w:=by
 have hne:∀ w,(binOp .neq 27 (.iface 33 (.int .i64 c)) .nilIface).run Tryz.prog w=.ok (.bool true) w:=fun _=>by kernel_rfl
 go_enter Tryz.func53,Tryz.ntmps53
 have hp:∀ w,(Instr.panic (.iface 33 (.int .i64 c))).run Tryz.prog w=.halt (.panic (.iface 33 (.int .i64 c))) w:=fun _=>by kernel_rfl
 go_wp2
 exact⟨rfl,rfl,rfl⟩
theorem mustI_nil (v:Int) (w:World):Calls Tryz.prog 100 #[.int .i64 v,.nilIface] w fun e w'=>e=.returned (.int .i64 v)∧w'=w:=by
 go_enter Tryz.func100,Tryz.ntmps100
 go_wp2_with (go_at_call 53;refine (throw_nil _).mono ?_;rintro e w' ⟨rfl,rfl⟩)
 go_ret
 exact⟨rfl,rfl⟩
theorem mustI_errno (v c:Int) (w:World):Calls Tryz.prog 100 #[.int .i64 v,.iface 33 (.int .i64 c)] w fun e w'=>e=thrown c∧w'=w:=by
 go_enter Tryz.func100,Tryz.ntmps100
 go_wp2_with fail
 refine (throw_errno c _).mono ?_
 rintro e w' ⟨rfl,hw⟩
 rw [hw]
 clear hw w'
 show bodyPost _ _ _ _ _ _
 exact⟨rfl,rfl,rfl⟩
theorem mustB_nil (v:Bool) (w:World):Calls Tryz.prog 123 #[.bool v,.nilIface] w fun e w'=>e=.returned (.bool v)∧w'=w:=by
 go_enter Tryz.func123,Tryz.ntmps123
 go_wp2_with (go_at_call 53;refine (throw_nil _).mono ?_;rintro e w' ⟨rfl,rfl⟩)
 go_ret
 exact⟨rfl,rfl⟩
theorem mustB_errno (v:Bool) (c:Int) (w:World):Calls Tryz.prog 123 #[.bool v,.iface 33 (.int .i64 c)] w fun e w'=>e=thrown c∧w'=w:=by
 go_enter Tryz.func123,Tryz.ntmps123
 go_wp2_with fail
 refine (throw_errno c _).mono ?_
 rintro e w' ⟨rfl,hw⟩
 rw [hw]
 clear hw w'
 show bodyPost _ _ _ _ _ _
 exact⟨rfl,rfl,rfl⟩
theorem mustL_nil (v:Value) (w:World):Calls Tryz.prog 110 #[v,.nilIface] w fun e w'=>e=.returned (v)∧w'=w:=by
 go_enter Tryz.func110,Tryz.ntmps110
 go_wp2_with (go_at_call 53;refine (throw_nil _).mono ?_;rintro e w' ⟨rfl,rfl⟩)
 go_ret
 exact⟨rfl,rfl⟩
theorem mustL_errno (v:Value) (c:Int) (w:World):Calls Tryz.prog 110 #[v,.iface 33 (.int .i64 c)] w fun e w'=>e=thrown c∧w'=w:=by
 go_enter Tryz.func110,Tryz.ntmps110
 go_wp2_with fail
 refine (throw_errno c _).mono ?_
 rintro e w' ⟨rfl,hw⟩
 rw [hw]
 clear hw w'
 show bodyPost _ _ _ _ _ _
 exact⟨rfl,rfl,rfl⟩
theorem mustP_nil (v:Value) (w:World):Calls Tryz.prog 117 #[v,.nilIface] w fun e w'=>e=.returned (v)∧w'=w:=by
 go_enter Tryz.func117,Tryz.ntmps117
 go_wp2_with (go_at_call 53;refine (throw_nil _).mono ?_;rintro e w' ⟨rfl,rfl⟩)
 go_ret
 exact⟨rfl,rfl⟩
end Go.Proofs.YtjefgmeejhakbabGreatDoor
namespace Go.Proofs.YtjefgmeejhakbabGreatDoor
end Go.Proofs.YtjefgmeejhakbabGreatDoor
namespace Go.Proofs.YtjefgmeejhakbabGreatDoor
section
variable {a0:Int} {K0:Int→Option Int} {C C':CE}
end
end Go.Proofs.YtjefgmeejhakbabGreatDoor
namespace Go.Proofs.YtjefgmeejhakbabGreatDoor
open Go.RowKit Go.Shelf Go.Lib Go.Sort
def cmpW (x y:Int × Int):Int:=if Lib.compareInt x.1 y.1≠0 then Lib.compareInt x.1 y.1 else Lib.compareInt x.2 y.2
theorem cmpInt_neg (x y:Int):Lib.compareInt x y<0↔x<y:=by unfold Lib.compareInt;split<;>(try split)<;>omega
theorem cmpInt_zero (x y:Int):Lib.compareInt x y=0↔x=y:=by unfold Lib.compareInt;split<;>(try split)<;>omega
theorem ltW (x y:Int × Int):ltOf cmpW x y=true↔lt2 x y:=by
 unfold ltOf cmpW lt2
 rw [decide_eq_true_eq]
 have h1:=cmpInt_neg x.1 y.1
 have h2:=cmpInt_zero x.1 y.1
 have h3:=cmpInt_neg x.2 y.2
 by_cases e:Lib.compareInt x.1 y.1=0
 ·rw [if_neg (by simpa using e),h3]
  have:=h2.1 e
  omega
 ·rw [if_pos e,h1]
  have:x.1≠y.1:=fun e2=>e (h2.2 e2)
  omega
theorem ltW_false (x y:Int × Int):ltOf cmpW x y=false↔¬ lt2 x y:=by rw [← ltW,Bool.not_eq_true]
theorem swoW:SWO (ltOf cmpW) where
 irrefl x:=(ltW_false x x).2 (lt2_irrefl x)
 trans x y z h1 h2:=(ltW x z).2 (lt2_trans ((ltW x y).1 h1) ((ltW y z).1 h2))
 ntrans x y z h1 h2:=(ltW_false x z).2 (by
  have h1:=(ltW_false x y).1 h1
  have h2:=(ltW_false y z).1 h2
  unfold lt2 at *
  omega)
theorem totW (x y:Int × Int) (h1:ltOf cmpW x y=false) (h2:ltOf cmpW y x=false):x=y:=by
 have h1:=(ltW_false x y).1 h1
 have h2:=(ltW_false y x).1 h2
 rcases lt2_total x y with h | h | h
 ·exact (h1 h).elim
 ·exact h
 ·exact (h2 h).elim
set_option maxHeartbeats 1000000 in
theorem rising_any (x y:Int × Int) (W:World):Calls Tryz.prog 248 #[.agg #[.int .i64 x.1,.int .i64 x.2],.agg #[.int .i64 y.1,.int .i64 y.2]] W fun e w'=>e=.returned (.int .i64 (cmpW x y))∧∃ q os',w'=grow (W.drewN q) os':=by
 have hcon:=fun a b W'=>AnyG.cmp_Compare_int Tryz.lCmp a b W'
 change ∀ a b W',Calls Tryz.prog 254 _ _ _ at hcon
 unfold cmpW
 by_cases h:Lib.compareInt x.1 y.1=0
 ·rw [if_neg (by simpa using h)]
  have h1:=fun W'=>hcon x.1 y.1 W'
  have h2:=fun W'=>hcon x.2 y.2 W'
  rw [h] at h1
  generalize Lib.compareInt x.2 y.2=r at h2 ⊢
  clear hcon h
  go_enter Tryz.func248,Tryz.ntmps248
  go_wp2_with fail
  refine (h1 _).mono ?_
  rintro e w' ⟨rfl,rfl⟩
  go_wp2_with fail
  refine (h2 _).mono ?_
  rintro e w' ⟨rfl,rfl⟩
  go_wp2
  go_ret
  exact⟨rfl,0,_,by rw [alloc_eq_grow,alloc_eq_grow,grow_grow];rfl⟩
 ·rw [if_pos h]
  have h1:=fun W'=>hcon x.1 y.1 W'
  generalize Lib.compareInt x.1 y.1=r at h h1 ⊢
  have hr:(r != 0)=true:=by simpa using h
  clear hcon h
  go_enter Tryz.func248,Tryz.ntmps248
  go_wp2_with fail
  refine (h1 _).mono ?_
  rintro e w' ⟨rfl,rfl⟩
  go_wp2
  go_ret
  exact⟨rfl,0,_,by rw [alloc_eq_grow,alloc_eq_grow,grow_grow];rfl⟩
theorem cmpLaysW (blk off size:Nat) (w:World):CmpLays Tryz.prog 248 #[] encW 2 cmpW blk off size w:=fun _ _ _ _ x y=>rising_any x y _
theorem sortTwos_any (N:Nat) (v:Value) (d:List (Int × Int)) (w:World) (h:w.ownsRow N 122 2 v d.length (vrow d)) (hn:d.length≤1000000000) :
  Calls Tryz.prog 247 #[v,.func (.func 248) #[] #[]] w fun e w'=>e=.returned (.tuple #[])∧∃ d',d'.Perm d∧d'.Pairwise le2∧w'.ownsRow N 122 2 v d.length (vrow d')∧w.grownBy w' v.ownBlock:=by
 by_cases h0:d=[]
 ·subst h0
  obtain⟨ad,cap,rfl⟩:=row_form h
  have hc:=AnyF.slices_SortFunc_none { Tryz.lSort with } ad cap (.func (.func 248) #[] #[]) w
  change Calls Tryz.prog 247 _ _ _ at hc
  refine hc.mono ?_
  rintro e w' ⟨rfl,rfl⟩
  exact⟨rfl,[],List.Perm.refl _,List.Pairwise.nil,h,⟨rfl,rfl,rfl,Nat.le_refl _,fun _ _ _=>rfl⟩⟩
 ·rcases row_slice h with ⟨_,e0⟩ | ⟨g,cap,rfl,hg,_⟩
  ·exact (h0 (List.eq_nil_of_length_eq_zero e0)).elim
  ·have e1:(flatK encW 2 d.toArray).toList=vrow d:=flatW d.toArray
   have hH:HoldsK encW 2 w g 0 d.toArray:=holds_of_owns (by rw [e1];exact h)
   have eg:∀ args w,(callFunc 248 args).run Tryz.prog w=.ok (.enter 248 args) w:=enters_of Tryz.func248 (by kernel_rfl) rfl
   have hc:=AnyQ.slices_SortFunc_total Tryz.lSort 2 Tryz.isAgg122 Tryz.sizeOf122 encW (fun _=>rfl) (fun x v hv=>by simp [encW] at hv;rcases hv with rfl | rfl<;>rfl) cmpW swoW 248 #[] g 0 cap d.toArray w eg (cmpLaysW g 0 _ w) hH hg (by simp;omega) totW
   change Calls Tryz.prog 247 _ _ _ at hc
   rw [List.size_toArray] at hc
   refine hc.mono ?_
   rintro e w' ⟨rfl,n,os,rfl⟩
   obtain⟨d',hd'⟩:∃ d',d.mergeSort (fun x y=>!(ltOf cmpW) y x)=d':=⟨_,rfl⟩
   have hp:d'.Perm d:=hd'▸List.mergeSort_perm _ _
   have hs:d'.Pairwise le2:=by
    have:=List.pairwise_mergeSort (le:=fun x y=>!(ltOf cmpW) y x) (fun a b c h1 h2=>?_) (fun a b=>?_) d
    ·rw [hd'] at this
     refine this.imp (fun {a b} hab=>?_)
     unfold le2
     rw [← ltW]
     intro hba
     rw [hba] at hab
     cases hab
    ·simp only [Bool.not_eq_true'] at h1 h2 ⊢
     exact swoW.ntrans c b a h2 h1
    ·simp only [Bool.or_eq_true,Bool.not_eq_true']
     cases h1:ltOf cmpW b a with
     | false=>exact .inl rfl
     | true=>exact .inr (swoW.asym h1)
   have hl:d'.length=d.length:=hp.length_eq
   have e2:(flatK encW 2 d'.toArray).toList=vrow d':=flatW d'.toArray
   have hpo:=put_owns h (F:=flatK encW 2 d'.toArray) (by rw [size_flatK,List.size_toArray,hl]) n os
   rw [e2] at hpo
   refine⟨rfl,d',hp,hs,?_⟩
   have hw:sortWorldK encW 2 w g 0 n (d.toArray.toList.mergeSort fun x y=>!(ltOf cmpW) y x).toArray os=grow (putRow id (Sort.ahead w n) g 0 (flatK encW 2 d'.toArray)) os:=by
    rw [← hd'];rfl
   rw [hw]
   exact hpo
end Go.Proofs.YtjefgmeejhakbabGreatDoor
