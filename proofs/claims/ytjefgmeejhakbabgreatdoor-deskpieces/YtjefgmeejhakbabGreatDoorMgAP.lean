/- DkCmdA DkCmdB DkNow: put together for a claim. -/
import Derived.Test.YtjefgmeejhakbabGreatDoorMgAN
import Derived.Test.YtjefgmeejhakbabGreatDoorMgAG
import Derived.Test.YtjefgmeejhakbabGreatDoorMgAO
namespace Go.Proofs.YtjefgmeejhakbabGreatDoor
open Go.RowKit
def EngAt (w:World) (S s:Nat):Prop:=∀ q,Calls Tryz.prog 94 #[.pointer (some ⟨S,0,none⟩)] (w.drewN q) fun e w'=>e=.returned (.pointer (some ⟨s,0,none⟩))∧w'=w.drewN q
theorem errV_err {c:Int} (h:c≠0):errV c=.iface 33 (.int .i64 c):=by unfold errV;rw [if_neg h]
theorem tell1 {w:World} (hg:LibAt w) {n:Int} (hn:I64 n):Calls Tryz.prog 99 #[.slice (some ⟨w.heap.size,0,none⟩) 1 1] (w.alloc (.cells #[.int .i64 n] 3)) fun e w'=>e=.returned (txt (Lib.itoa n))∧Below w.heap.size w w':=by
 refine (tellNumbers_any (l:=[n]) (hg.below ((Below.refl _ w).alloc (Nat.le_refl _) _) hg.room) (nums_new (l:=[n]) (t:=3) (fr:=(0,0)) (heap_alloc_new _ _)) (by simpa using hn) (by simp)).mono ?_
 rintro e w' ⟨rfl,hB⟩
 refine⟨?_,((Below.refl _ w).alloc (Nat.le_refl _) _).trans (hB.mono (by simp))⟩
 rw [show numsT [n]=Lib.itoa n from Lib.join_one _ _]
section
variable {w:World} {S s:Nat} {v:Value} {P:World→Prop}
set_option maxRecDepth 100000 in
set_option maxHeartbeats 4000000 in
theorem dbegin_ok {n:Int} {y:Int} (he:EngAt w S s) (hv:NumsAt w v [n]) (hy:I64 y) (hP:∀ w1,P w1→LibAt w1)
  (hb:∀ q,Calls Tryz.prog 101 #[.pointer (some ⟨s,0,none⟩),.int .i64 n] (w.drewN q) fun e w1=>e=.returned (.tuple #[.int .i64 y,.nilIface])∧P w1) :
  Calls Tryz.prog 35 #[.pointer (some ⟨S,0,none⟩),v] w fun e w'=>e=.returned (txt (Lib.itoa y))∧∃ w1,P w1∧Below w1.heap.size w1 w':=by
 obtain⟨ad,g,o,cap,rfl,had,hcap,hcells⟩:=hv
 obtain rfl:=had (by simp)
 have c0:=hcells 0 n rfl
 rw [Nat.add_zero] at c0
 clear had hcells
 simp only [List.length_cons,List.length_nil,Nat.reduceAdd] at hcap ⊢
 have HB:=hid hb
 have HE:=hid he
 have HP:=hid hP
 clear hb he hP
 go_enter Tryz.func35,Tryz.ntmps35
 go_wp2
 refine region_layers (by kernel_rfl) ?_
 intro w0 hw0
 refine from_quiet hw0 0 5 (by kernel_rfl) (by kernel_rfl) (by kernel_rfl) (by kernel_rfl) (by kernel_rfl) (by kernel_rfl) (by kernel_rfl) (by kernel_rfl) (by kernel_rfl) ?_
 simp only [List.take_succ_cons,List.take_zero,List.drop_zero]
 repeat (go_big_quiet_step (first | (go_at_call 94;refine Calls.quiet_of_same (HE.out _)) | fail))
 refine wpQuiet_nil ?_
 intro _ hw'
 obtain⟨nq,hw2⟩:=hw'
 subst hw2
 refine from_ord 1 5 (by kernel_rfl) (by decide) ?_
 simp only [List.take_succ_cons,List.take_zero,List.drop_succ_cons,List.drop_zero]
 go_wp2_with (first | (go_at_call 101;refine (HB.out nq).mono ?_;rintro e w1 ⟨rfl,hp⟩))
 refine from_quiet (w:=w1) ⟨0,rfl⟩ 6 8 (by kernel_rfl) (by kernel_rfl) (by kernel_rfl) (by kernel_rfl) (by kernel_rfl) (by kernel_rfl) (by kernel_rfl) (by kernel_rfl) (by kernel_rfl) ?_
 simp only [List.take_succ_cons,List.take_zero,List.drop_succ_cons,List.drop_zero]
 repeat (go_big_quiet_step (fail))
 refine wpQuiet_nil ?_
 intro _ hw'
 obtain⟨nr,hw2⟩:=hw'
 subst hw2
 refine from_last 8 (by kernel_rfl) (by decide) (by kernel_rfl) ?_
 simp only [List.drop_succ_cons,List.drop_zero]
 go_wp2_with (first
  | (go_at_call 100;refine (mustI_nil _ _).mono ?_;rintro e w2 ⟨rfl,rfl⟩)
  | (go_at_call 99;refine (tell1 ((HP.out _ hp).drewN nr) hy).mono ?_;rintro e w3 ⟨rfl,hB⟩))
 go_ret
 exact⟨rfl,w1,hp,(below_drewN (Below.refl _ w1) nr).trans (hB.mono (Nat.le_refl _))⟩
set_option maxRecDepth 100000 in
set_option maxHeartbeats 4000000 in
theorem dbegin_err {n c:Int} {y:Int} (he:EngAt w S s) (hv:NumsAt w v [n])
  (hb:∀ q,Calls Tryz.prog 101 #[.pointer (some ⟨s,0,none⟩),.int .i64 n] (w.drewN q) fun e w1=>e=.returned (.tuple #[.int .i64 y,.iface 33 (.int .i64 c)])∧P w1) :
  Calls Tryz.prog 35 #[.pointer (some ⟨S,0,none⟩),v] w fun e w'=>e=thrown c∧∃ w1,P w1∧Below w1.heap.size w1 w':=by
 obtain⟨ad,g,o,cap,rfl,had,hcap,hcells⟩:=hv
 obtain rfl:=had (by simp)
 have c0:=hcells 0 n rfl
 rw [Nat.add_zero] at c0
 clear had hcells
 simp only [List.length_cons,List.length_nil,Nat.reduceAdd] at hcap ⊢
 have HB:=hid hb
 have HE:=hid he
 clear hb he
 go_enter Tryz.func35,Tryz.ntmps35
 go_wp2
 refine region_layers (by kernel_rfl) ?_
 intro w0 hw0
 refine from_quiet hw0 0 5 (by kernel_rfl) (by kernel_rfl) (by kernel_rfl) (by kernel_rfl) (by kernel_rfl) (by kernel_rfl) (by kernel_rfl) (by kernel_rfl) (by kernel_rfl) ?_
 simp only [List.take_succ_cons,List.take_zero,List.drop_zero]
 repeat (go_big_quiet_step (first | (go_at_call 94;refine Calls.quiet_of_same (HE.out _)) | fail))
 refine wpQuiet_nil ?_
 intro _ hw'
 obtain⟨nq,hw2⟩:=hw'
 subst hw2
 refine from_ord 1 5 (by kernel_rfl) (by decide) ?_
 simp only [List.take_succ_cons,List.take_zero,List.drop_succ_cons,List.drop_zero]
 go_wp2_with (first | (go_at_call 101;refine (HB.out nq).mono ?_;rintro e w1 ⟨rfl,hp⟩))
 refine from_quiet (w:=w1) ⟨0,rfl⟩ 6 8 (by kernel_rfl) (by kernel_rfl) (by kernel_rfl) (by kernel_rfl) (by kernel_rfl) (by kernel_rfl) (by kernel_rfl) (by kernel_rfl) (by kernel_rfl) ?_
 simp only [List.take_succ_cons,List.take_zero,List.drop_succ_cons,List.drop_zero]
 repeat (go_big_quiet_step (fail))
 refine wpQuiet_nil ?_
 intro _ hw'
 obtain⟨nr,hw2⟩:=hw'
 subst hw2
 refine from_last 8 (by kernel_rfl) (by decide) (by kernel_rfl) ?_
 simp only [List.drop_succ_cons,List.drop_zero]
 go_wp2_with fail
 refine (mustI_errno y c _).mono ?_
 rintro e w2 ⟨rfl,hw2⟩
 rw [hw2]
 clear hw2 w2
 show bodyPost Tryz.prog Tryz.f35 (fun e w'=>e=thrown c∧∃ w1,P w1∧Below w1.heap.size w1 w') (Exit.panic _) _ _
 exact⟨rfl,rfl,w1,hp,below_drewN (Below.refl _ w1) nr⟩
set_option maxRecDepth 100000 in
set_option maxHeartbeats 4000000 in
theorem dread_ok {n k:Int} {y:Int} (he:EngAt w S s) (hv:NumsAt w v [n,k]) (hy:I64 y) (hP:∀ w1,P w1→LibAt w1)
  (hb:∀ q,Calls Tryz.prog 119 #[.pointer (some ⟨s,0,none⟩),.int .i64 n,.int .i64 k] (w.drewN q) fun e w1=>e=.returned (.tuple #[.int .i64 y,.nilIface])∧P w1) :
  Calls Tryz.prog 43 #[.pointer (some ⟨S,0,none⟩),v] w fun e w'=>e=.returned (txt ([105,115,32]++Lib.itoa y))∧∃ w1,P w1∧Below w1.heap.size w1 w':=by
 obtain⟨ad,g,o,cap,rfl,had,hcap,hcells⟩:=hv
 obtain rfl:=had (by simp)
 have c0:=hcells 0 n rfl
 have c1:=hcells 1 k rfl
 rw [Nat.add_zero] at c0
 clear had hcells
 simp only [List.length_cons,List.length_nil,Nat.reduceAdd] at hcap ⊢
 have HB:=hid hb
 have HE:=hid he
 have HP:=hid hP
 have hlen:¬ 9223372036854775807<3+(Lib.itoa y).length:=by have:=itoa_len hy;omega
 clear hb he hP
 go_enter Tryz.func43,Tryz.ntmps43
 go_wp2
 refine region_layers (by kernel_rfl) ?_
 intro w0 hw0
 refine from_quiet hw0 0 8 (by kernel_rfl) (by kernel_rfl) (by kernel_rfl) (by kernel_rfl) (by kernel_rfl) (by kernel_rfl) (by kernel_rfl) (by kernel_rfl) (by kernel_rfl) ?_
 simp only [List.take_succ_cons,List.take_zero,List.drop_zero]
 repeat (go_big_quiet_step (first | (go_at_call 94;refine Calls.quiet_of_same (HE.out _)) | fail))
 refine wpQuiet_nil ?_
 intro _ hw'
 obtain⟨nq,hw2⟩:=hw'
 subst hw2
 refine from_ord 1 8 (by kernel_rfl) (by decide) ?_
 simp only [List.take_succ_cons,List.take_zero,List.drop_succ_cons,List.drop_zero]
 go_wp2_with (first | (go_at_call 119;refine (HB.out nq).mono ?_;rintro e w1 ⟨rfl,hp⟩))
 refine from_quiet (w:=w1) ⟨0,rfl⟩ 9 11 (by kernel_rfl) (by kernel_rfl) (by kernel_rfl) (by kernel_rfl) (by kernel_rfl) (by kernel_rfl) (by kernel_rfl) (by kernel_rfl) (by kernel_rfl) ?_
 simp only [List.take_succ_cons,List.take_zero,List.drop_succ_cons,List.drop_zero]
 repeat (go_big_quiet_step (fail))
 refine wpQuiet_nil ?_
 intro _ hw'
 obtain⟨nr,hw2⟩:=hw'
 subst hw2
 refine from_last 11 (by kernel_rfl) (by decide) (by kernel_rfl) ?_
 simp only [List.drop_succ_cons,List.drop_zero]
 go_wp2_with (first
  | (go_at_call 100;refine (mustI_nil _ _).mono ?_;rintro e w2 ⟨rfl,rfl⟩)
  | (go_at_call 99;refine (tell1 ((HP.out _ hp).drewN nr) hy).mono ?_;rintro e w3 ⟨rfl,hB⟩))
 go_ret
 exact⟨congrArg _ (txt_app [105,115,32] (Lib.itoa y)),w1,hp,(below_drewN (Below.refl _ w1) nr).trans (hB.mono (Nat.le_refl _))⟩
set_option maxRecDepth 100000 in
set_option maxHeartbeats 4000000 in
theorem dread_err {n k c:Int} {y:Int} (he:EngAt w S s) (hv:NumsAt w v [n,k])
  (hb:∀ q,Calls Tryz.prog 119 #[.pointer (some ⟨s,0,none⟩),.int .i64 n,.int .i64 k] (w.drewN q) fun e w1=>e=.returned (.tuple #[.int .i64 y,.iface 33 (.int .i64 c)])∧P w1) :
  Calls Tryz.prog 43 #[.pointer (some ⟨S,0,none⟩),v] w fun e w'=>e=thrown c∧∃ w1,P w1∧Below w1.heap.size w1 w':=by
 obtain⟨ad,g,o,cap,rfl,had,hcap,hcells⟩:=hv
 obtain rfl:=had (by simp)
 have c0:=hcells 0 n rfl
 have c1:=hcells 1 k rfl
 rw [Nat.add_zero] at c0
 clear had hcells
 simp only [List.length_cons,List.length_nil,Nat.reduceAdd] at hcap ⊢
 have HB:=hid hb
 have HE:=hid he
 clear hb he
 go_enter Tryz.func43,Tryz.ntmps43
 go_wp2
 refine region_layers (by kernel_rfl) ?_
 intro w0 hw0
 refine from_quiet hw0 0 8 (by kernel_rfl) (by kernel_rfl) (by kernel_rfl) (by kernel_rfl) (by kernel_rfl) (by kernel_rfl) (by kernel_rfl) (by kernel_rfl) (by kernel_rfl) ?_
 simp only [List.take_succ_cons,List.take_zero,List.drop_zero]
 repeat (go_big_quiet_step (first | (go_at_call 94;refine Calls.quiet_of_same (HE.out _)) | fail))
 refine wpQuiet_nil ?_
 intro _ hw'
 obtain⟨nq,hw2⟩:=hw'
 subst hw2
 refine from_ord 1 8 (by kernel_rfl) (by decide) ?_
 simp only [List.take_succ_cons,List.take_zero,List.drop_succ_cons,List.drop_zero]
 go_wp2_with (first | (go_at_call 119;refine (HB.out nq).mono ?_;rintro e w1 ⟨rfl,hp⟩))
 refine from_quiet (w:=w1) ⟨0,rfl⟩ 9 11 (by kernel_rfl) (by kernel_rfl) (by kernel_rfl) (by kernel_rfl) (by kernel_rfl) (by kernel_rfl) (by kernel_rfl) (by kernel_rfl) (by kernel_rfl) ?_
 simp only [List.take_succ_cons,List.take_zero,List.drop_succ_cons,List.drop_zero]
 repeat (go_big_quiet_step (fail))
 refine wpQuiet_nil ?_
 intro _ hw'
 obtain⟨nr,hw2⟩:=hw'
 subst hw2
 refine from_last 11 (by kernel_rfl) (by decide) (by kernel_rfl) ?_
 simp only [List.drop_succ_cons,List.drop_zero]
 go_wp2_with fail
 refine (mustI_errno y c _).mono ?_
 rintro e w2 ⟨rfl,hw2⟩
 rw [hw2]
 clear hw2 w2
 show bodyPost Tryz.prog Tryz.f43 (fun e w'=>e=thrown c∧∃ w1,P w1∧Below w1.heap.size w1 w') (Exit.panic _) _ _
 exact⟨rfl,rfl,w1,hp,below_drewN (Below.refl _ w1) nr⟩
set_option maxRecDepth 100000 in
set_option maxHeartbeats 4000000 in
theorem dwrite_ok {n k x:Int} {y:Bool} (he:EngAt w S s) (hv:NumsAt w v [n,k,x]) (hP:∀ w1,P w1→LibAt w1)
  (hb:∀ q,Calls Tryz.prog 124 #[.pointer (some ⟨s,0,none⟩),.int .i64 n,.int .i64 k,.int .i64 x] (w.drewN q) fun e w1=>e=.returned (.tuple #[.bool y,.nilIface])∧P w1) :
  Calls Tryz.prog 47 #[.pointer (some ⟨S,0,none⟩),v] w fun e w'=>e=.returned (txt (if y=true then [119,114,105,116,101] else [119,97,105,116,115]))∧∃ w1,P w1∧Below w1.heap.size w1 w':=by
 obtain⟨ad,g,o,cap,rfl,had,hcap,hcells⟩:=hv
 obtain rfl:=had (by simp)
 have c0:=hcells 0 n rfl
 have c1:=hcells 1 k rfl
 have c2:=hcells 2 x rfl
 rw [Nat.add_zero] at c0
 clear had hcells
 simp only [List.length_cons,List.length_nil,Nat.reduceAdd] at hcap ⊢
 have HB:=hid hb
 have HE:=hid he
 have HP:=hid hP
 clear hb he hP
 cases y with
 | true =>
  go_enter Tryz.func47,Tryz.ntmps47
  go_wp2
  refine region_layers (by kernel_rfl) ?_
  intro w0 hw0
  refine from_quiet hw0 0 11 (by kernel_rfl) (by kernel_rfl) (by kernel_rfl) (by kernel_rfl) (by kernel_rfl) (by kernel_rfl) (by kernel_rfl) (by kernel_rfl) (by kernel_rfl) ?_
  simp only [List.take_succ_cons,List.take_zero,List.drop_zero]
  repeat (go_big_quiet_step (first | (go_at_call 94;refine Calls.quiet_of_same (HE.out _)) | fail))
  refine wpQuiet_nil ?_
  intro _ hw'
  obtain⟨nq,hw2⟩:=hw'
  subst hw2
  refine from_ord 1 11 (by kernel_rfl) (by decide) ?_
  simp only [List.take_succ_cons,List.take_zero,List.drop_succ_cons,List.drop_zero]
  go_wp2_with (first | (go_at_call 124;refine (HB.out nq).mono ?_;rintro e w1 ⟨rfl,hp⟩))
  refine from_quiet (w:=w1) ⟨0,rfl⟩ 12 14 (by kernel_rfl) (by kernel_rfl) (by kernel_rfl) (by kernel_rfl) (by kernel_rfl) (by kernel_rfl) (by kernel_rfl) (by kernel_rfl) (by kernel_rfl) ?_
  simp only [List.take_succ_cons,List.take_zero,List.drop_succ_cons,List.drop_zero]
  repeat (go_big_quiet_step (fail))
  refine wpQuiet_nil ?_
  intro _ hw'
  obtain⟨nr,hw2⟩:=hw'
  subst hw2
  refine from_last 14 (by kernel_rfl) (by decide) (by kernel_rfl) ?_
  simp only [List.drop_succ_cons,List.drop_zero]
  go_wp2_with (first
   | (go_at_call 123;refine (mustB_nil _ _).mono ?_;rintro e w2 ⟨rfl,rfl⟩))
  go_ret
  exact⟨rfl,w1,hp,below_drewN (Below.refl _ w1) nr⟩
 | false =>
  go_enter Tryz.func47,Tryz.ntmps47
  go_wp2
  refine region_layers (by kernel_rfl) ?_
  intro w0 hw0
  refine from_quiet hw0 0 11 (by kernel_rfl) (by kernel_rfl) (by kernel_rfl) (by kernel_rfl) (by kernel_rfl) (by kernel_rfl) (by kernel_rfl) (by kernel_rfl) (by kernel_rfl) ?_
  simp only [List.take_succ_cons,List.take_zero,List.drop_zero]
  repeat (go_big_quiet_step (first | (go_at_call 94;refine Calls.quiet_of_same (HE.out _)) | fail))
  refine wpQuiet_nil ?_
  intro _ hw'
  obtain⟨nq,hw2⟩:=hw'
  subst hw2
  refine from_ord 1 11 (by kernel_rfl) (by decide) ?_
  simp only [List.take_succ_cons,List.take_zero,List.drop_succ_cons,List.drop_zero]
  go_wp2_with (first | (go_at_call 124;refine (HB.out nq).mono ?_;rintro e w1 ⟨rfl,hp⟩))
  refine from_quiet (w:=w1) ⟨0,rfl⟩ 12 14 (by kernel_rfl) (by kernel_rfl) (by kernel_rfl) (by kernel_rfl) (by kernel_rfl) (by kernel_rfl) (by kernel_rfl) (by kernel_rfl) (by kernel_rfl) ?_
  simp only [List.take_succ_cons,List.take_zero,List.drop_succ_cons,List.drop_zero]
  repeat (go_big_quiet_step (fail))
  refine wpQuiet_nil ?_
  intro _ hw'
  obtain⟨nr,hw2⟩:=hw'
  subst hw2
  refine from_last 14 (by kernel_rfl) (by decide) (by kernel_rfl) ?_
  simp only [List.drop_succ_cons,List.drop_zero]
  go_wp2_with (first
   | (go_at_call 123;refine (mustB_nil _ _).mono ?_;rintro e w2 ⟨rfl,rfl⟩))
  go_ret
  exact⟨rfl,w1,hp,below_drewN (Below.refl _ w1) nr⟩
set_option maxRecDepth 100000 in
set_option maxHeartbeats 4000000 in
theorem dwrite_err {n k x c:Int} {y:Bool} (he:EngAt w S s) (hv:NumsAt w v [n,k,x])
  (hb:∀ q,Calls Tryz.prog 124 #[.pointer (some ⟨s,0,none⟩),.int .i64 n,.int .i64 k,.int .i64 x] (w.drewN q) fun e w1=>e=.returned (.tuple #[.bool y,.iface 33 (.int .i64 c)])∧P w1) :
  Calls Tryz.prog 47 #[.pointer (some ⟨S,0,none⟩),v] w fun e w'=>e=thrown c∧∃ w1,P w1∧Below w1.heap.size w1 w':=by
 obtain⟨ad,g,o,cap,rfl,had,hcap,hcells⟩:=hv
 obtain rfl:=had (by simp)
 have c0:=hcells 0 n rfl
 have c1:=hcells 1 k rfl
 have c2:=hcells 2 x rfl
 rw [Nat.add_zero] at c0
 clear had hcells
 simp only [List.length_cons,List.length_nil,Nat.reduceAdd] at hcap ⊢
 have HB:=hid hb
 have HE:=hid he
 clear hb he
 go_enter Tryz.func47,Tryz.ntmps47
 go_wp2
 refine region_layers (by kernel_rfl) ?_
 intro w0 hw0
 refine from_quiet hw0 0 11 (by kernel_rfl) (by kernel_rfl) (by kernel_rfl) (by kernel_rfl) (by kernel_rfl) (by kernel_rfl) (by kernel_rfl) (by kernel_rfl) (by kernel_rfl) ?_
 simp only [List.take_succ_cons,List.take_zero,List.drop_zero]
 repeat (go_big_quiet_step (first | (go_at_call 94;refine Calls.quiet_of_same (HE.out _)) | fail))
 refine wpQuiet_nil ?_
 intro _ hw'
 obtain⟨nq,hw2⟩:=hw'
 subst hw2
 refine from_ord 1 11 (by kernel_rfl) (by decide) ?_
 simp only [List.take_succ_cons,List.take_zero,List.drop_succ_cons,List.drop_zero]
 go_wp2_with (first | (go_at_call 124;refine (HB.out nq).mono ?_;rintro e w1 ⟨rfl,hp⟩))
 refine from_quiet (w:=w1) ⟨0,rfl⟩ 12 14 (by kernel_rfl) (by kernel_rfl) (by kernel_rfl) (by kernel_rfl) (by kernel_rfl) (by kernel_rfl) (by kernel_rfl) (by kernel_rfl) (by kernel_rfl) ?_
 simp only [List.take_succ_cons,List.take_zero,List.drop_succ_cons,List.drop_zero]
 repeat (go_big_quiet_step (fail))
 refine wpQuiet_nil ?_
 intro _ hw'
 obtain⟨nr,hw2⟩:=hw'
 subst hw2
 refine from_last 14 (by kernel_rfl) (by decide) (by kernel_rfl) ?_
 simp only [List.drop_succ_cons,List.drop_zero]
 go_wp2_with fail
 refine (mustB_errno y c _).mono ?_
 rintro e w2 ⟨rfl,hw2⟩
 rw [hw2]
 clear hw2 w2
 show bodyPost Tryz.prog Tryz.f47 (fun e w'=>e=thrown c∧∃ w1,P w1∧Below w1.heap.size w1 w') (Exit.panic _) _ _
 exact⟨rfl,rfl,w1,hp,below_drewN (Below.refl _ w1) nr⟩
set_option maxRecDepth 100000 in
set_option maxHeartbeats 4000000 in
theorem dabort_ok {n:Int} (he:EngAt w S s) (hv:NumsAt w v [n])
  (hb:∀ q,Calls Tryz.prog 95 #[.pointer (some ⟨s,0,none⟩),.int .i64 n] (w.drewN q) fun e w1=>e=.returned (.nilIface)∧P w1) :
  Calls Tryz.prog 33 #[.pointer (some ⟨S,0,none⟩),v] w fun e w'=>e=.returned (txt [97,98,111,114,116])∧P w':=by
 obtain⟨ad,g,o,cap,rfl,had,hcap,hcells⟩:=hv
 obtain rfl:=had (by simp)
 have c0:=hcells 0 n rfl
 rw [Nat.add_zero] at c0
 clear had hcells
 simp only [List.length_cons,List.length_nil,Nat.reduceAdd] at hcap ⊢
 have HB:=hid hb
 have HE:=hid he
 clear hb he
 go_enter Tryz.func33,Tryz.ntmps33
 go_wp2
 refine region_layers (by kernel_rfl) ?_
 intro w0 hw0
 refine from_quiet hw0 0 5 (by kernel_rfl) (by kernel_rfl) (by kernel_rfl) (by kernel_rfl) (by kernel_rfl) (by kernel_rfl) (by kernel_rfl) (by kernel_rfl) (by kernel_rfl) ?_
 simp only [List.take_succ_cons,List.take_zero,List.drop_zero]
 repeat (go_big_quiet_step (first | (go_at_call 94;refine Calls.quiet_of_same (HE.out _)) | fail))
 refine wpQuiet_nil ?_
 intro _ hw'
 obtain⟨nq,hw2⟩:=hw'
 subst hw2
 refine from_last 5 (by kernel_rfl) (by decide) (by kernel_rfl) ?_
 simp only [List.drop_succ_cons,List.drop_zero]
 go_wp2_with (first
  | (go_at_call 95;refine (HB.out nq).mono ?_;rintro e w1 ⟨rfl,hp⟩)
  | (go_at_call 53;refine (throw_nil _).mono ?_;rintro e w2 ⟨rfl,rfl⟩))
 go_ret
 exact⟨rfl,hp⟩
set_option maxRecDepth 100000 in
set_option maxHeartbeats 4000000 in
theorem dabort_err {n c:Int} (he:EngAt w S s) (hv:NumsAt w v [n])
  (hb:∀ q,Calls Tryz.prog 95 #[.pointer (some ⟨s,0,none⟩),.int .i64 n] (w.drewN q) fun e w1=>e=.returned (.iface 33 (.int .i64 c))∧P w1) :
  Calls Tryz.prog 33 #[.pointer (some ⟨S,0,none⟩),v] w fun e w'=>e=thrown c∧P w':=by
 obtain⟨ad,g,o,cap,rfl,had,hcap,hcells⟩:=hv
 obtain rfl:=had (by simp)
 have c0:=hcells 0 n rfl
 rw [Nat.add_zero] at c0
 clear had hcells
 simp only [List.length_cons,List.length_nil,Nat.reduceAdd] at hcap ⊢
 have HB:=hid hb
 have HE:=hid he
 clear hb he
 go_enter Tryz.func33,Tryz.ntmps33
 go_wp2
 refine region_layers (by kernel_rfl) ?_
 intro w0 hw0
 refine from_quiet hw0 0 5 (by kernel_rfl) (by kernel_rfl) (by kernel_rfl) (by kernel_rfl) (by kernel_rfl) (by kernel_rfl) (by kernel_rfl) (by kernel_rfl) (by kernel_rfl) ?_
 simp only [List.take_succ_cons,List.take_zero,List.drop_zero]
 repeat (go_big_quiet_step (first | (go_at_call 94;refine Calls.quiet_of_same (HE.out _)) | fail))
 refine wpQuiet_nil ?_
 intro _ hw'
 obtain⟨nq,hw2⟩:=hw'
 subst hw2
 refine from_last 5 (by kernel_rfl) (by decide) (by kernel_rfl) ?_
 simp only [List.drop_succ_cons,List.drop_zero]
 go_wp2_with (first
  | (go_at_call 95;refine (HB.out nq).mono ?_;rintro e w1 ⟨rfl,hp⟩))
 go_wp2_with fail
 refine (throw_errno c _).mono ?_
 rintro e w2 ⟨rfl,hw2⟩
 rw [hw2]
 clear hw2 w2
 show bodyPost Tryz.prog Tryz.f33 (fun e w'=>e=thrown c∧P w') (Exit.panic _) _ _
 exact⟨rfl,rfl,hp⟩
set_option maxRecDepth 100000 in
set_option maxHeartbeats 4000000 in
theorem dcommit_ok {n:Int} (he:w.cell? ⟨S,1,none⟩=some (.pointer (some ⟨s,0,none⟩))) (hv:NumsAt w v [n])
  (hb:∀ q,Calls Tryz.prog 102 #[.pointer (some ⟨s,0,none⟩),.int .i64 n] (w.drewN q) fun e w1=>e=.returned (.nilIface)∧P w1) :
  Calls Tryz.prog 36 #[.pointer (some ⟨S,0,none⟩),v] w fun e w'=>e=.returned (txt [99,111,109,109,105,116])∧P w':=by
 obtain⟨ad,g,o,cap,rfl,had,hcap,hcells⟩:=hv
 obtain rfl:=had (by simp)
 have c0:=hcells 0 n rfl
 rw [Nat.add_zero] at c0
 clear had hcells
 simp only [List.length_cons,List.length_nil,Nat.reduceAdd] at hcap ⊢
 have HB:=hid hb
 clear hb
 go_enter Tryz.func36,Tryz.ntmps36
 go_wp2
 refine region_layers (by kernel_rfl) ?_
 intro w0 hw0
 refine from_quiet hw0 0 7 (by kernel_rfl) (by kernel_rfl) (by kernel_rfl) (by kernel_rfl) (by kernel_rfl) (by kernel_rfl) (by kernel_rfl) (by kernel_rfl) (by kernel_rfl) ?_
 simp only [List.take_succ_cons,List.take_zero,List.drop_zero]
 repeat (go_big_quiet_step (fail))
 refine wpQuiet_nil ?_
 intro _ hw'
 obtain⟨nq,hw2⟩:=hw'
 subst hw2
 refine from_last 7 (by kernel_rfl) (by decide) (by kernel_rfl) ?_
 simp only [List.drop_succ_cons,List.drop_zero]
 go_wp2_with (first
  | (go_at_call 102;refine (HB.out nq).mono ?_;rintro e w1 ⟨rfl,hp⟩)
  | (go_at_call 53;refine (throw_nil _).mono ?_;rintro e w2 ⟨rfl,rfl⟩))
 go_ret
 exact⟨rfl,hp⟩
set_option maxRecDepth 100000 in
set_option maxHeartbeats 4000000 in
theorem dcommit_err {n c:Int} (he:w.cell? ⟨S,1,none⟩=some (.pointer (some ⟨s,0,none⟩))) (hv:NumsAt w v [n])
  (hb:∀ q,Calls Tryz.prog 102 #[.pointer (some ⟨s,0,none⟩),.int .i64 n] (w.drewN q) fun e w1=>e=.returned (.iface 33 (.int .i64 c))∧P w1) :
  Calls Tryz.prog 36 #[.pointer (some ⟨S,0,none⟩),v] w fun e w'=>e=thrown c∧P w':=by
 obtain⟨ad,g,o,cap,rfl,had,hcap,hcells⟩:=hv
 obtain rfl:=had (by simp)
 have c0:=hcells 0 n rfl
 rw [Nat.add_zero] at c0
 clear had hcells
 simp only [List.length_cons,List.length_nil,Nat.reduceAdd] at hcap ⊢
 have HB:=hid hb
 clear hb
 go_enter Tryz.func36,Tryz.ntmps36
 go_wp2
 refine region_layers (by kernel_rfl) ?_
 intro w0 hw0
 refine from_quiet hw0 0 7 (by kernel_rfl) (by kernel_rfl) (by kernel_rfl) (by kernel_rfl) (by kernel_rfl) (by kernel_rfl) (by kernel_rfl) (by kernel_rfl) (by kernel_rfl) ?_
 simp only [List.take_succ_cons,List.take_zero,List.drop_zero]
 repeat (go_big_quiet_step (fail))
 refine wpQuiet_nil ?_
 intro _ hw'
 obtain⟨nq,hw2⟩:=hw'
 subst hw2
 refine from_last 7 (by kernel_rfl) (by decide) (by kernel_rfl) ?_
 simp only [List.drop_succ_cons,List.drop_zero]
 go_wp2_with (first
  | (go_at_call 102;refine (HB.out nq).mono ?_;rintro e w1 ⟨rfl,hp⟩))
 go_wp2_with fail
 refine (throw_errno c _).mono ?_
 rintro e w2 ⟨rfl,hw2⟩
 rw [hw2]
 clear hw2 w2
 show bodyPost Tryz.prog Tryz.f36 (fun e w'=>e=thrown c∧P w') (Exit.panic _) _ _
 exact⟨rfl,rfl,hp⟩
set_option maxRecDepth 100000 in
set_option maxHeartbeats 4000000 in
theorem dwaits_ok {n y:Int} (he:EngAt w S s) (hv:NumsAt w v [n]) (hy:I64 y) (hP:∀ w1,P w1→LibAt w1)
  (hb:∀ q,Calls Tryz.prog 122 #[.pointer (some ⟨s,0,none⟩),.int .i64 n] (w.drewN q) fun e w1=>e=.returned (.int .i64 y)∧P w1) :
  Calls Tryz.prog 46 #[.pointer (some ⟨S,0,none⟩),v] w fun e w'=>e=.returned (txt (Lib.itoa y))∧∃ w1,P w1∧Below w1.heap.size w1 w':=by
 obtain⟨ad,g,o,cap,rfl,had,hcap,hcells⟩:=hv
 obtain rfl:=had (by simp)
 have c0:=hcells 0 n rfl
 rw [Nat.add_zero] at c0
 clear had hcells
 simp only [List.length_cons,List.length_nil,Nat.reduceAdd] at hcap ⊢
 have HB:=hid hb
 have HE:=hid he
 have HP:=hid hP
 clear hb he hP
 go_enter Tryz.func46,Tryz.ntmps46
 go_wp2
 refine region_layers (by kernel_rfl) ?_
 intro w0 hw0
 refine from_quiet hw0 0 5 (by kernel_rfl) (by kernel_rfl) (by kernel_rfl) (by kernel_rfl) (by kernel_rfl) (by kernel_rfl) (by kernel_rfl) (by kernel_rfl) (by kernel_rfl) ?_
 simp only [List.take_succ_cons,List.take_zero,List.drop_zero]
 repeat (go_big_quiet_step (first | (go_at_call 94;refine Calls.quiet_of_same (HE.out _)) | fail))
 refine wpQuiet_nil ?_
 intro _ hw'
 obtain⟨nq,hw2⟩:=hw'
 subst hw2
 refine from_last 5 (by kernel_rfl) (by decide) (by kernel_rfl) ?_
 simp only [List.drop_succ_cons,List.drop_zero]
 go_wp2_with (first
  | (go_at_call 122;refine (HB.out nq).mono ?_;rintro e w1 ⟨rfl,hp⟩)
  | (go_at_call 99;refine (tell1 (HP.out _ hp) hy).mono ?_;rintro e w3 ⟨rfl,hB⟩))
 go_ret
 exact⟨rfl,w1,hp,hB⟩
set_option maxRecDepth 100000 in
set_option maxHeartbeats 4000000 in
theorem dsweep_ok {y:Int} (he:EngAt w S s) (hy:I64 y) (hP:∀ w1,P w1→LibAt w1)
  (hb:Calls Tryz.prog 121 #[.pointer (some ⟨s,0,none⟩)] w fun e w1=>e=.returned (.int .i64 y)∧P w1) :
  Calls Tryz.prog 45 #[.pointer (some ⟨S,0,none⟩),v] w fun e w'=>e=.returned (txt (Lib.itoa y))∧∃ w1,P w1∧Below w1.heap.size w1 w':=by
 have HB:=hid hb
 have HE:=hid (he 0)
 have HP:=hid hP
 clear hb he hP
 go_enter Tryz.func45,Tryz.ntmps45
 go_wp2_with (first
  | (go_at_call 94;refine HE.out.mono ?_;rintro e w0 ⟨rfl,rfl⟩)
  | (go_at_call 121;refine HB.out.mono ?_;rintro e w1 ⟨rfl,hp⟩)
  | (go_at_call 99;refine (tell1 (HP.out _ hp) hy).mono ?_;rintro e w3 ⟨rfl,hB⟩))
 go_ret
 exact⟨rfl,w1,hp,hB⟩
end
end Go.Proofs.YtjefgmeejhakbabGreatDoor
namespace Go.Proofs.YtjefgmeejhakbabGreatDoor
open Go.RowKit
theorem tell2 {w:World} (hg:LibAt w) {n m:Int} (hn:I64 n) (hm:I64 m):Calls Tryz.prog 99 #[.slice (some ⟨w.heap.size,0,none⟩) 2 2] (w.alloc (.cells #[.int .i64 n,.int .i64 m] 3)) fun e w'=>e=.returned (txt (numsT [n,m]))∧Below w.heap.size w w':=by
 refine (tellNumbers_any (l:=[n,m]) (hg.below ((Below.refl _ w).alloc (Nat.le_refl _) _) hg.room) (nums_new (l:=[n,m]) (t:=3) (fr:=(0,0)) (heap_alloc_new _ _)) (by simp [hn,hm]) (by simp)).mono ?_
 rintro e w' ⟨rfl,hB⟩
 exact⟨rfl,((Below.refl _ w).alloc (Nat.le_refl _) _).trans (hB.mono (by simp))⟩
section
variable {w:World} {S s:Nat} {v:Value} {P:World→Prop}
set_option maxRecDepth 100000 in
set_option maxHeartbeats 4000000 in
theorem dstate_ok {n x y:Int} (he:EngAt w S s) (hv:NumsAt w v [n]) (hx:I64 x) (hy:I64 y) (hP:∀ w1,P w1→LibAt w1)
  (hb:∀ q,Calls Tryz.prog 120 #[.pointer (some ⟨s,0,none⟩),.int .i64 n] (w.drewN q) fun e w1=>e=.returned (.tuple #[.int .i64 x,.int .i64 y,.nilIface])∧P w1) :
  Calls Tryz.prog 44 #[.pointer (some ⟨S,0,none⟩),v] w fun e w'=>e=.returned (txt (numsT [x,y]))∧∃ w1,P w1∧Below w1.heap.size w1 w':=by
 obtain⟨ad,g,o,cap,rfl,had,hcap,hcells⟩:=hv
 obtain rfl:=had (by simp)
 have c0:=hcells 0 n rfl
 rw [Nat.add_zero] at c0
 clear had hcells
 simp only [List.length_cons,List.length_nil,Nat.reduceAdd] at hcap ⊢
 have HB:=hid hb
 have HE:=hid he
 have HP:=hid hP
 clear hb he hP
 go_enter Tryz.func44,Tryz.ntmps44
 go_wp2
 refine region_layers (by kernel_rfl) ?_
 intro w0 hw0
 refine from_quiet hw0 0 5 (by kernel_rfl) (by kernel_rfl) (by kernel_rfl) (by kernel_rfl) (by kernel_rfl) (by kernel_rfl) (by kernel_rfl) (by kernel_rfl) (by kernel_rfl) ?_
 simp only [List.take_succ_cons,List.take_zero,List.drop_zero]
 repeat (go_big_quiet_step (first | (go_at_call 94;refine Calls.quiet_of_same (HE.out _)) | fail))
 refine wpQuiet_nil ?_
 intro _ hw'
 obtain⟨nq,hw2⟩:=hw'
 subst hw2
 refine from_ord 1 5 (by kernel_rfl) (by decide) ?_
 simp only [List.take_succ_cons,List.take_zero,List.drop_succ_cons,List.drop_zero]
 go_wp2_with (first | (go_at_call 120;refine (HB.out nq).mono ?_;rintro e w1 ⟨rfl,hp⟩))
 refine from_quiet_last (w:=w1) ⟨0,rfl⟩ 6 (by kernel_rfl) (by kernel_rfl) ?_
 simp only [List.drop_succ_cons,List.drop_zero]
 repeat (go_big_quiet_step (fail))
 refine wpQuiet_nil ?_
 intro _ hw'
 obtain⟨nr,hw2⟩:=hw'
 subst hw2
 go_wp2_with (first
  | (go_at_call 53;refine (throw_nil _).mono ?_;rintro e w2 ⟨rfl,rfl⟩)
  | (go_at_call 99;refine (tell2 ((HP.out _ hp).drewN nr) hx hy).mono ?_;rintro e w3 ⟨rfl,hB⟩))
 go_ret
 exact⟨rfl,w1,hp,(below_drewN (Below.refl _ w1) nr).trans (hB.mono (Nat.le_refl _))⟩
set_option maxRecDepth 100000 in
set_option maxHeartbeats 4000000 in
theorem dstate_err {n x y c:Int} (he:EngAt w S s) (hv:NumsAt w v [n])
  (hb:∀ q,Calls Tryz.prog 120 #[.pointer (some ⟨s,0,none⟩),.int .i64 n] (w.drewN q) fun e w1=>e=.returned (.tuple #[.int .i64 x,.int .i64 y,.iface 33 (.int .i64 c)])∧P w1) :
  Calls Tryz.prog 44 #[.pointer (some ⟨S,0,none⟩),v] w fun e w'=>e=thrown c∧∃ w1,P w1∧Below w1.heap.size w1 w':=by
 obtain⟨ad,g,o,cap,rfl,had,hcap,hcells⟩:=hv
 obtain rfl:=had (by simp)
 have c0:=hcells 0 n rfl
 rw [Nat.add_zero] at c0
 clear had hcells
 simp only [List.length_cons,List.length_nil,Nat.reduceAdd] at hcap ⊢
 have HB:=hid hb
 have HE:=hid he
 clear hb he
 go_enter Tryz.func44,Tryz.ntmps44
 go_wp2
 refine region_layers (by kernel_rfl) ?_
 intro w0 hw0
 refine from_quiet hw0 0 5 (by kernel_rfl) (by kernel_rfl) (by kernel_rfl) (by kernel_rfl) (by kernel_rfl) (by kernel_rfl) (by kernel_rfl) (by kernel_rfl) (by kernel_rfl) ?_
 simp only [List.take_succ_cons,List.take_zero,List.drop_zero]
 repeat (go_big_quiet_step (first | (go_at_call 94;refine Calls.quiet_of_same (HE.out _)) | fail))
 refine wpQuiet_nil ?_
 intro _ hw'
 obtain⟨nq,hw2⟩:=hw'
 subst hw2
 refine from_ord 1 5 (by kernel_rfl) (by decide) ?_
 simp only [List.take_succ_cons,List.take_zero,List.drop_succ_cons,List.drop_zero]
 go_wp2_with (first | (go_at_call 120;refine (HB.out nq).mono ?_;rintro e w1 ⟨rfl,hp⟩))
 refine from_quiet_last (w:=w1) ⟨0,rfl⟩ 6 (by kernel_rfl) (by kernel_rfl) ?_
 simp only [List.drop_succ_cons,List.drop_zero]
 repeat (go_big_quiet_step (fail))
 refine wpQuiet_nil ?_
 intro _ hw'
 obtain⟨nr,hw2⟩:=hw'
 subst hw2
 go_wp2_with fail
 refine (throw_errno c _).mono ?_
 rintro e w2 ⟨rfl,hw2⟩
 rw [hw2]
 clear hw2 w2
 show bodyPost Tryz.prog Tryz.f44 (fun e w'=>e=thrown c∧∃ w1,P w1∧Below w1.heap.size w1 w') (Exit.panic _) _ _
 exact⟨rfl,rfl,w1,hp,below_drewN (Below.refl _ w1) nr⟩
set_option maxRecDepth 100000 in
set_option maxHeartbeats 4000000 in
theorem dcut_ok {n k:Int} {d b g o cap:Nat} {P2:World→Prop} (hd:w.cell? ⟨S,0,none⟩=some (.pointer (some ⟨d,0,none⟩))) (c0:w.cell? ⟨g,o,none⟩=some (.int .i64 n))
  (hb:∀ q,Calls Tryz.prog 103 #[.pointer (some ⟨d,0,none⟩),.int .i64 n] (w.drewN q) fun e w1=>e=.returned (.tuple #[])∧P w1)
  (h1:∀ w1,P w1→w1.cell? ⟨S,1,none⟩=some (.pointer (some ⟨b,0,none⟩))∧w1.cell? ⟨g,o+1,none⟩=some (.int .i64 k))
  (h2:∀ w1 q,P w1→Calls Tryz.prog 104 #[.pointer (some ⟨b,0,none⟩),.int .i64 k] (w1.drewN q) fun e w2=>e=.returned (.tuple #[])∧P2 w2) :
  Calls Tryz.prog 37 #[.pointer (some ⟨S,0,none⟩),.slice (some ⟨g,o,none⟩) 2 cap] w fun e w'=>e=.returned (txt [99,117,116])∧P2 w':=by
 have HB:=hid hb
 have H1:=hid h1
 have H2:=hid h2
 clear hb h1 h2
 go_enter Tryz.func37,Tryz.ntmps37
 go_wp2
 refine region_layers (by kernel_rfl) ?_
 intro w0 hw0
 refine from_quiet hw0 0 7 (by kernel_rfl) (by kernel_rfl) (by kernel_rfl) (by kernel_rfl) (by kernel_rfl) (by kernel_rfl) (by kernel_rfl) (by kernel_rfl) (by kernel_rfl) ?_
 simp only [List.take_succ_cons,List.take_zero,List.drop_zero]
 repeat (go_big_quiet_step (fail))
 refine wpQuiet_nil ?_
 intro _ hw'
 obtain⟨nq,hw2⟩:=hw'
 subst hw2
 refine from_last 7 (by kernel_rfl) (by decide) (by kernel_rfl) ?_
 simp only [List.drop_succ_cons,List.drop_zero]
 go_wp2_with (first | (go_at_call 103;refine (HB.out nq).mono ?_;rintro e w1 ⟨rfl,hp⟩))
 obtain⟨d1,c1⟩:=H1.out w1 hp
 refine region_layers (by kernel_rfl) ?_
 intro w0 hw0
 refine from_quiet hw0 0 7 (by kernel_rfl) (by kernel_rfl) (by kernel_rfl) (by kernel_rfl) (by kernel_rfl) (by kernel_rfl) (by kernel_rfl) (by kernel_rfl) (by kernel_rfl) ?_
 simp only [List.take_succ_cons,List.take_zero,List.drop_zero]
 repeat (go_big_quiet_step (fail))
 refine wpQuiet_nil ?_
 intro _ hw'
 obtain⟨nr,hw2⟩:=hw'
 subst hw2
 refine from_last 7 (by kernel_rfl) (by decide) (by kernel_rfl) ?_
 simp only [List.drop_succ_cons,List.drop_zero]
 go_wp2_with (first | (go_at_call 104;refine (H2.out w1 nr hp).mono ?_;rintro e w2 ⟨rfl,hp2⟩))
 go_ret
 exact⟨rfl,hp2⟩
set_option maxRecDepth 100000 in
set_option maxHeartbeats 4000000 in
theorem dall_ok {l:List (Int × Int)} (he:EngAt w S s) (hl:∀ p∈l,I64 p.1∧I64 p.2) (hn:l.length≤1000000) (hP:∀ w1,P w1→LibAt w1)
  (hb:Calls Tryz.prog 97 #[.pointer (some ⟨s,0,none⟩)] w fun e w1=>∃ u,e=.returned u∧w1.ownsRow w.heap.size 122 2 u l.length (vrow l)∧P w1) :
  Calls Tryz.prog 34 #[.pointer (some ⟨S,0,none⟩),v] w fun e w'=>e=.returned (txt ([97,108,108,32]++listT (l.map fun p=>numsT [p.1,p.2])))∧∃ w1,P w1∧Below w1.heap.size w1 w':=by
 have HB:=hid hb
 have HE:=hid (he 0)
 have HP:=hid hP
 have hlen:¬ 9223372036854775807<4+(listT (l.map fun p=>numsT [p.1,p.2])).length:=by
  have:=listT_len (l:=l.map fun p=>numsT [p.1,p.2]) (fun y hy=>by
   obtain⟨p,hp,rfl⟩:=List.mem_map.1 hy
   have:=numsT2_len (hl p hp).1 (hl p hp).2
   omega)
  rw [List.length_map] at this
  omega
 have HL:=hid (And.intro hl hn)
 clear hb he hP hl hn
 go_enter Tryz.func34,Tryz.ntmps34
 go_wp2_with (first
  | (go_at_call 94;refine HE.out.mono ?_;rintro e w0 ⟨rfl,rfl⟩)
  | (go_at_call 97;refine HB.out.mono ?_;rintro e w1 ⟨u,rfl,hr,hp⟩)
  | (go_at_call 96;refine (tellWrites_any (HP.out _ hp) hr HL.out.1 HL.out.2).mono ?_;rintro e w3 ⟨rfl,hB⟩))
 go_ret
 exact⟨congrArg _ (txt_app [97,108,108,32] _),w1,hp,hB⟩
set_option maxRecDepth 100000 in
set_option maxHeartbeats 4000000 in
theorem dhistory_ok {l:List (Int × Int × Bool × Int)} (he:EngAt w S s) (hl:∀ o∈l,I64 o.1∧I64 o.2.1∧I64 o.2.2.2) (hn:l.length≤1000000) (hP:∀ w1,P w1→LibAt w1)
  (hb:Calls Tryz.prog 108 #[.pointer (some ⟨s,0,none⟩)] w fun e w1=>∃ u,e=.returned u∧w1.ownsRow w.heap.size 138 4 u l.length (opsV l)∧P w1) :
  Calls Tryz.prog 39 #[.pointer (some ⟨S,0,none⟩),v] w fun e w'=>e=.returned (txt ([104,105,115,116,111,114,121,32]++listT (l.map opT)))∧∃ w1,P w1∧Below w1.heap.size w1 w':=by
 have HB:=hid hb
 have HE:=hid (he 0)
 have HP:=hid hP
 have hlen:¬ 9223372036854775807<8+(listT (l.map opT)).length:=by
  have:=listT_len (l:=l.map opT) (fun y hy=>by
   obtain⟨p,hp,rfl⟩:=List.mem_map.1 hy
   have:=opT_len (hl p hp).1 (hl p hp).2.1 (hl p hp).2.2
   omega)
  rw [List.length_map] at this
  omega
 have HL:=hid (And.intro hl hn)
 clear hb he hP hl hn
 go_enter Tryz.func39,Tryz.ntmps39
 go_wp2_with (first
  | (go_at_call 94;refine HE.out.mono ?_;rintro e w0 ⟨rfl,rfl⟩)
  | (go_at_call 108;refine HB.out.mono ?_;rintro e w1 ⟨u,rfl,hr,hp⟩)
  | (go_at_call 107;refine (tellOps_any (HP.out _ hp) hr HL.out.1 HL.out.2).mono ?_;rintro e w3 ⟨rfl,hB⟩))
 go_ret
 exact⟨congrArg _ (txt_app [104,105,115,116,111,114,121,32] _),w1,hp,hB⟩
set_option maxRecDepth 100000 in
set_option maxHeartbeats 4000000 in
theorem dline_ok {l:List Int} {P:Value→World→Prop} {P2:World→Prop} (he:EngAt w S s) (hl:∀ x∈l,I64 x) (hn:l.length≤1000000) (hP:∀ w1,P2 w1→LibAt w1)
  (hh:Calls Tryz.prog 108 #[.pointer (some ⟨s,0,none⟩)] w fun e w1=>∃ u,e=.returned u∧P u w1)
  (hb:∀ u w1,P u w1→Calls Tryz.prog 111 #[u] w1 fun e w2=>∃ x,e=.returned (.tuple #[x,.nilIface])∧NumsAt w2 x l∧P2 w2) :
  Calls Tryz.prog 40 #[.pointer (some ⟨S,0,none⟩),v] w fun e w'=>e=.returned (txt ([108,105,110,101,32]++numsT l))∧∃ w1,P2 w1∧Below w1.heap.size w1 w':=by
 have HB:=hid hb
 have HH:=hid hh
 have HE:=hid (he 0)
 have HP:=hid hP
 have hlen:¬ 9223372036854775807<5+(numsT l).length:=by have:=numsT_len hl;omega
 have HL:=hid (And.intro hl hn)
 clear hb he hP hh hl hn
 go_enter Tryz.func40,Tryz.ntmps40
 go_wp2_with (first
  | (go_at_call 94;refine HE.out.mono ?_;rintro e w0 ⟨rfl,rfl⟩)
  | (go_at_call 108;refine HH.out.mono ?_;rintro e w1 ⟨u,rfl,hp⟩)
  | (go_at_call 111;refine (HB.out _ _ hp).mono ?_;rintro e w2 ⟨x,rfl,hx,hp2⟩)
  | (go_at_call 110;refine (mustL_nil _ _).mono ?_;rintro e w4 ⟨rfl,rfl⟩)
  | (go_at_call 99;refine (tellNumbers_any (HP.out _ hp2) hx HL.out.1 HL.out.2).mono ?_;rintro e w3 ⟨rfl,hB⟩))
 go_ret
 exact⟨congrArg _ (txt_app [108,105,110,101,32] _),_,hp2,hB⟩
set_option maxRecDepth 100000 in
set_option maxHeartbeats 4000000 in
theorem dline_err {c:Int} {P:Value→World→Prop} {P2:World→Prop} (he:EngAt w S s)
  (hh:Calls Tryz.prog 108 #[.pointer (some ⟨s,0,none⟩)] w fun e w1=>∃ u,e=.returned u∧P u w1)
  (hb:∀ u w1,P u w1→Calls Tryz.prog 111 #[u] w1 fun e w2=>∃ x,e=.returned (.tuple #[x,.iface 33 (.int .i64 c)])∧P2 w2) :
  Calls Tryz.prog 40 #[.pointer (some ⟨S,0,none⟩),v] w fun e w'=>e=thrown c∧P2 w':=by
 have HB:=hid hb
 have HH:=hid hh
 have HE:=hid (he 0)
 clear hb he hh
 go_enter Tryz.func40,Tryz.ntmps40
 go_wp2_with (first
  | (go_at_call 94;refine HE.out.mono ?_;rintro e w0 ⟨rfl,rfl⟩)
  | (go_at_call 108;refine HH.out.mono ?_;rintro e w1 ⟨u,rfl,hp⟩)
  | (go_at_call 111;refine (HB.out _ _ hp).mono ?_;rintro e w2 ⟨x,rfl,hp2⟩))
 go_wp2_with fail
 refine (mustL_errno x c _).mono ?_
 rintro e w4 ⟨rfl,hw2⟩
 rw [hw2]
 clear hw2 w4
 show bodyPost Tryz.prog Tryz.f40 (fun e w'=>e=thrown c∧P2 w') (Exit.panic _) _ _
 exact⟨rfl,rfl,hp2⟩
set_option maxRecDepth 100000 in
set_option maxHeartbeats 4000000 in
theorem dopen_ok {d:Nat} {b0 mv:Value} {P:World→Prop} {P2:Nat→World→Prop} (hS:w.heap[S]?=some (.cells #[.pointer (some ⟨d,0,none⟩),b0,mv] 88 (0,0)))
  (hb:Calls Tryz.prog 103 #[.pointer (some ⟨d,0,none⟩),.int .i64 (-1)] w fun e w1=>e=.returned (.tuple #[])∧P w1)
  (h1:∀ w1,P w1→w1.heap[S]?=some (.cells #[.pointer (some ⟨d,0,none⟩),b0,mv] 88 (0,0)))
  (h2:∀ w1,P w1→Calls Tryz.prog 118 #[.pointer (some ⟨d,0,none⟩)] w1 fun e w2=>∃ b',e=.returned (.tuple #[.pointer (some ⟨b',0,none⟩),.nilIface])∧P2 b' w2)
  (h3:∀ b' w2,P2 b' w2→w2.heap[S]?=some (.cells #[.pointer (some ⟨d,0,none⟩),b0,mv] 88 (0,0))) :
  Calls Tryz.prog 42 #[.pointer (some ⟨S,0,none⟩),v] w fun e w'=>e=.returned (txt [111,112,101,110])∧∃ b' w2,P2 b' w2∧w'=w2.setCell ⟨S,1,none⟩ (.pointer (some ⟨b',0,none⟩)):=by
 have c0:=(cell_of_row w S 0 _ 88 (0,0) hS).trans rfl
 have HB:=hid hb
 have H1:=hid h1
 have H2:=hid h2
 have H3:=hid h3
 clear hb h1 h2 h3 hS
 go_enter Tryz.func42,Tryz.ntmps42
 go_wp2_with (first
  | (go_at_call 103;refine HB.out.mono ?_;rintro e w1 ⟨rfl,hp⟩;have e0:=(cell_of_row w1 S 0 _ 88 (0,0) (H1.out w1 hp)).trans rfl)
  | (go_at_call 118;refine (H2.out w1 hp).mono ?_;rintro e w2 ⟨b',rfl,hp2⟩;have f1:=(cell_of_row w2 S 1 _ 88 (0,0) (H3.out b' w2 hp2)).trans rfl;have g1:w2.frozen? ⟨S,1,none⟩=false:=by simp [World.frozen?,H3.out b' w2 hp2])
  | (go_at_call 117;refine (mustP_nil _ _).mono ?_;rintro e w4 ⟨rfl,rfl⟩))
 go_ret
 exact⟨rfl,b',_,hp2,rfl⟩
end
end Go.Proofs.YtjefgmeejhakbabGreatDoor
namespace Go.Proofs.YtjefgmeejhakbabGreatDoor
open Go.RowKit
def boolT (b:Bool):List UInt8:=if b=true then [116,114,117,101] else [102,97,108,115,101]
theorem formatBool_any (b:Bool) (w:World):Calls Tryz.prog 67 #[.bool b] w fun e w'=>e=.returned (txt (boolT b))∧w'=w:=by
 refine (Tryz.strconv_FormatBool b w).mono ?_
 rintro e w' ⟨rfl,rfl⟩
 refine⟨?_,rfl⟩
 cases b<;>rfl
set_option maxRecDepth 100000 in
set_option maxHeartbeats 4000000 in
theorem dnow_ok {w:World} {S s b:Nat} {v:Value} {t l m u:Int} {dn:Bool} (he:EngAt w S s) (hS:w.cell? ⟨S,1,none⟩=some (.pointer (some ⟨b,0,none⟩))) (hg:LibAt w) (ht:I64 t) (hl:I64 l) (hm:I64 m) (hu:I64 u)
  (h1:∀ W,Below w.heap.size w W→Calls Tryz.prog 112 #[.pointer (some ⟨s,0,none⟩)] W fun e w'=>e=.returned (.int .i64 t)∧w'=W)
  (h2:∀ W,Below w.heap.size w W→Calls Tryz.prog 113 #[.pointer (some ⟨s,0,none⟩)] W fun e w'=>e=.returned (.int .i64 l)∧w'=W)
  (h3:∀ W,Below w.heap.size w W→Calls Tryz.prog 114 #[.pointer (some ⟨s,0,none⟩)] W fun e w'=>e=.returned (.int .i64 m)∧w'=W)
  (h4:∀ W,Below w.heap.size w W→Calls Tryz.prog 115 #[.pointer (some ⟨b,0,none⟩)] W fun e w'=>e=.returned (.int .i64 u)∧w'=W)
  (h5:∀ W,Below w.heap.size w W→Calls Tryz.prog 116 #[.pointer (some ⟨b,0,none⟩)] W fun e w'=>e=.returned (.bool dn)∧w'=W) :
  Calls Tryz.prog 41 #[.pointer (some ⟨S,0,none⟩),v] w fun e w'=>e=.returned (txt (numsT [t,l,m,u]++[32]++boolT dn))∧Below w.heap.size w w':=by
 have hSl:S<w.heap.size:=World.block_lt_of_cell? _ _ hS
 have hlen0:=numsT_len (l:=[t,l,m,u]) (by simp [ht,hl,hm,hu])
 simp only [List.length_cons,List.length_nil] at hlen0
 have hl1:¬ 9223372036854775807<(numsT [t,l,m,u]).length+1:=by omega
 have hl2:¬ 9223372036854775807<(numsT [t,l,m,u]).length+1+(boolT dn).length:=by
  have:(boolT dn).length≤5:=by cases dn<;>decide
  omega
 have HC:=hid (fun (W:World) (hW:Below w.heap.size w W)=>(hW.cell (p:=⟨S,1,none⟩) hSl).trans hS)
 have HN:=hid (fun (W:World) (hW:Below w.heap.size w W)=>(tellNumbers_any (l:=[t,l,m,u]) (hg.below (hW.alloc hW.size (.cells #[.int .i64 t,.int .i64 l,.int .i64 m,.int .i64 u] 3)) hg.room) (show NumsAt _ (.slice (some ⟨W.heap.size,0,none⟩) 4 4) _ from nums_new (l:=[t,l,m,u]) (t:=3) (fr:=(0,0)) (heap_alloc_new _ _)) (by simp [ht,hl,hm,hu]) (by simp)).mono (fun e w' h=>(⟨h.1,(hW.alloc hW.size _).trans (h.2.mono (by have:=hW.size;simp;omega))⟩:e=.returned (txt (numsT [t,l,m,u]))∧Below w.heap.size w w')))
 have HE:=hid (he 0)
 have H1:=hid h1
 have H2:=hid h2
 have H3:=hid h3
 have H4:=hid h4
 have H5:=hid h5
 have HD0:=hid (below_drewN (Below.refl w.heap.size w) 1)
 have he1:Value.string ((⟨(numsT [t,l,m,u]).toArray⟩:ByteArray)++⟨#[32]⟩++⟨(boolT dn).toArray⟩)=txt (numsT [t,l,m,u]++[32]++boolT dn):=by
  rw [ba_app,ba_app]
 have sK0:=HC.out _ HD0.out
 have HN1:=hid (show Calls Tryz.prog 99 #[.slice (some ⟨w.heap.size,0,none⟩) 4 4] ((w.drewN 1).alloc (.cells #[.int .i64 t,.int .i64 l,.int .i64 m,.int .i64 u] 3)) (fun e w'=>e=.returned (txt (numsT [t,l,m,u]))∧Below w.heap.size w w') from HN.out _ HD0.out)
 clear h1 h2 h3 h4 h5 he hg hlen0
 go_enter Tryz.func41,Tryz.ntmps41
 go_wp2_with (first | (go_at_call 94;refine HE.out.mono ?_;rintro e w0 ⟨rfl,rfl⟩))
 go_region_held3 (fun W=>W.cell? ⟨S,1,none⟩=some (.pointer (some ⟨b,0,none⟩)))
  (first | go_keep | exact sK0 | exact sK1)
  (first
   | (go_at_call 112;with_reducible refine (H1.out _ HD0.out).mono ?_;rintro e wa ⟨rfl,rfl⟩)
   | (go_at_call 113;with_reducible refine (H2.out _ HD0.out).mono ?_;rintro e wb ⟨rfl,rfl⟩)
   | (go_at_call 114;with_reducible refine (H3.out _ HD0.out).mono ?_;rintro e wc ⟨rfl,rfl⟩)
   | (go_at_call 115;with_reducible refine (H4.out _ HD0.out).mono ?_;rintro e wd ⟨rfl,rfl⟩)
   | (go_at_call 99;with_reducible refine HN1.out.mono ?_;rintro e w1 ⟨rfl,hB1⟩;have HB1:=hid hB1;have sK1:=HC.out _ hB1;clear hB1)
   | (go_at_call 116;with_reducible refine (H5.out _ HB1.out).mono ?_;rintro e we ⟨rfl,rfl⟩)
   | (go_at_call 67;with_reducible refine (formatBool_any _ _).mono ?_;rintro e wf ⟨rfl,rfl⟩)
   | fail)
 go_wp2
 go_ret
 exact⟨by simp,HB1.out⟩
end Go.Proofs.YtjefgmeejhakbabGreatDoor
