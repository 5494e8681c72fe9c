/- law.BasePlays: what its first loop does in one region (a loose one is begun, writes, and is committed), in whatever order. -/
import Derived.Test.YtjefgmeejhakbaaGreatDoorMgAC
import Derived.Test.YtjefgmeejhakbaaGreatDoorMgAX
import Derived.Test.YtjefgmeejhakbaaGreatDoorMgAW
namespace Go.Proofs.YtjefgmeejhakbaaGreatDoor
open Go.RowKit
def findReg (n:Nat):Code→Option (Array Oper)
 | .region id ops _=>if id=n then some ops else none
 | .loop c=>findReg n c
 | .seq a b=>match findReg n a with
  | some c=>some c
  | none=>findReg n b
 | .block _ c=>findReg n c
 | .scope c=>findReg n c
 | .cond _ a b=>match findReg n a with
  | some c=>some c
  | none=>findReg n b
 | _=>none
noncomputable def ops17:Array Oper:=((Tryz.f8.body.bind (findReg 17)).getD #[])
def slots17:List Tmp:=[73,74,75,76,77,78,79,80,81,82,83,84,85,86,87,88,89,90,91,92,93,94,95,96,97,98,99,100,101,102,103,104,105,106,107,108,109,110,111,112,113,114,115,116,117,118,119,120,121,122,123,124,125,126,127]
def p17 (b c sL rM:Nat) (j n1 n2 rc:Int) (k1 k2:Nat) (i:Nat) (u:Value):Prop:=match i with
 | 0=>u=.pointer (some ⟨b,0,none⟩)
 | 1=>u=.pointer (some ⟨sL,0,none⟩)
 | 2=>u=.pointer (some ⟨c,0,none⟩)
 | 3=>u=.pointer (some ⟨c,0,none⟩)
 | 4=>u=.pointer (some ⟨c,0,none⟩)
 | 5=>u=.pointer (some ⟨rM,0,none⟩)
 | 6=>u=.agg #[.int .i64 0,.int .i64 0,.int .i64 0,.int .i64 0]
 | 7=>u=.bool true
 | 8=>u=.bool false
 | 9=>u=.bool false
 | 10=>u=.pointer (some ⟨b,0,none⟩)
 | 11=>u=.pointer (some ⟨sL,0,none⟩)
 | 12=>u=.pointer (some ⟨c,0,none⟩)
 | 13=>u=.pointer (some ⟨c,0,none⟩)
 | 14=>u=.pointer (some ⟨c,0,none⟩)
 | 15=>u=.pointer (some ⟨rM,0,none⟩)
 | 16=>u=.pointer (some ⟨c,0,none⟩)
 | 17=>u=.pointer (some ⟨c,0,none⟩)
 | 18=>u=.pointer (some ⟨c,0,none⟩)
 | 19=>u=.pointer (some ⟨rM,0,none⟩)
 | 20=>u=.pointer (some ⟨rM,0,none⟩)
 | 21=>u=.pointer (some ⟨rM,12,none⟩)
 | 22=>∃ ad cap,u=.slice ad k1 cap
 | 23=>u=.int .i64 n1
 | 24=>u=.int .i64 j
 | 25=>u=.int .i64 (j.tmod 3)
 | 26=>u=.int .i64 j
 | 27=>u=.agg #[.int .i64 2,.int .i64 n1,.int .i64 (j.tmod 3),.int .i64 j]
 | 28=>u=.bool true
 | 29=>u=.bool false
 | 30=>u=.bool false
 | 31=>u=.bool false
 | 32=>u=.pointer (some ⟨b,0,none⟩)
 | 33=>u=.pointer (some ⟨c,0,none⟩)
 | 34=>u=.pointer (some ⟨c,0,none⟩)
 | 35=>u=.pointer (some ⟨c,0,none⟩)
 | 36=>u=.pointer (some ⟨rM,0,none⟩)
 | 37=>u=.pointer (some ⟨rM,0,none⟩)
 | 38=>u=.pointer (some ⟨rM,12,none⟩)
 | 39=>∃ ad cap,u=.slice ad k2 cap
 | 40=>u=.int .i64 n2
 | 41=>u=errV rc
 | 42=>u=.pointer (some ⟨c,0,none⟩)
 | 43=>u=.pointer (some ⟨c,0,none⟩)
 | 44=>u=.pointer (some ⟨c,0,none⟩)
 | 45=>u=.pointer (some ⟨c,0,none⟩)
 | 46=>u=.pointer (some ⟨rM,0,none⟩)
 | 47=>u=.pointer (some ⟨rM,0,none⟩)
 | 48=>u=.pointer (some ⟨rM,12,none⟩)
 | 49=>∃ ad cap,u=.slice ad k2 cap
 | 50=>u=.int .i64 n2
 | 51=>u=.int .i64 rc
 | 52=>u=.bool true
 | 53=>u=.bool false
 | 54=>u=.bool false
 | _=>True
structure G17 (S0 S1 S2 S3 S4:World→Prop) (listed:Array Bool) (W:World):Prop where
 s0:¬ DoneAt listed 7→S0 W
 s1:DoneAt listed 7→¬ DoneAt listed 28→S1 W
 s2:DoneAt listed 28→¬ DoneAt listed 41→S2 W
 s3:DoneAt listed 41→¬ DoneAt listed 51→S3 W
 s4:DoneAt listed 51→S4 W
section
variable {S0 S1 S2 S3 S4:World→Prop} {listed:Array Bool} {W W':World}
theorem G17.quiet (h:G17 S0 S1 S2 S3 S4 listed W) {i:Nat} (hi:i≠7∧i≠28∧i≠41∧i≠51):G17 S0 S1 S2 S3 S4 (listed.setIfInBounds i true) W:=by
 have e7:=done_set_ne (listed:=listed) (i:=i) (j:=7) (fun e=>hi.1 e.symm)
 have e28:=done_set_ne (listed:=listed) (i:=i) (j:=28) (fun e=>hi.2.1 e.symm)
 have e41:=done_set_ne (listed:=listed) (i:=i) (j:=41) (fun e=>hi.2.2.1 e.symm)
 have e51:=done_set_ne (listed:=listed) (i:=i) (j:=51) (fun e=>hi.2.2.2 e.symm)
 exact⟨fun h1=>h.s0 (fun h2=>h1 (e7.2 h2)),fun h1 h2=>h.s1 (e7.1 h1) (fun h3=>h2 (e28.2 h3)),fun h1 h2=>h.s2 (e28.1 h1) (fun h3=>h2 (e41.2 h3)),fun h1 h2=>h.s3 (e41.1 h1) (fun h3=>h2 (e51.2 h3)),fun h1=>h.s4 (e51.1 h1)⟩
end
theorem done_before {ops:Array Oper} {j:Nat} (h:covB ops j=true) {listed:Array Bool} (hc:ClosedAt ops listed) (hd:DoneAt listed j):∀ i,i<j→DoneAt listed i :=
 cov_done h hc (fun o ho e he hb=>hc j o ho hd e he hb)
set_option maxRecDepth 1000000 in
set_option maxHeartbeats 8000000 in
theorem fill_region {S0 S1 S2 S3 S4:World→Prop} {b c sL rM k1 k2:Nat} {j n1 n2 rc:Int} {w:World} (hk1:n1=(k1:Int)) (hk2:n2=(k2:Int)) (hs0:S0 w.drew)
  (hg0:∀ W,S0 W→Calls Tryz.prog 39 #[.pointer (some ⟨b,0,none⟩)] W fun e w'=>e=.returned (.pointer (some ⟨sL,0,none⟩))∧w'=W)
  (hg1:∀ W,S1 W→Calls Tryz.prog 39 #[.pointer (some ⟨b,0,none⟩)] W fun e w'=>e=.returned (.pointer (some ⟨sL,0,none⟩))∧w'=W)
  (hc0:∀ W,(S0 W∨S1 W∨S2 W∨S3 W)→W.cell? ⟨c,0,none⟩=some (.pointer (some ⟨rM,0,none⟩)))
  (ht1:∀ W,S1 W→∃ ad cap,W.cell? ⟨rM,12,none⟩=some (.slice ad k1 cap)) (ht2:∀ W,(S2 W∨S3 W)→∃ ad cap,W.cell? ⟨rM,12,none⟩=some (.slice ad k2 cap))
  (hd0:∀ W,S0 W→Calls Tryz.prog 20 #[.pointer (some ⟨sL,0,none⟩),.pointer (some ⟨rM,0,none⟩),.agg #[.int .i64 0,.int .i64 0,.int .i64 0,.int .i64 0]] W fun e w'=>e=.returned (.bool true)∧S1 w')
  (hd1:∀ W,S1 W→Calls Tryz.prog 20 #[.pointer (some ⟨sL,0,none⟩),.pointer (some ⟨rM,0,none⟩),.agg #[.int .i64 2,.int .i64 n1,.int .i64 (j.tmod 3),.int .i64 j]] W fun e w'=>e=.returned (.bool true)∧S2 w')
  (hd2:∀ W,S2 W→Calls Tryz.prog 43 #[.pointer (some ⟨b,0,none⟩),.int .i64 n2] W fun e w'=>e=.returned (errV rc)∧S3 w')
  (hd3:∀ W,S3 W→Calls Tryz.prog 44 #[.pointer (some ⟨c,0,none⟩),.int .i64 n2] W fun e w'=>e=.returned (.int .i64 rc)∧S4 w')
  (hd4:∀ W,S4 W→Calls Tryz.prog 40 #[errV rc,.int .i64 rc] W fun e w'=>e=.returned (.bool true)∧S4 w')
  (Q:Exit→Act→World→Prop) (a:Act) (hsz:a.tmps.size=229) (h6:a.tmps.getD 6 undef=.pointer (some ⟨b,0,none⟩)) (h10:a.tmps.getD 10 undef=.pointer (some ⟨c,0,none⟩)) (h11:a.tmps.getD 11 undef=.int .i64 j)
  (hfin:∀ (f:Nat→Value) (w':World),f 54=.bool false→S4 w'→Q .normal { a with tmps:=putF slots17 0 f a.tmps } w') :
  Code.wp Tryz.prog (Code.region 17 ops17 true) Q a w:=by
 obtain⟨ops,hops⟩:∃ ops,ops17=ops:=⟨_,rfl⟩
 rw [hops]
 have cov7:covB ops 7=true:=by rw [← hops];kernel_rfl
 have cov9:covB ops 9=true:=by rw [← hops];kernel_rfl
 have cov28:covB ops 28=true:=by rw [← hops];kernel_rfl
 have cov31:covB ops 31=true:=by rw [← hops];kernel_rfl
 have cov41:covB ops 41=true:=by rw [← hops];kernel_rfl
 have cov51:covB ops 51=true:=by rw [← hops];kernel_rfl
 have size17:ops.size=55:=by rw [← hops];kernel_rfl
 have og9:=(show ops17.toList[9]?=some _ from rfl)
 have og31:=(show ops17.toList[31]?=some _ from rfl)
 rw [Array.getElem?_toList,hops] at og9 og31
 refine region_fixed (by rfl) slots17 (p17 b c sL rM j n1 n2 rc k1 k2) (G17 S0 S1 S2 S3 S4) (by rw [← hops];kernel_rfl) (by rw [hsz,← hops];kernel_rfl) (by rw [← hops];kernel_rfl) ⟨fun _=>hs0,fun h=>(not_done_replicate _ _ h).elim,fun h=>(not_done_replicate _ _ h).elim,fun h=>(not_done_replicate _ _ h).elim,fun h=>(not_done_replicate _ _ h).elim⟩ ?step ?fin
 case fin =>
  intro f listed w' hp hdn hG
  exact hfin f w' (hp 54 (by rw [size17];omega)) (hG.s4 (hdn 51 (by rw [size17];omega)))
 case step =>
 intro i o listed a' W hi ho hls hcl haft hnd hG hF
 have hi':i<55:=by rw [size17] at hi;exact hi
 have T:∀ (k:Nat) (o':Oper),ops17.toList[k]?=some o'→ops[k]?=some o':=fun k o' h=>by rw [Array.getElem?_toList,hops] at h;exact h
 have f6:a'.tmps.getD 6 undef=.pointer (some ⟨b,0,none⟩):=(hF.other 6 (by decide)).trans h6
 have f10:a'.tmps.getD 10 undef=.pointer (some ⟨c,0,none⟩):=(hF.other 10 (by decide)).trans h10
 have f11:a'.tmps.getD 11 undef=.int .i64 j:=(hF.other 11 (by decide)).trans h11
 clear h6 h10 h11 hi hfin hs0
 obtain rfl | rfl | rfl | rfl | rfl | rfl | rfl | rfl | rfl | rfl | rfl | rfl | rfl | rfl | rfl | rfl | rfl | rfl | rfl | rfl | rfl | rfl | rfl | rfl | rfl | rfl | rfl | rfl | rfl | rfl | rfl | rfl | rfl | rfl | rfl | rfl | rfl | rfl | rfl | rfl | rfl | rfl | rfl | rfl | rfl | rfl | rfl | rfl | rfl | rfl | rfl | rfl | rfl | rfl | rfl:i=0∨i=1∨i=2∨i=3∨i=4∨i=5∨i=6∨i=7∨i=8∨i=9∨i=10∨i=11∨i=12∨i=13∨i=14∨i=15∨i=16∨i=17∨i=18∨i=19∨i=20∨i=21∨i=22∨i=23∨i=24∨i=25∨i=26∨i=27∨i=28∨i=29∨i=30∨i=31∨i=32∨i=33∨i=34∨i=35∨i=36∨i=37∨i=38∨i=39∨i=40∨i=41∨i=42∨i=43∨i=44∨i=45∨i=46∨i=47∨i=48∨i=49∨i=50∨i=51∨i=52∨i=53∨i=54:=by omega
 ·obtain rfl:=Option.some.inj (ho.symm.trans (T 0 _ rfl))
  refine wpOp_gval ho (wanted_none rfl) (v:=.pointer (some ⟨b,0,none⟩)) (w':=W) ?_ ⟨_,rfl,rfl,hG.quiet (by omega)⟩
  simp [execOp,Act.eval,f6,go_sem]
 ·obtain rfl:=Option.some.inj (ho.symm.trans (T 1 _ rfl))
  have e73:a'.tmps.getD 73 undef=.pointer (some ⟨b,0,none⟩):=hF.done 0 73 rfl (haft ⟨0,.data⟩ (by simp) rfl)
  have hS:S0 W:=hG.s0 (fun hd=>hnd (done_before cov7 hcl hd 1 (by omega)))
  refine wpOp_call ho (wanted_none rfl) (f:=39) (args:=#[.pointer (some ⟨b,0,none⟩)]) (v:=.pointer (some ⟨sL,0,none⟩)) (R:=fun w2=>w2=W) ?_ (hg0 W hS) ?_
  ·simp [Act.eval,e73,go_sem]
  ·rintro w2 rfl
   exact⟨_,rfl,rfl,hG.quiet (by omega)⟩
 ·obtain rfl:=Option.some.inj (ho.symm.trans (T 2 _ rfl))
  refine wpOp_gval ho (wanted_none rfl) (v:=.pointer (some ⟨c,0,none⟩)) (w':=W) ?_ ⟨_,rfl,rfl,hG.quiet (by omega)⟩
  simp [execOp,Act.eval,f10,go_sem]
 ·obtain rfl:=Option.some.inj (ho.symm.trans (T 3 _ rfl))
  have e75:a'.tmps.getD 75 undef=.pointer (some ⟨c,0,none⟩):=hF.done 2 75 rfl (haft ⟨2,.data⟩ (by simp) rfl)
  refine wpOp_gval ho (wanted_none rfl) (v:=.pointer (some ⟨c,0,none⟩)) (w':=W) ?_ ⟨_,rfl,rfl,hG.quiet (by omega)⟩
  simp [execOp,Act.eval,e75,go_sem]
 ·obtain rfl:=Option.some.inj (ho.symm.trans (T 4 _ rfl))
  have e76:a'.tmps.getD 76 undef=.pointer (some ⟨c,0,none⟩):=hF.done 3 76 rfl (haft ⟨3,.data⟩ (by simp) rfl)
  refine wpOp_gval ho (wanted_none rfl) (v:=.pointer (some ⟨c,0,none⟩)) (w':=W) ?_ ⟨_,rfl,rfl,hG.quiet (by omega)⟩
  simp [execOp,Act.eval,e76,go_sem]
 ·obtain rfl:=Option.some.inj (ho.symm.trans (T 5 _ rfl))
  have e77:a'.tmps.getD 77 undef=.pointer (some ⟨c,0,none⟩):=hF.done 4 77 rfl (haft ⟨4,.data⟩ (by simp) rfl)
  have hS:S0 W:=hG.s0 (fun hd=>hnd (done_before cov7 hcl hd 5 (by omega)))
  have hc:=hc0 W (.inl hS)
  refine wpOp_gval ho (wanted_none rfl) (v:=.pointer (some ⟨rM,0,none⟩)) (w':=W) ?_ ⟨_,rfl,rfl,hG.quiet (by omega)⟩
  simp [execOp,Act.eval,e77,hc,go_sem]
 ·obtain rfl:=Option.some.inj (ho.symm.trans (T 6 _ rfl))
  refine wpOp_gval ho (wanted_none rfl) (v:=.agg #[.int .i64 0,.int .i64 0,.int .i64 0,.int .i64 0]) (w':=W) ?_ ⟨_,rfl,rfl,hG.quiet (by omega)⟩
  simp [execOp,Act.eval,go_sem]
 ·obtain rfl:=Option.some.inj (ho.symm.trans (T 7 _ rfl))
  have e74:a'.tmps.getD 74 undef=.pointer (some ⟨sL,0,none⟩):=hF.done 1 74 rfl (haft ⟨1,.data⟩ (by simp) rfl)
  have e78:a'.tmps.getD 78 undef=.pointer (some ⟨rM,0,none⟩):=hF.done 5 78 rfl (haft ⟨5,.data⟩ (by simp) rfl)
  have e79:a'.tmps.getD 79 undef=.agg #[.int .i64 0,.int .i64 0,.int .i64 0,.int .i64 0]:=hF.done 6 79 rfl (haft ⟨6,.data⟩ (by simp) rfl)
  have hS:S0 W:=hG.s0 hnd
  refine wpOp_call ho (wanted_none rfl) (f:=20) (args:=#[.pointer (some ⟨sL,0,none⟩),.pointer (some ⟨rM,0,none⟩),.agg #[.int .i64 0,.int .i64 0,.int .i64 0,.int .i64 0]]) (v:=.bool true) ?_ (hd0 W hS) ?_
  ·simp [Act.eval,e74,e78,e79,go_sem]
  ·intro w2 hw2
   have hsz2:7<listed.size:=by rw [hls,size17];omega
   have n28:¬ DoneAt (listed.setIfInBounds 7 true) 28:=fun hd=>hnd (done_before cov28 hcl ((done_set_ne (by omega)).1 hd) 7 (by omega))
   have n41:¬ DoneAt (listed.setIfInBounds 7 true) 41:=fun hd=>hnd (done_before cov41 hcl ((done_set_ne (by omega)).1 hd) 7 (by omega))
   have n51:¬ DoneAt (listed.setIfInBounds 7 true) 51:=fun hd=>hnd (done_before cov51 hcl ((done_set_ne (by omega)).1 hd) 7 (by omega))
   have d7:DoneAt (listed.setIfInBounds 7 true) 7:=done_self hsz2
   exact⟨_,rfl,rfl,⟨fun h=>(h d7).elim,fun _ _=>hw2,fun h=>(n28 h).elim,fun h=>(n41 h).elim,fun h=>(n51 h).elim⟩⟩
 ·obtain rfl:=Option.some.inj (ho.symm.trans (T 8 _ rfl))
  have e80:a'.tmps.getD 80 undef=.bool true:=hF.done 7 80 rfl (haft ⟨7,.data⟩ (by simp) rfl)
  refine wpOp_gval ho (wanted_none rfl) (v:=.bool false) (w':=W) ?_ ⟨_,rfl,rfl,hG.quiet (by omega)⟩
  simp [execOp,Act.eval,e80,go_sem]
 ·obtain rfl:=Option.some.inj (ho.symm.trans (T 9 _ rfl))
  have e81:a'.tmps.getD 81 undef=.bool false:=hF.done 8 81 rfl (haft ⟨8,.data⟩ (by simp) rfl)
  refine wpOp_gval ho (wanted_none rfl) (v:=.bool false) (w':=W) ?_ ⟨_,rfl,rfl,hG.quiet (by omega)⟩
  simp [execOp,Act.eval,e81,go_sem]
 ·obtain rfl:=Option.some.inj (ho.symm.trans (T 10 _ rfl))
  have eg:a'.tmps.getD 82 undef=.bool false:=hF.done 9 82 rfl (haft ⟨9,.guard⟩ (by simp) rfl)
  refine wpOp_gval ho (wanted_of rfl og9 rfl eg) (v:=.pointer (some ⟨b,0,none⟩)) (w':=W) ?_ ⟨_,rfl,rfl,hG.quiet (by omega)⟩
  simp [execOp,Act.eval,f6,go_sem]
 ·obtain rfl:=Option.some.inj (ho.symm.trans (T 11 _ rfl))
  have e83:a'.tmps.getD 83 undef=.pointer (some ⟨b,0,none⟩):=hF.done 10 83 rfl (haft ⟨10,.data⟩ (by simp) rfl)
  have eg:a'.tmps.getD 82 undef=.bool false:=hF.done 9 82 rfl (haft ⟨9,.guard⟩ (by simp) rfl)
  have hS:S1 W:=hG.s1 (done_before cov9 hcl (haft ⟨9,.guard⟩ (by simp) rfl) 7 (by omega)) (fun hd=>hnd (done_before cov28 hcl hd 11 (by omega)))
  refine wpOp_call ho (wanted_of rfl og9 rfl eg) (f:=39) (args:=#[.pointer (some ⟨b,0,none⟩)]) (v:=.pointer (some ⟨sL,0,none⟩)) (R:=fun w2=>w2=W) ?_ (hg1 W hS) ?_
  ·simp [Act.eval,e83,go_sem]
  ·rintro w2 rfl
   exact⟨_,rfl,rfl,hG.quiet (by omega)⟩
 ·obtain rfl:=Option.some.inj (ho.symm.trans (T 12 _ rfl))
  have eg:a'.tmps.getD 82 undef=.bool false:=hF.done 9 82 rfl (haft ⟨9,.guard⟩ (by simp) rfl)
  refine wpOp_gval ho (wanted_of rfl og9 rfl eg) (v:=.pointer (some ⟨c,0,none⟩)) (w':=W) ?_ ⟨_,rfl,rfl,hG.quiet (by omega)⟩
  simp [execOp,Act.eval,f10,go_sem]
 ·obtain rfl:=Option.some.inj (ho.symm.trans (T 13 _ rfl))
  have e85:a'.tmps.getD 85 undef=.pointer (some ⟨c,0,none⟩):=hF.done 12 85 rfl (haft ⟨12,.data⟩ (by simp) rfl)
  have eg:a'.tmps.getD 82 undef=.bool false:=hF.done 9 82 rfl (haft ⟨9,.guard⟩ (by simp) rfl)
  refine wpOp_gval ho (wanted_of rfl og9 rfl eg) (v:=.pointer (some ⟨c,0,none⟩)) (w':=W) ?_ ⟨_,rfl,rfl,hG.quiet (by omega)⟩
  simp [execOp,Act.eval,e85,go_sem]
 ·obtain rfl:=Option.some.inj (ho.symm.trans (T 14 _ rfl))
  have e86:a'.tmps.getD 86 undef=.pointer (some ⟨c,0,none⟩):=hF.done 13 86 rfl (haft ⟨13,.data⟩ (by simp) rfl)
  have eg:a'.tmps.getD 82 undef=.bool false:=hF.done 9 82 rfl (haft ⟨9,.guard⟩ (by simp) rfl)
  refine wpOp_gval ho (wanted_of rfl og9 rfl eg) (v:=.pointer (some ⟨c,0,none⟩)) (w':=W) ?_ ⟨_,rfl,rfl,hG.quiet (by omega)⟩
  simp [execOp,Act.eval,e86,go_sem]
 ·obtain rfl:=Option.some.inj (ho.symm.trans (T 15 _ rfl))
  have e87:a'.tmps.getD 87 undef=.pointer (some ⟨c,0,none⟩):=hF.done 14 87 rfl (haft ⟨14,.data⟩ (by simp) rfl)
  have eg:a'.tmps.getD 82 undef=.bool false:=hF.done 9 82 rfl (haft ⟨9,.guard⟩ (by simp) rfl)
  have hS:S1 W:=hG.s1 (done_before cov9 hcl (haft ⟨9,.guard⟩ (by simp) rfl) 7 (by omega)) (fun hd=>hnd (done_before cov28 hcl hd 15 (by omega)))
  have hc:=hc0 W (.inr (.inl hS))
  refine wpOp_gval ho (wanted_of rfl og9 rfl eg) (v:=.pointer (some ⟨rM,0,none⟩)) (w':=W) ?_ ⟨_,rfl,rfl,hG.quiet (by omega)⟩
  simp [execOp,Act.eval,e87,hc,go_sem]
 ·obtain rfl:=Option.some.inj (ho.symm.trans (T 16 _ rfl))
  have eg:a'.tmps.getD 82 undef=.bool false:=hF.done 9 82 rfl (haft ⟨9,.guard⟩ (by simp) rfl)
  refine wpOp_gval ho (wanted_of rfl og9 rfl eg) (v:=.pointer (some ⟨c,0,none⟩)) (w':=W) ?_ ⟨_,rfl,rfl,hG.quiet (by omega)⟩
  simp [execOp,Act.eval,f10,go_sem]
 ·obtain rfl:=Option.some.inj (ho.symm.trans (T 17 _ rfl))
  have e89:a'.tmps.getD 89 undef=.pointer (some ⟨c,0,none⟩):=hF.done 16 89 rfl (haft ⟨16,.data⟩ (by simp) rfl)
  have eg:a'.tmps.getD 82 undef=.bool false:=hF.done 9 82 rfl (haft ⟨9,.guard⟩ (by simp) rfl)
  refine wpOp_gval ho (wanted_of rfl og9 rfl eg) (v:=.pointer (some ⟨c,0,none⟩)) (w':=W) ?_ ⟨_,rfl,rfl,hG.quiet (by omega)⟩
  simp [execOp,Act.eval,e89,go_sem]
 ·obtain rfl:=Option.some.inj (ho.symm.trans (T 18 _ rfl))
  have e90:a'.tmps.getD 90 undef=.pointer (some ⟨c,0,none⟩):=hF.done 17 90 rfl (haft ⟨17,.data⟩ (by simp) rfl)
  have eg:a'.tmps.getD 82 undef=.bool false:=hF.done 9 82 rfl (haft ⟨9,.guard⟩ (by simp) rfl)
  refine wpOp_gval ho (wanted_of rfl og9 rfl eg) (v:=.pointer (some ⟨c,0,none⟩)) (w':=W) ?_ ⟨_,rfl,rfl,hG.quiet (by omega)⟩
  simp [execOp,Act.eval,e90,go_sem]
 ·obtain rfl:=Option.some.inj (ho.symm.trans (T 19 _ rfl))
  have e91:a'.tmps.getD 91 undef=.pointer (some ⟨c,0,none⟩):=hF.done 18 91 rfl (haft ⟨18,.data⟩ (by simp) rfl)
  have eg:a'.tmps.getD 82 undef=.bool false:=hF.done 9 82 rfl (haft ⟨9,.guard⟩ (by simp) rfl)
  have hS:S1 W:=hG.s1 (done_before cov9 hcl (haft ⟨9,.guard⟩ (by simp) rfl) 7 (by omega)) (fun hd=>hnd (done_before cov28 hcl hd 19 (by omega)))
  have hc:=hc0 W (.inr (.inl hS))
  refine wpOp_gval ho (wanted_of rfl og9 rfl eg) (v:=.pointer (some ⟨rM,0,none⟩)) (w':=W) ?_ ⟨_,rfl,rfl,hG.quiet (by omega)⟩
  simp [execOp,Act.eval,e91,hc,go_sem]
 ·obtain rfl:=Option.some.inj (ho.symm.trans (T 20 _ rfl))
  have e92:a'.tmps.getD 92 undef=.pointer (some ⟨rM,0,none⟩):=hF.done 19 92 rfl (haft ⟨19,.data⟩ (by simp) rfl)
  have eg:a'.tmps.getD 82 undef=.bool false:=hF.done 9 82 rfl (haft ⟨9,.guard⟩ (by simp) rfl)
  refine wpOp_gval ho (wanted_of rfl og9 rfl eg) (v:=.pointer (some ⟨rM,0,none⟩)) (w':=W) ?_ ⟨_,rfl,rfl,hG.quiet (by omega)⟩
  simp [execOp,Act.eval,e92,go_sem]
 ·obtain rfl:=Option.some.inj (ho.symm.trans (T 21 _ rfl))
  have e93:a'.tmps.getD 93 undef=.pointer (some ⟨rM,0,none⟩):=hF.done 20 93 rfl (haft ⟨20,.data⟩ (by simp) rfl)
  have eg:a'.tmps.getD 82 undef=.bool false:=hF.done 9 82 rfl (haft ⟨9,.guard⟩ (by simp) rfl)
  refine wpOp_gval ho (wanted_of rfl og9 rfl eg) (v:=.pointer (some ⟨rM,12,none⟩)) (w':=W) ?_ ⟨_,rfl,rfl,hG.quiet (by omega)⟩
  simp [execOp,Act.eval,e93,go_sem]
 ·obtain rfl:=Option.some.inj (ho.symm.trans (T 22 _ rfl))
  have e94:a'.tmps.getD 94 undef=.pointer (some ⟨rM,12,none⟩):=hF.done 21 94 rfl (haft ⟨21,.data⟩ (by simp) rfl)
  have eg:a'.tmps.getD 82 undef=.bool false:=hF.done 9 82 rfl (haft ⟨9,.guard⟩ (by simp) rfl)
  have hS:S1 W:=hG.s1 (done_before cov9 hcl (haft ⟨9,.guard⟩ (by simp) rfl) 7 (by omega)) (fun hd=>hnd (done_before cov28 hcl hd 22 (by omega)))
  obtain⟨ad,cap,hc⟩:=ht1 W hS
  refine wpOp_gval ho (wanted_of rfl og9 rfl eg) (v:=.slice ad k1 cap) (w':=W) ?_ ⟨_,rfl,⟨ad,cap,rfl⟩,hG.quiet (by omega)⟩
  simp [execOp,Act.eval,e94,hc,go_sem]
 ·obtain rfl:=Option.some.inj (ho.symm.trans (T 23 _ rfl))
  obtain⟨ad,cap,e95⟩:∃ ad cap,a'.tmps.getD 95 undef=.slice ad k1 cap:=hF.done 22 95 rfl (haft ⟨22,.data⟩ (by simp) rfl)
  have eg:a'.tmps.getD 82 undef=.bool false:=hF.done 9 82 rfl (haft ⟨9,.guard⟩ (by simp) rfl)
  refine wpOp_gval ho (wanted_of rfl og9 rfl eg) (v:=.int .i64 n1) (w':=W) ?_ ⟨_,rfl,rfl,hG.quiet (by omega)⟩
  simp [Act.eval,e95,go_sem,hk1]
 ·obtain rfl:=Option.some.inj (ho.symm.trans (T 24 _ rfl))
  have eg:a'.tmps.getD 82 undef=.bool false:=hF.done 9 82 rfl (haft ⟨9,.guard⟩ (by simp) rfl)
  refine wpOp_gval ho (wanted_of rfl og9 rfl eg) (v:=.int .i64 j) (w':=W) ?_ ⟨_,rfl,rfl,hG.quiet (by omega)⟩
  simp [execOp,Act.eval,f11,go_sem]
 ·obtain rfl:=Option.some.inj (ho.symm.trans (T 25 _ rfl))
  have e97:a'.tmps.getD 97 undef=.int .i64 j:=hF.done 24 97 rfl (haft ⟨24,.data⟩ (by simp) rfl)
  have eg:a'.tmps.getD 82 undef=.bool false:=hF.done 9 82 rfl (haft ⟨9,.guard⟩ (by simp) rfl)
  refine wpOp_gval ho (wanted_of rfl og9 rfl eg) (v:=.int .i64 (j.tmod 3)) (w':=W) ?_ ⟨_,rfl,rfl,hG.quiet (by omega)⟩
  simp [execOp,Act.eval,e97,go_sem]
 ·obtain rfl:=Option.some.inj (ho.symm.trans (T 26 _ rfl))
  have eg:a'.tmps.getD 82 undef=.bool false:=hF.done 9 82 rfl (haft ⟨9,.guard⟩ (by simp) rfl)
  refine wpOp_gval ho (wanted_of rfl og9 rfl eg) (v:=.int .i64 j) (w':=W) ?_ ⟨_,rfl,rfl,hG.quiet (by omega)⟩
  simp [execOp,Act.eval,f11,go_sem]
 ·obtain rfl:=Option.some.inj (ho.symm.trans (T 27 _ rfl))
  have e96:a'.tmps.getD 96 undef=.int .i64 n1:=hF.done 23 96 rfl (haft ⟨23,.data⟩ (by simp) rfl)
  have e98:a'.tmps.getD 98 undef=.int .i64 (j.tmod 3):=hF.done 25 98 rfl (haft ⟨25,.data⟩ (by simp) rfl)
  have e99:a'.tmps.getD 99 undef=.int .i64 j:=hF.done 26 99 rfl (haft ⟨26,.data⟩ (by simp) rfl)
  have eg:a'.tmps.getD 82 undef=.bool false:=hF.done 9 82 rfl (haft ⟨9,.guard⟩ (by simp) rfl)
  refine wpOp_gval ho (wanted_of rfl og9 rfl eg) (v:=.agg #[.int .i64 2,.int .i64 n1,.int .i64 (j.tmod 3),.int .i64 j]) (w':=W) ?_ ⟨_,rfl,rfl,hG.quiet (by omega)⟩
  have ge96:=(Array.getD_eq_getD_getElem? (xs:=a'.tmps) (i:=96) (d:=undef)).symm.trans e96
  have ge98:=(Array.getD_eq_getD_getElem? (xs:=a'.tmps) (i:=98) (d:=undef)).symm.trans e98
  have ge99:=(Array.getD_eq_getD_getElem? (xs:=a'.tmps) (i:=99) (d:=undef)).symm.trans e99
  simp [execOp,Act.eval,ge96,ge98,ge99,go_sem]
 ·obtain rfl:=Option.some.inj (ho.symm.trans (T 28 _ rfl))
  have e84:a'.tmps.getD 84 undef=.pointer (some ⟨sL,0,none⟩):=hF.done 11 84 rfl (haft ⟨11,.data⟩ (by simp) rfl)
  have e88:a'.tmps.getD 88 undef=.pointer (some ⟨rM,0,none⟩):=hF.done 15 88 rfl (haft ⟨15,.data⟩ (by simp) rfl)
  have e100:a'.tmps.getD 100 undef=.agg #[.int .i64 2,.int .i64 n1,.int .i64 (j.tmod 3),.int .i64 j]:=hF.done 27 100 rfl (haft ⟨27,.data⟩ (by simp) rfl)
  have eg:a'.tmps.getD 82 undef=.bool false:=hF.done 9 82 rfl (haft ⟨9,.guard⟩ (by simp) rfl)
  have hS:S1 W:=hG.s1 (done_before cov9 hcl (haft ⟨9,.guard⟩ (by simp) rfl) 7 (by omega)) hnd
  refine wpOp_call ho (wanted_of rfl og9 rfl eg) (f:=20) (args:=#[.pointer (some ⟨sL,0,none⟩),.pointer (some ⟨rM,0,none⟩),.agg #[.int .i64 2,.int .i64 n1,.int .i64 (j.tmod 3),.int .i64 j]]) (v:=.bool true) ?_ (hd1 W hS) ?_
  ·simp [Act.eval,e84,e88,e100,go_sem]
  ·intro w2 hw2
   have hsz2:28<listed.size:=by rw [hls,size17];omega
   have n41:¬ DoneAt (listed.setIfInBounds 28 true) 41:=fun hd=>hnd (done_before cov41 hcl ((done_set_ne (by omega)).1 hd) 28 (by omega))
   have n51:¬ DoneAt (listed.setIfInBounds 28 true) 51:=fun hd=>hnd (done_before cov51 hcl ((done_set_ne (by omega)).1 hd) 28 (by omega))
   have d28:DoneAt (listed.setIfInBounds 28 true) 28:=done_self hsz2
   have a7:DoneAt listed 7:=done_before cov9 hcl (haft ⟨9,.guard⟩ (by simp) rfl) 7 (by omega)
   exact⟨_,rfl,rfl,⟨fun h=>(h (done_mono a7)).elim,fun _ h=>(h d28).elim,fun _ _=>hw2,fun h=>(n41 h).elim,fun h=>(n51 h).elim⟩⟩
 ·obtain rfl:=Option.some.inj (ho.symm.trans (T 29 _ rfl))
  have e101:a'.tmps.getD 101 undef=.bool true:=hF.done 28 101 rfl (haft ⟨28,.data⟩ (by simp) rfl)
  have eg:a'.tmps.getD 82 undef=.bool false:=hF.done 9 82 rfl (haft ⟨9,.guard⟩ (by simp) rfl)
  refine wpOp_gval ho (wanted_of rfl og9 rfl eg) (v:=.bool false) (w':=W) ?_ ⟨_,rfl,rfl,hG.quiet (by omega)⟩
  simp [execOp,Act.eval,e101,go_sem]
 ·obtain rfl:=Option.some.inj (ho.symm.trans (T 30 _ rfl))
  have e82:a'.tmps.getD 82 undef=.bool false:=hF.done 9 82 rfl (haft ⟨9,.data⟩ (by simp) rfl)
  have e102:a'.tmps.getD 102 undef=.bool false:=hF.done 29 102 rfl (haft ⟨29,.data⟩ (by simp) rfl)
  refine wpOp_gval ho (wanted_none rfl) (v:=.bool false) (w':=W) ?_ ⟨_,rfl,rfl,hG.quiet (by omega)⟩
  simp [execOp,Act.eval,e82,e102,go_sem]
 ·obtain rfl:=Option.some.inj (ho.symm.trans (T 31 _ rfl))
  have e103:a'.tmps.getD 103 undef=.bool false:=hF.done 30 103 rfl (haft ⟨30,.data⟩ (by simp) rfl)
  refine wpOp_gval ho (wanted_none rfl) (v:=.bool false) (w':=W) ?_ ⟨_,rfl,rfl,hG.quiet (by omega)⟩
  simp [execOp,Act.eval,e103,go_sem]
 ·obtain rfl:=Option.some.inj (ho.symm.trans (T 32 _ rfl))
  have eg:a'.tmps.getD 104 undef=.bool false:=hF.done 31 104 rfl (haft ⟨31,.guard⟩ (by simp) rfl)
  refine wpOp_gval ho (wanted_of rfl og31 rfl eg) (v:=.pointer (some ⟨b,0,none⟩)) (w':=W) ?_ ⟨_,rfl,rfl,hG.quiet (by omega)⟩
  simp [execOp,Act.eval,f6,go_sem]
 ·obtain rfl:=Option.some.inj (ho.symm.trans (T 33 _ rfl))
  have eg:a'.tmps.getD 104 undef=.bool false:=hF.done 31 104 rfl (haft ⟨31,.guard⟩ (by simp) rfl)
  refine wpOp_gval ho (wanted_of rfl og31 rfl eg) (v:=.pointer (some ⟨c,0,none⟩)) (w':=W) ?_ ⟨_,rfl,rfl,hG.quiet (by omega)⟩
  simp [execOp,Act.eval,f10,go_sem]
 ·obtain rfl:=Option.some.inj (ho.symm.trans (T 34 _ rfl))
  have e106:a'.tmps.getD 106 undef=.pointer (some ⟨c,0,none⟩):=hF.done 33 106 rfl (haft ⟨33,.data⟩ (by simp) rfl)
  have eg:a'.tmps.getD 104 undef=.bool false:=hF.done 31 104 rfl (haft ⟨31,.guard⟩ (by simp) rfl)
  refine wpOp_gval ho (wanted_of rfl og31 rfl eg) (v:=.pointer (some ⟨c,0,none⟩)) (w':=W) ?_ ⟨_,rfl,rfl,hG.quiet (by omega)⟩
  simp [execOp,Act.eval,e106,go_sem]
 ·obtain rfl:=Option.some.inj (ho.symm.trans (T 35 _ rfl))
  have e107:a'.tmps.getD 107 undef=.pointer (some ⟨c,0,none⟩):=hF.done 34 107 rfl (haft ⟨34,.data⟩ (by simp) rfl)
  have eg:a'.tmps.getD 104 undef=.bool false:=hF.done 31 104 rfl (haft ⟨31,.guard⟩ (by simp) rfl)
  refine wpOp_gval ho (wanted_of rfl og31 rfl eg) (v:=.pointer (some ⟨c,0,none⟩)) (w':=W) ?_ ⟨_,rfl,rfl,hG.quiet (by omega)⟩
  simp [execOp,Act.eval,e107,go_sem]
 ·obtain rfl:=Option.some.inj (ho.symm.trans (T 36 _ rfl))
  have e108:a'.tmps.getD 108 undef=.pointer (some ⟨c,0,none⟩):=hF.done 35 108 rfl (haft ⟨35,.data⟩ (by simp) rfl)
  have eg:a'.tmps.getD 104 undef=.bool false:=hF.done 31 104 rfl (haft ⟨31,.guard⟩ (by simp) rfl)
  have hS:S2 W:=hG.s2 (done_before cov31 hcl (haft ⟨31,.guard⟩ (by simp) rfl) 28 (by omega)) (fun hd=>hnd (done_before cov41 hcl hd 36 (by omega)))
  have hc:=hc0 W (.inr (.inr (.inl hS)))
  refine wpOp_gval ho (wanted_of rfl og31 rfl eg) (v:=.pointer (some ⟨rM,0,none⟩)) (w':=W) ?_ ⟨_,rfl,rfl,hG.quiet (by omega)⟩
  simp [execOp,Act.eval,e108,hc,go_sem]
 ·obtain rfl:=Option.some.inj (ho.symm.trans (T 37 _ rfl))
  have e109:a'.tmps.getD 109 undef=.pointer (some ⟨rM,0,none⟩):=hF.done 36 109 rfl (haft ⟨36,.data⟩ (by simp) rfl)
  have eg:a'.tmps.getD 104 undef=.bool false:=hF.done 31 104 rfl (haft ⟨31,.guard⟩ (by simp) rfl)
  refine wpOp_gval ho (wanted_of rfl og31 rfl eg) (v:=.pointer (some ⟨rM,0,none⟩)) (w':=W) ?_ ⟨_,rfl,rfl,hG.quiet (by omega)⟩
  simp [execOp,Act.eval,e109,go_sem]
 ·obtain rfl:=Option.some.inj (ho.symm.trans (T 38 _ rfl))
  have e110:a'.tmps.getD 110 undef=.pointer (some ⟨rM,0,none⟩):=hF.done 37 110 rfl (haft ⟨37,.data⟩ (by simp) rfl)
  have eg:a'.tmps.getD 104 undef=.bool false:=hF.done 31 104 rfl (haft ⟨31,.guard⟩ (by simp) rfl)
  refine wpOp_gval ho (wanted_of rfl og31 rfl eg) (v:=.pointer (some ⟨rM,12,none⟩)) (w':=W) ?_ ⟨_,rfl,rfl,hG.quiet (by omega)⟩
  simp [execOp,Act.eval,e110,go_sem]
 ·obtain rfl:=Option.some.inj (ho.symm.trans (T 39 _ rfl))
  have e111:a'.tmps.getD 111 undef=.pointer (some ⟨rM,12,none⟩):=hF.done 38 111 rfl (haft ⟨38,.data⟩ (by simp) rfl)
  have eg:a'.tmps.getD 104 undef=.bool false:=hF.done 31 104 rfl (haft ⟨31,.guard⟩ (by simp) rfl)
  have hS:S2 W:=hG.s2 (done_before cov31 hcl (haft ⟨31,.guard⟩ (by simp) rfl) 28 (by omega)) (fun hd=>hnd (done_before cov41 hcl hd 39 (by omega)))
  obtain⟨ad,cap,hc⟩:=ht2 W (.inl hS)
  refine wpOp_gval ho (wanted_of rfl og31 rfl eg) (v:=.slice ad k2 cap) (w':=W) ?_ ⟨_,rfl,⟨ad,cap,rfl⟩,hG.quiet (by omega)⟩
  simp [execOp,Act.eval,e111,hc,go_sem]
 ·obtain rfl:=Option.some.inj (ho.symm.trans (T 40 _ rfl))
  obtain⟨ad,cap,e112⟩:∃ ad cap,a'.tmps.getD 112 undef=.slice ad k2 cap:=hF.done 39 112 rfl (haft ⟨39,.data⟩ (by simp) rfl)
  have eg:a'.tmps.getD 104 undef=.bool false:=hF.done 31 104 rfl (haft ⟨31,.guard⟩ (by simp) rfl)
  refine wpOp_gval ho (wanted_of rfl og31 rfl eg) (v:=.int .i64 n2) (w':=W) ?_ ⟨_,rfl,rfl,hG.quiet (by omega)⟩
  simp [Act.eval,e112,go_sem,hk2]
 ·obtain rfl:=Option.some.inj (ho.symm.trans (T 41 _ rfl))
  have e105:a'.tmps.getD 105 undef=.pointer (some ⟨b,0,none⟩):=hF.done 32 105 rfl (haft ⟨32,.data⟩ (by simp) rfl)
  have e113:a'.tmps.getD 113 undef=.int .i64 n2:=hF.done 40 113 rfl (haft ⟨40,.data⟩ (by simp) rfl)
  have eg:a'.tmps.getD 104 undef=.bool false:=hF.done 31 104 rfl (haft ⟨31,.guard⟩ (by simp) rfl)
  have hS:S2 W:=hG.s2 (done_before cov31 hcl (haft ⟨31,.guard⟩ (by simp) rfl) 28 (by omega)) hnd
  refine wpOp_call ho (wanted_of rfl og31 rfl eg) (f:=43) (args:=#[.pointer (some ⟨b,0,none⟩),.int .i64 n2]) (v:=errV rc) ?_ (hd2 W hS) ?_
  ·simp [Act.eval,e105,e113,go_sem]
  ·intro w2 hw2
   have hsz2:41<listed.size:=by rw [hls,size17];omega
   have n51:¬ DoneAt (listed.setIfInBounds 41 true) 51:=fun hd=>hnd (done_before cov51 hcl ((done_set_ne (by omega)).1 hd) 41 (by omega))
   have d41:DoneAt (listed.setIfInBounds 41 true) 41:=done_self hsz2
   have a7:DoneAt listed 7:=done_before cov31 hcl (haft ⟨31,.guard⟩ (by simp) rfl) 7 (by omega)
   have a28:DoneAt listed 28:=done_before cov31 hcl (haft ⟨31,.guard⟩ (by simp) rfl) 28 (by omega)
   exact⟨_,rfl,rfl,⟨fun h=>(h (done_mono a7)).elim,fun _ h=>(h (done_mono a28)).elim,fun _ h=>(h d41).elim,fun _ _=>hw2,fun h=>(n51 h).elim⟩⟩
 ·obtain rfl:=Option.some.inj (ho.symm.trans (T 42 _ rfl))
  have eg:a'.tmps.getD 104 undef=.bool false:=hF.done 31 104 rfl (haft ⟨31,.guard⟩ (by simp) rfl)
  refine wpOp_gval ho (wanted_of rfl og31 rfl eg) (v:=.pointer (some ⟨c,0,none⟩)) (w':=W) ?_ ⟨_,rfl,rfl,hG.quiet (by omega)⟩
  simp [execOp,Act.eval,f10,go_sem]
 ·obtain rfl:=Option.some.inj (ho.symm.trans (T 43 _ rfl))
  have eg:a'.tmps.getD 104 undef=.bool false:=hF.done 31 104 rfl (haft ⟨31,.guard⟩ (by simp) rfl)
  refine wpOp_gval ho (wanted_of rfl og31 rfl eg) (v:=.pointer (some ⟨c,0,none⟩)) (w':=W) ?_ ⟨_,rfl,rfl,hG.quiet (by omega)⟩
  simp [execOp,Act.eval,f10,go_sem]
 ·obtain rfl:=Option.some.inj (ho.symm.trans (T 44 _ rfl))
  have e116:a'.tmps.getD 116 undef=.pointer (some ⟨c,0,none⟩):=hF.done 43 116 rfl (haft ⟨43,.data⟩ (by simp) rfl)
  have eg:a'.tmps.getD 104 undef=.bool false:=hF.done 31 104 rfl (haft ⟨31,.guard⟩ (by simp) rfl)
  refine wpOp_gval ho (wanted_of rfl og31 rfl eg) (v:=.pointer (some ⟨c,0,none⟩)) (w':=W) ?_ ⟨_,rfl,rfl,hG.quiet (by omega)⟩
  simp [execOp,Act.eval,e116,go_sem]
 ·obtain rfl:=Option.some.inj (ho.symm.trans (T 45 _ rfl))
  have e117:a'.tmps.getD 117 undef=.pointer (some ⟨c,0,none⟩):=hF.done 44 117 rfl (haft ⟨44,.data⟩ (by simp) rfl)
  have eg:a'.tmps.getD 104 undef=.bool false:=hF.done 31 104 rfl (haft ⟨31,.guard⟩ (by simp) rfl)
  refine wpOp_gval ho (wanted_of rfl og31 rfl eg) (v:=.pointer (some ⟨c,0,none⟩)) (w':=W) ?_ ⟨_,rfl,rfl,hG.quiet (by omega)⟩
  simp [execOp,Act.eval,e117,go_sem]
 ·obtain rfl:=Option.some.inj (ho.symm.trans (T 46 _ rfl))
  have e118:a'.tmps.getD 118 undef=.pointer (some ⟨c,0,none⟩):=hF.done 45 118 rfl (haft ⟨45,.data⟩ (by simp) rfl)
  have eg:a'.tmps.getD 104 undef=.bool false:=hF.done 31 104 rfl (haft ⟨31,.guard⟩ (by simp) rfl)
  have n51:¬ DoneAt listed 51:=fun hd=>hnd (done_before cov51 hcl hd 46 (by omega))
  have h28:=done_before cov31 hcl (haft ⟨31,.guard⟩ (by simp) rfl) 28 (by omega)
  have hS:S2 W∨S3 W:=by
   by_cases h41:DoneAt listed 41
   ·exact .inr (hG.s3 h41 n51)
   ·exact .inl (hG.s2 h28 h41)
  have hc:=hc0 W (.inr (.inr (hS.imp id id)))
  refine wpOp_gval ho (wanted_of rfl og31 rfl eg) (v:=.pointer (some ⟨rM,0,none⟩)) (w':=W) ?_ ⟨_,rfl,rfl,hG.quiet (by omega)⟩
  simp [execOp,Act.eval,e118,hc,go_sem]
 ·obtain rfl:=Option.some.inj (ho.symm.trans (T 47 _ rfl))
  have e119:a'.tmps.getD 119 undef=.pointer (some ⟨rM,0,none⟩):=hF.done 46 119 rfl (haft ⟨46,.data⟩ (by simp) rfl)
  have eg:a'.tmps.getD 104 undef=.bool false:=hF.done 31 104 rfl (haft ⟨31,.guard⟩ (by simp) rfl)
  refine wpOp_gval ho (wanted_of rfl og31 rfl eg) (v:=.pointer (some ⟨rM,0,none⟩)) (w':=W) ?_ ⟨_,rfl,rfl,hG.quiet (by omega)⟩
  simp [execOp,Act.eval,e119,go_sem]
 ·obtain rfl:=Option.some.inj (ho.symm.trans (T 48 _ rfl))
  have e120:a'.tmps.getD 120 undef=.pointer (some ⟨rM,0,none⟩):=hF.done 47 120 rfl (haft ⟨47,.data⟩ (by simp) rfl)
  have eg:a'.tmps.getD 104 undef=.bool false:=hF.done 31 104 rfl (haft ⟨31,.guard⟩ (by simp) rfl)
  refine wpOp_gval ho (wanted_of rfl og31 rfl eg) (v:=.pointer (some ⟨rM,12,none⟩)) (w':=W) ?_ ⟨_,rfl,rfl,hG.quiet (by omega)⟩
  simp [execOp,Act.eval,e120,go_sem]
 ·obtain rfl:=Option.some.inj (ho.symm.trans (T 49 _ rfl))
  have e121:a'.tmps.getD 121 undef=.pointer (some ⟨rM,12,none⟩):=hF.done 48 121 rfl (haft ⟨48,.data⟩ (by simp) rfl)
  have eg:a'.tmps.getD 104 undef=.bool false:=hF.done 31 104 rfl (haft ⟨31,.guard⟩ (by simp) rfl)
  have n51:¬ DoneAt listed 51:=fun hd=>hnd (done_before cov51 hcl hd 49 (by omega))
  have h28:=done_before cov31 hcl (haft ⟨31,.guard⟩ (by simp) rfl) 28 (by omega)
  have hS:S2 W∨S3 W:=by
   by_cases h41:DoneAt listed 41
   ·exact .inr (hG.s3 h41 n51)
   ·exact .inl (hG.s2 h28 h41)
  obtain⟨ad,cap,hc⟩:=ht2 W hS
  refine wpOp_gval ho (wanted_of rfl og31 rfl eg) (v:=.slice ad k2 cap) (w':=W) ?_ ⟨_,rfl,⟨ad,cap,rfl⟩,hG.quiet (by omega)⟩
  simp [execOp,Act.eval,e121,hc,go_sem]
 ·obtain rfl:=Option.some.inj (ho.symm.trans (T 50 _ rfl))
  obtain⟨ad,cap,e122⟩:∃ ad cap,a'.tmps.getD 122 undef=.slice ad k2 cap:=hF.done 49 122 rfl (haft ⟨49,.data⟩ (by simp) rfl)
  have eg:a'.tmps.getD 104 undef=.bool false:=hF.done 31 104 rfl (haft ⟨31,.guard⟩ (by simp) rfl)
  refine wpOp_gval ho (wanted_of rfl og31 rfl eg) (v:=.int .i64 n2) (w':=W) ?_ ⟨_,rfl,rfl,hG.quiet (by omega)⟩
  simp [Act.eval,e122,go_sem,hk2]
 ·obtain rfl:=Option.some.inj (ho.symm.trans (T 51 _ rfl))
  have e115:a'.tmps.getD 115 undef=.pointer (some ⟨c,0,none⟩):=hF.done 42 115 rfl (haft ⟨42,.data⟩ (by simp) rfl)
  have e123:a'.tmps.getD 123 undef=.int .i64 n2:=hF.done 50 123 rfl (haft ⟨50,.data⟩ (by simp) rfl)
  have eg:a'.tmps.getD 104 undef=.bool false:=hF.done 31 104 rfl (haft ⟨31,.guard⟩ (by simp) rfl)
  have hS:S3 W:=hG.s3 (haft ⟨41,.chain⟩ (by simp) rfl) hnd
  refine wpOp_call ho (wanted_of rfl og31 rfl eg) (f:=44) (args:=#[.pointer (some ⟨c,0,none⟩),.int .i64 n2]) (v:=.int .i64 rc) ?_ (hd3 W hS) ?_
  ·simp [Act.eval,e115,e123,go_sem]
  ·intro w2 hw2
   have hsz2:51<listed.size:=by rw [hls,size17];omega
   have d51:DoneAt (listed.setIfInBounds 51 true) 51:=done_self hsz2
   have a7:DoneAt listed 7:=done_before cov31 hcl (haft ⟨31,.guard⟩ (by simp) rfl) 7 (by omega)
   have a28:DoneAt listed 28:=done_before cov31 hcl (haft ⟨31,.guard⟩ (by simp) rfl) 28 (by omega)
   have a41:DoneAt listed 41:=haft ⟨41,.chain⟩ (by simp) rfl
   exact⟨_,rfl,rfl,⟨fun h=>(h (done_mono a7)).elim,fun _ h=>(h (done_mono a28)).elim,fun _ h=>(h (done_mono a41)).elim,fun _ h=>(h d51).elim,fun _=>hw2⟩⟩
 ·obtain rfl:=Option.some.inj (ho.symm.trans (T 52 _ rfl))
  have e114:a'.tmps.getD 114 undef=errV rc:=hF.done 41 114 rfl (haft ⟨41,.data⟩ (by simp) rfl)
  have e124:a'.tmps.getD 124 undef=.int .i64 rc:=hF.done 51 124 rfl (haft ⟨51,.data⟩ (by simp) rfl)
  have eg:a'.tmps.getD 104 undef=.bool false:=hF.done 31 104 rfl (haft ⟨31,.guard⟩ (by simp) rfl)
  have a51:DoneAt listed 51:=haft ⟨51,.data⟩ (by simp) rfl
  have hall:=done_before cov51 hcl a51
  refine wpOp_call ho (wanted_of rfl og31 rfl eg) (f:=40) (args:=#[errV rc,.int .i64 rc]) (v:=.bool true) ?_ (hd4 W (hG.s4 a51)) ?_
  ·simp [Act.eval,e114,e124,go_sem]
  ·intro w2 hw2
   exact⟨_,rfl,rfl,⟨fun h=>(h (done_mono (hall 7 (by omega)))).elim,fun _ h=>(h (done_mono (hall 28 (by omega)))).elim,fun _ h=>(h (done_mono (hall 41 (by omega)))).elim,fun _ h=>(h (done_mono a51)).elim,fun _=>hw2⟩⟩
 ·obtain rfl:=Option.some.inj (ho.symm.trans (T 53 _ rfl))
  have e125:a'.tmps.getD 125 undef=.bool true:=hF.done 52 125 rfl (haft ⟨52,.data⟩ (by simp) rfl)
  have eg:a'.tmps.getD 104 undef=.bool false:=hF.done 31 104 rfl (haft ⟨31,.guard⟩ (by simp) rfl)
  refine wpOp_gval ho (wanted_of rfl og31 rfl eg) (v:=.bool false) (w':=W) ?_ ⟨_,rfl,rfl,hG.quiet (by omega)⟩
  simp [execOp,Act.eval,e125,go_sem]
 ·obtain rfl:=Option.some.inj (ho.symm.trans (T 54 _ rfl))
  have e104:a'.tmps.getD 104 undef=.bool false:=hF.done 31 104 rfl (haft ⟨31,.data⟩ (by simp) rfl)
  have e126:a'.tmps.getD 126 undef=.bool false:=hF.done 53 126 rfl (haft ⟨53,.data⟩ (by simp) rfl)
  refine wpOp_gval ho (wanted_none rfl) (v:=.bool false) (w':=W) ?_ ⟨_,rfl,rfl,hG.quiet (by omega)⟩
  simp [execOp,Act.eval,e104,e126,go_sem]
end Go.Proofs.YtjefgmeejhakbaaGreatDoor
