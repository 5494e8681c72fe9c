/- The two functions that engine.those is asked with. -/
import Derived.Test.YtjefgmeejhakbabGreatDoorEnThose
import Derived.LaidEqlPtr
namespace Go.Proofs.YtjefgmeejhakbabGreatDoor
open Go.RowKit
set_option maxRecDepth 100000 in
set_option maxHeartbeats 1000000 in
theorem writesC_any {W:World} {n:Int} {l:TxL} {t:Tx} (hA:TxAt W n l t) {kb:Nat} {key:Int} (ck:W.cell? ⟨kb,0,none⟩=some (.int .i64 key)) (hk:I64 key) :
  Calls Tryz.prog 262 #[.pointer (some ⟨l.b,0,none⟩),.pointer (some ⟨kb,0,none⟩)] W fun e w'=>e=.returned (.bool (writesB key t))∧∃ q,w'=W.drewN q:=by
 have c8:=hA.c8
 have c1:=hA.c1
 have hl:=fun q=>(hA.va.same (w':=W.drewN q) rfl).look Tryz.underlying131 (zeroI _) hk
 have HL:=hid (fun q=>lives_any l.b t.state (W.drewN q) (by rw [World.cell?_drewN];exact hA.c3))
 have e1:((t.vals key).map (Value.int .i64)).isSome=(t.vals key).isSome:=by cases t.vals key<;>rfl
 unfold writesB
 rw [e1] at hl
 obtain⟨va,hva⟩:∃ va,((t.vals key).map (Value.int .i64)).getD (.int .i64 0)=va:=⟨_,rfl⟩
 obtain⟨vb,hvb⟩:∃ vb,(t.vals key).isSome=vb:=⟨_,rfl⟩
 obtain⟨lv,hlv⟩:∃ lv,t.level=lv:=⟨_,rfl⟩
 obtain⟨st,hst⟩:∃ st,liveB t.state=st:=⟨_,rfl⟩
 rw [hst] at HL
 rw [hlv] at c1
 rw [hva,hvb] at hl
 rw [hvb,hlv,hst]
 clear hA e1 hva hvb hlv hst
 go_enter Tryz.func262,Tryz.ntmps262
 go_wp2
 go_quiet (fail)
 cases vb with
 | false =>
  go_wp2
  go_ret
  exact⟨rfl,_,rfl⟩
 | true =>
  by_cases h2:lv=2
  ·subst h2
   go_wp2_with (first | (go_at_call 170;refine (HL.out _).mono ?_;rintro e w1 ⟨rfl,rfl⟩))
   go_ret
   exact⟨by simp,_,rfl⟩
  ·have e2:(lv==2)=false:=by simpa using h2
   clear h2
   go_wp2
   go_ret
   exact⟨by simp [e2],_,rfl⟩
theorem neq_ptr {W:World} {b bi:Nat} {ca cb:Array Value} {ta tb:TypeId} (ha:W.heap[b]?=some (.cells ca ta (0,0))) (hb:W.heap[bi]?=some (.cells cb tb (0,0))) :
  (binOp .neq 239 (.pointer (some ⟨b,0,none⟩)) (.pointer (some ⟨bi,0,none⟩))).run Tryz.prog W=.ok (.bool (decide (b≠bi))) W:=by
 have h22:(Tryz.prog.info? 259).map (·.size)=some 22:=by kernel_rfl
 obtain⟨j,hj⟩:∃ j,Tryz.prog.info? 259=some j:=by
  cases hj:Tryz.prog.info? 259 with
  | none=>rw [hj] at h22;cases h22
  | some j=>exact⟨j,rfl⟩
 have hz:j.size≠0:=by
  rw [hj] at h22
  simp at h22
  omega
 have h:∀ d:Nat,(Op.equalIn (d+1) 239 (.pointer (some ⟨b,0,none⟩)) (.pointer (some ⟨bi,0,none⟩))).run Tryz.prog W=.ok (decide (b=bi)) W:=fun d=>by
  by_cases e:b=bi
  ·subst e
   simp [Op.equalIn,run_underlying Tryz.underlying239,sizeOf,typeInfo,hj,run_sameAddr_same]
  ·have hne:(⟨b,0,none⟩:Addr)≠⟨bi,0,none⟩:=fun e1=>e (by injection e1)
   simp [Op.equalIn,run_underlying Tryz.underlying239,sizeOf,typeInfo,hj,hz,run_sameAddr_other W hne ha hb,e]
 simp only [binOp]
 simp [Op.equal,Op.maxDepth,h 9999]
def readB (sb d:Bool) (lv st:Int) (wo:Bool):Bool:=sb&&(d&&(lv==2&&(decide (st≠3)&&!wo)))
set_option maxRecDepth 100000 in
set_option maxHeartbeats 2000000 in
theorem readsC_any {W:World} {b bi kb tb k:Nat} {sb:Bool} {lv st bae n:Int} {ca cb:Array Value} {ta tc:TypeId} (ha:W.heap[b]?=some (.cells ca ta (0,0))) (hbi:W.heap[bi]?=some (.cells cb tc (0,0))) (cs:W.cell? ⟨b,10+k,none⟩=some (.bool sb)) (c1:W.cell? ⟨b,1,none⟩=some (.int .i64 lv)) (c3:W.cell? ⟨b,3,none⟩=some (.int .i64 st)) (c5:W.cell? ⟨b,5,none⟩=some (.int .i64 bae))
  (d0:W.cell? ⟨bi,0,none⟩=some (.int .i64 n)) (ck:W.cell? ⟨kb,0,none⟩=some (.int .i64 (k:Int))) (ct:W.cell? ⟨tb,0,none⟩=some (.pointer (some ⟨bi,0,none⟩))) (hk:k<10) :
  Calls Tryz.prog 362 #[.pointer (some ⟨b,0,none⟩),.pointer (some ⟨kb,0,none⟩),.pointer (some ⟨tb,0,none⟩)] W fun e w'=>e=.returned (.bool (readB sb (decide (b≠bi)) lv st (!liveB st&&decide (bae<n))))∧∃ q,w'=W.drewN q:=by
 have HW:=hid (fun q=>wasOver_any (w:=W.drewN q) (b1:=b) (b2:=bi) (by rw [World.cell?_drewN];exact c3) (by rw [World.cell?_drewN];exact c5) (by rw [World.cell?_drewN];exact d0))
 have hq:=fun q=>neq_ptr (W:=W.drewN q) ha hbi
 have hk0:(0:Int)≤(k:Int):=by omega
 have hk1:(k:Int)<10:=by omega
 clear ha hbi
 obtain⟨wo,hwo⟩:∃ wo,(!liveB st&&decide (bae<n))=wo:=⟨_,rfl⟩
 rw [hwo] at HW ⊢
 clear hwo c5 d0
 unfold readB
 cases sb with
 | false =>
  go_enter Tryz.func362,Tryz.ntmps362
  go_wp2
  go_quiet (fail)
  go_wp2
  go_ret
  exact⟨rfl,_,rfl⟩
 | true =>
  by_cases hb:b=bi
  ·subst hb
   have e0:decide (b≠b)=false:=by simp
   rw [e0] at hq ⊢
   clear e0
   go_enter Tryz.func362,Tryz.ntmps362
   go_wp2
   go_quiet (fail)
   go_wp2
   go_ret
   exact⟨rfl,_,rfl⟩
  ·have e0:decide (b≠bi)=true:=by simpa using hb
   rw [e0] at hq ⊢
   clear e0
   by_cases h2:lv=2
   ·subst h2
    by_cases h3:st=3
    ·subst h3
     go_enter Tryz.func362,Tryz.ntmps362
     go_wp2
     go_quiet (fail)
     go_wp2
     go_ret
     exact⟨rfl,_,rfl⟩
    ·have e3:(st != 3)=true:=by simpa using h3
     rw [show decide (st≠3)=true from by simpa using h3]
     clear h3
     go_enter Tryz.func362,Tryz.ntmps362
     go_wp2
     go_quiet (first | (go_at_call 363;refine Calls.quiet_of (HW.out _)))
     go_wp2
     go_ret
     exact⟨by simp,_,rfl⟩
   ·have e2:(lv==2)=false:=by simpa using h2
    rw [e2]
    clear h2
    go_enter Tryz.func362,Tryz.ntmps362
    go_wp2
    go_quiet (fail)
    go_wp2
    go_ret
    exact⟨rfl,_,rfl⟩
end Go.Proofs.YtjefgmeejhakbabGreatDoor
