/- QuietLast EnInst EnCom EnNew EnSweep: put together for a claim. -/
import Derived.Test.YtjefgmeejhakbabGreatDoorMgAD
import Derived.BigQuiet
import Derived.Test.YtjefgmeejhakbabGreatDoorMgAE
namespace Go.Proofs.YtjefgmeejhakbabGreatDoor
open Go
def guardsB (l:List Oper):Bool:=l.all (fun o=>match o.guard with
 | none=>true
 | some (j,_)=>decide (j<l.length))
def covB (ops:Array Oper) (j:Nat):Bool:=(List.range j).all (fun i=>(List.range (j-i)).any (fun d=>match ops[i+1+d]? with
 | some o=>o.after.toList.any (fun e=>Region.binds .any e&&e.on==i)
 | none=>false))
theorem cov_done {ops:Array Oper} {j:Nat} (h:covB ops j=true) {listed:Array Bool} (hc:ClosedAt ops listed) (hj:∀ o,ops[j]?=some o→∀ e∈o.after,Region.binds .any e=true→DoneAt listed e.on):∀ i,i<j→DoneAt listed i:=by
 have key:∀ (d i:Nat),i<j→j-i≤d→DoneAt listed i:=by
  intro d
  induction d with
  | zero=>intro i hi h0;omega
  | succ d ih =>
   intro i hi hd
   unfold covB at h
   have h1:=List.all_eq_true.1 h i (List.mem_range.2 hi)
   obtain⟨x,hx,h2⟩:=List.any_eq_true.1 h1
   have hx:=List.mem_range.1 hx
   cases ho:ops[i+1+x]? with
   | none=>rw [ho] at h2;cases h2
   | some o =>
    rw [ho] at h2
    simp only at h2
    obtain⟨e,he,h3⟩:=List.any_eq_true.1 h2
    simp only [Bool.and_eq_true,beq_iff_eq] at h3
    have he':e∈o.after:=by simpa using he
    rw [← h3.2]
    by_cases hij:i+1+x=j
    ·exact hj o (by rw [← hij];exact ho) e he' h3.1
    ·exact hc _ o ho (ih (i+1+x) (by omega) (by omega)) e he' h3.1
 exact fun i hi=>key (j-i) i hi (Nat.le_refl _)
section
variable {P:Program} {Q:Exit→Act→World→Prop} {C:World→Prop} {l m:List Oper}
theorem app_get {i:Nat} (hi:i<l.length):(l++m).toArray[i]?=l.toArray[i]?:=by
 simp only [List.getElem?_toArray]
 rw [List.getElem?_append_left hi]
theorem app_wanted (hg:guardsB l=true) {i:Nat} {o:Oper} (ho:l.toArray[i]?=some o) (tmps:Array Value):Region.wanted o (yielded (l++m).toArray tmps)=Region.wanted o (yielded l.toArray tmps):=by
 unfold guardsB at hg
 have hm:o∈l:=List.mem_of_getElem? (by simpa using ho)
 have h1:=List.all_eq_true.1 hg o hm
 unfold Region.wanted
 cases hgd:o.guard with
 | none=>rfl
 | some p =>
  obtain⟨j,b⟩:=p
  rw [hgd] at h1
  simp only [decide_eq_true_eq] at h1
  simp only
  unfold yielded
  rw [app_get h1]
theorem app_wpOp (hg:guardsB l=true) {i:Nat} (hi:i<l.length) {K:Act→World→Prop} {a:Act} {w:World} (h:wpOp P l.toArray Q i K a w):wpOp P (l++m).toArray Q i K a w:=by
 unfold wpOp at *
 rw [app_get hi]
 have hs:l.toArray[i]?=some l[i]:=by simp [hi]
 rw [hs] at h ⊢
 simp only at h ⊢
 rw [app_wanted hg hs]
 exact h
end
end Go.Proofs.YtjefgmeejhakbabGreatDoor
namespace Go.Proofs.YtjefgmeejhakbabGreatDoor
open Go.RowKit
variable {w w':World} {L:EnL} {E:Eng}
theorem writesP_nil {V:Int→Option Int} (hv:∀ k,V k≠none→0≤k∧k<10):writesP V=[]↔∀ a,V a=none:=by
 unfold writesP
 rw [List.map_eq_nil_iff]
 constructor
 ·intro h a
  cases ha:V a with
  | none=>rfl
  | some x =>
   have:=(mem_keysOf hv a).2 (by rw [ha];rfl)
   rw [h] at this
   cases this
 ·intro h
  unfold keysOf
  rw [List.filter_eq_nil_iff]
  intro a _
  rw [h a]
  simp
theorem vals_len {n:Int} {l:TxL} {t:Tx} (hA:TxAt w n l t):∃ k:Nat,k≤10∧(∀ ty,(Builtin.len_ #[131] ty #[.map (some l.vb)]).run Tryz.prog w=.ok (.int .i64 k) w)∧(k=0↔writesP t.vals=[]):=by
 obtain⟨k,h1,h2,h3⟩:=hA.va.len Tryz.underlying131
 refine⟨k,h1,h2,h3.trans ((writesP_nil hA.vk).trans ?_).symm⟩
 constructor
 ·intro h a;show (t.vals a).map _=none;rw [h a];rfl
 ·intro h a
  have:=h a
  cases hv:t.vals a with
  | none=>rfl
  | some x=>rw [hv] at this;cases this
theorem vrow_wrow {W:World} {g:Nat} {ws:List (Int × Int)} (h:∀ j u,(vrow ws)[j]?=some u→W.cell? ⟨g,j,none⟩=some u):WRow W g 0 ws:=fun j a v e=>by
 have hx:=vrow_get ws j a v e
 exact⟨by rw [Nat.zero_add];exact h _ _ hx.1,by rw [Nat.zero_add];exact h _ _ hx.2⟩
def FineV (t:Tx):Prop:=∀ k v,t.vals k=some v→-1099511627776≤v∧v≤1099511627776
theorem writesP_fine {t:Tx} (hv:∀ k,t.vals k≠none→0≤k∧k<10) (hf:FineV t):∀ p∈writesP t.vals,Fine p:=fun p hp=>by
 obtain⟨k,hk,rfl⟩:=List.mem_map.1 hp
 have h1:=(mem_keysOf hv k).1 hk
 cases hx:t.vals k with
 | none=>rw [hx] at h1;cases h1
 | some x =>
  have h2:=hv k (by rw [hx];exact nofun)
  have h3:=hf k x hx
  exact⟨by simp [keyB];omega,by simpa using h3.1,by simpa using h3.2⟩
set_option maxRecDepth 100000 in
set_option maxHeartbeats 2000000 in
theorem install_any (h:EnAt w L E) (hf:Fits E) {i:Nat} {l:TxL} {t:Tx} (hl:L.txs[i]?=some l) (ht:E.txs[i]?=some t) (hfv:FineV t) (hlast:0≤E.last∧E.last≤1099511627776) (hnw:E.nw≤1000000000) :
    Calls Tryz.prog 231 #[.pointer (some ⟨L.s,0,none⟩),.pointer (some ⟨l.b,0,none⟩)] w fun e w'=>e=.returned (.tuple #[])∧EnPost L (installE E i) w w':=by
  have hA:=h.txs i l t hl ht
  have c8:=hA.c8
  obtain⟨kk,hkk,hlen,hk0⟩:=vals_len hA
  have hI:installE E i=if writesP t.vals=[]∨1099511627776<E.last+1 then E else { E with last:=E.last+1,ks:=instP (E.last+1) (writesP t.vals) E.ks,wr:=updT E.wr (E.last+1) (some ((i:Int)+1)),nw:=E.nw+1 }:=by
    unfold installE;rw [ht]
  by_cases hz:kk=0
  · subst hz
    rw [hI,if_pos (.inl (hk0.1 rfl))]
    have HP:=hid (show EnPost L E w w from ⟨L,h,KeptO.refl _ _,rfl,rfl⟩)
    clear h hf hl ht hA hI hk0
    go_enter Tryz.func231,Tryz.ntmps231
    go_wp2
    refine bodyPost_ret (results_none rfl _ _ _) rfl ?_
    exact⟨rfl,HP.out⟩
  · have g0:((kk:Int)==0)=false:=by simp;omega
    have hwn:writesP t.vals≠[]:=fun e=>hz (hk0.2 e)
    have hwl:=writesP_len t.vals
    have HL:=hid (last_any _ _ _ _ _ w h.sto)
    have hd:Below w.heap.size w w.drew:=below_drewN (Below.refl _ w) 1
    have hW:Calls Tryz.prog 184 #[.pointer (some ⟨l.b,0,none⟩)] w.drew fun e w1=>∃ g cap,e=.returned (.slice (some ⟨g,0,none⟩) (writesP t.vals).length cap)∧Below w.heap.size w w1∧WRow w1 g 0 (writesP t.vals)∧w.heap.size≤g∧g<w1.heap.size:=by
      refine (writes_any ((h.below hd).txs i l t hl ht)).mono ?_
      rintro e w1 ⟨v,rfl,ho,hB⟩
      rcases row_slice ho with ⟨e1,e2⟩ | ⟨g,cap,e1,hg,hc⟩
      · exact (hwn (List.eq_nil_of_length_eq_zero e2)).elim
      · exact⟨g,cap,by rw [e1],hd.trans hB,vrow_wrow hc,(ho.lt g (by rw [e1];rfl)).1,hg⟩
    have HW:=hid hW
    have gw:IntKind.i64.wrap (E.last+1)=E.last+1:=IntWalk.i64_in _ (by omega)
    have HH:=hid h
    have HLL:=hid hl
    have HT:=hid ht
    by_cases hm:1099511627776<E.last+1
    · rw [hI,if_pos (.inr hm)]
      have HIN:=hid (fun W (hB:Below w.heap.size w W) lv=>install_order _ _ _ (E.last+1) lv _ _ W (h.below hB).sto (.inr hm))
      obtain⟨la,hla⟩:∃ la,E.last=la:=⟨_,rfl⟩
      rw [hla] at HL HIN gw
      clear h hf hl ht hA hI hk0 hW hm hla hlast hwn
      go_enter Tryz.func231,Tryz.ntmps231
      go_wp2_with fail
      refine HL.out.mono ?_
      rintro e w1 ⟨rfl,hw1⟩
      rw [hw1]
      clear hw1 w1
      go_wp2
      go_region_held3 (fun W=>True)
        (first | go_keep | trivial)
        (first | (go_at_call 184
                  refine HW.out.mono ?_
                  rintro e w2 ⟨g,cap,rfl,hB2,hws,hg1,hg2⟩
                  have HB2:=hid hB2
                  clear hB2 hws)
               | (go_at_call 258
                  refine (HIN.out w2 HB2.out _).mono ?_
                  rintro e w3 ⟨rfl,hw3⟩
                  rw [hw3]
                  clear hw3 w3))
      have HP:=hid (show EnPost L E w w2 from ⟨L,HH.out.below HB2.out,KeptO.of_below HB2.out,rfl,rfl⟩)
      go_wp2
      refine bodyPost_end (results_none rfl _ _ _) rfl ?_
      exact⟨rfl,HP.out⟩
    · rw [hI,if_neg (fun e=>e.elim hwn hm)]
      have HIN:=hid (show ∀ W g cap,Below w.heap.size w W→WRow W g 0 (writesP t.vals)→w.heap.size≤g→g<W.heap.size →
          Calls Tryz.prog 258 #[.pointer (some ⟨L.s,0,none⟩),.int .i64 (E.last+1),.slice (some ⟨g,0,none⟩) (writesP t.vals).length cap] W fun e w3=>e=.returned .nilIface∧∃ vs',
            EnAt w3 { L with vs:=vs' } { E with last:=E.last+1,ks:=instP (E.last+1) (writesP t.vals) E.ks }∧KeptO L.own ({ L with vs:=vs' }:EnL).own w w3 from fun W g cap hB hws hg1 hg2=>by
        have hE:=h.below hB
        refine (install_good _ _ g 0 cap _ (E.last+1) _ _ (writesP t.vals) W hE.sto (by have:=hE.sto.lt;omega) hws (fun hr=>by have:=(h.sto.row hr).2;omega) (by have:=h.sto.lt;omega) hg2 (writesP_fine hA.vk hfv) (by omega) (by omega) (by omega) hf.len).mono ?_
        rintro e w3 ⟨rfl,vs',hS,hK⟩
        obtain⟨h3,k3⟩:=hE.setSto hS hK
        exact⟨rfl,vs',h3,KeptO.below_l hB k3⟩)
      have hi64:I64 (E.last+1):=by unfold I64;omega
      have HIX:=hid hi64
      obtain⟨lz,hlz⟩:∃ lz,E.last=lz:=⟨_,rfl⟩
      rw [hlz] at HIN HIX gw HL ⊢
      clear h hf hl ht hA hI hk0 hW hm hlast hwn hi64 hlz
      go_enter Tryz.func231,Tryz.ntmps231
      go_wp2_with fail
      refine HL.out.mono ?_
      rintro e w1 ⟨rfl,hw1⟩
      rw [hw1]
      clear hw1 w1
      go_wp2
      go_region_held3 (fun W=>True)
        (first | go_keep | trivial)
        (first | (go_at_call 184
                  refine HW.out.mono ?_
                  rintro e w2 ⟨g,cap,rfl,hB2,hws,hg1,hg2⟩
                  have HB2:=hid (And.intro hB2 (And.intro hws (And.intro hg1 hg2)))
                  clear hB2 hws hg1 hg2)
               | (go_at_call 258
                  refine (HIN.out w2 g cap HB2.out.1 HB2.out.2.1 HB2.out.2.2.1 HB2.out.2.2.2).mono ?_
                  rintro e w3 ⟨rfl,vs',hE3,hK3⟩
                  have HE3:=hid (And.intro hE3 hK3)
                  clear hE3 hK3))
      have hE3:=HE3.out.1
      have c15:=hE3.c15
      have hA3:=hE3.txs (L:={ L with vs:=vs' }) i l t HLL.out HT.out
      have c0:=hA3.c0
      obtain⟨w4,hr,hE4,hK4⟩:=(hE3.below (w':=w3.drew) (below_drewN (Below.refl _ w3) 1)).setWr (x:=(i:Int)+1) HIX.out hnw
      have d15:=hE4.c15
      have hA4:=hE4.txs (L:={ L with vs:=vs' }) i l t HLL.out HT.out
      have d0:=hA4.c0
      have HP:=hid (show EnPost L _ w w4 from ⟨{ L with vs:=vs' },hE4,HE3.out.2.trans (KeptO.below_l (below_drewN (Below.refl _ w3) 1) hK4),rfl,rfl⟩)
      clear hE3 hA3 hE4 hK4 hA4
      go_wp2
      go_region_held3 (fun W=>W.cell? ⟨L.s,15,none⟩=some (.map (some L.wb))∧W.cell? ⟨l.b,0,none⟩=some (.int .i64 ((i:Int)+1)))
        (first | go_keep | exact⟨d15,d0⟩)
        (fail)
      go_wp2
      refine bodyPost_end (results_none rfl _ _ _) rfl ?_
      exact⟨rfl,HP.out⟩
end Go.Proofs.YtjefgmeejhakbabGreatDoor
namespace Go.Proofs.YtjefgmeejhakbabGreatDoor
open Go.RowKit
variable {w w':World} {L:EnL} {E:Eng}
set_option maxRecDepth 100000 in
set_option maxHeartbeats 1000000 in
theorem writesE_ok (h:EnAt w L E) {i:Nat} {t:Tx} (ht:E.txs[i]?=some t) :
  Calls Tryz.prog 176 #[.pointer (some ⟨L.s,0,none⟩),.int .i64 ((i:Int)+1)] w fun e w'=>∃ v,e=.returned (.tuple #[v,.nilIface])∧w'.ownsRow w.heap.size 122 2 v (writesP t.vals).length (vrow (writesP t.vals))∧Below w.heap.size w w':=by
 obtain⟨l,hl,hA⟩:=h.get ht
 have HO:=hid (find_ok h hl)
 have HW:=hid (writes_any hA)
 clear h ht hl hA
 go_enter Tryz.func176,Tryz.ntmps176
 go_wp2_with fail
 refine HO.out.mono ?_
 rintro e w1 ⟨rfl,hw1⟩
 rw [hw1]
 clear hw1 w1
 go_wp2_with fail
 refine HW.out.mono ?_
 rintro e w1 ⟨v,rfl,ho,hB⟩
 have HF:=hid (And.intro ho hB)
 clear ho hB HW
 go_wp2
 go_ret2
 exact⟨v,rfl,HF.out⟩
set_option maxRecDepth 100000 in
set_option maxHeartbeats 1000000 in
theorem writesE_err (h:EnAt w L E) {n:Int} (hn:n<1∨(E.txs.length:Int)<n) :
  Calls Tryz.prog 176 #[.pointer (some ⟨L.s,0,none⟩),.int .i64 n] w fun e w'=>e=.returned (.tuple #[.slice none 0 0,errV 7])∧w'=w:=by
 have HO:=hid (find_err h hn)
 rw [show errV 7=Value.iface 33 (.int .i64 7) from rfl] at HO ⊢
 clear h hn
 go_enter Tryz.func176,Tryz.ntmps176
 go_wp2_with fail
 refine HO.out.mono ?_
 rintro e w1 ⟨rfl,rfl⟩
 go_wp2
 go_ret2
 exact⟨rfl,rfl⟩
theorem installE_rest (E:Eng) (i:Nat):(installE E i).txs=E.txs∧(installE E i).com=E.com∧(installE E i).T=E.T:=by
 unfold installE
 split
 ·split<;>exact⟨rfl,rfl,rfl⟩
 ·exact⟨rfl,rfl,rfl⟩
set_option maxRecDepth 100000 in
set_option maxHeartbeats 1000000 in
theorem commit_shut (h:EnAt w L E) {n c:Int} (hc:(c=7∧(n<1∨(E.txs.length:Int)<n))∨(c=6∧∃ (i:Nat) (t:Tx),n=(i:Int)+1∧E.txs[i]?=some t∧t.state≠0)) :
  Calls Tryz.prog 178 #[.pointer (some ⟨L.s,0,none⟩),.int .i64 n] w fun e w'=>e=.returned (errV c)∧w'=w:=by
 have HO:Hid (Calls Tryz.prog 194 #[.pointer (some ⟨L.s,0,none⟩),.int .i64 n] w fun e w'=>e=.returned (.tuple #[.pointer none,errV c])∧w'=w):=by
  rcases hc with ⟨rfl,hn⟩ | ⟨rfl,i,t,rfl,ht,hs⟩
  ·exact open_err h hn
  ·obtain⟨l,hl,_⟩:=h.get ht
   exact open_state h hl ht hs
 have h0:c≠0:=by rcases hc with ⟨rfl,_⟩ | ⟨rfl,_⟩<;>decide
 rw [show errV c=Value.iface 33 (.int .i64 c) from if_neg h0] at HO ⊢
 clear h hc h0
 go_enter Tryz.func178,Tryz.ntmps178
 go_wp2_with fail
 refine HO.out.mono ?_
 rintro e w1 ⟨rfl,rfl⟩
 go_wp2
 go_ret
 exact⟨rfl,rfl⟩
set_option maxRecDepth 100000 in
set_option maxHeartbeats 4000000 in
theorem commit_main (h:EnAt w L E) (hf:Fits E) {f:Nat} {i:Nat} {t:Tx} (ht:E.txs[i]?=some t) (hs:t.state=0) (hfv:FineV t) (hlast:0≤E.last∧E.last≤1099511627776) (hnw:E.nw≤1000000000) (hcom:E.com.length≤1000000000)
    (hks:∀ l∈(installE E i).ks,l.length≤100000) {R:Int × Eng} (hR:commitE f E i=some R) :
    Calls Tryz.prog 178 #[.pointer (some ⟨L.s,0,none⟩),.int .i64 ((i:Int)+1)] w fun e w'=>e=.returned (errV R.1)∧EnPost L R.2 w w':=by
  obtain⟨i0,hi0,hz0,hz1,hz2⟩:=info_parts info239
  obtain⟨l,hl,hA⟩:=h.get ht
  have HO:=hid (open_ok h hl ht hs)
  have HB:=hid (between_any l.b l.ab l.hb 201 201 t.ahead t.behind w hA.c20 hA.c21 hA.ah hA.be)
  unfold commitE at hR
  rw [ht] at hR
  simp only at hR
  have HL:=hid hl
  have hbi:=bs_get hl
  cases hb:betB t.ahead t.behind with
  | true =>
    rw [hb] at HB hR
    rw [if_pos rfl] at hR
    obtain⟨E9,hE9,hR2⟩:∃ E9,endF f (loseE E i 13) i 3=some E9∧R=(13,E9):=by
      cases he:endF f (loseE E i 13) i 3 with
      | none=>rw [he] at hR;cases hR
      | some E9=>rw [he] at hR;simp at hR;exact⟨E9,rfl,hR.symm⟩
    have HC:=hid (lose_any (end_ok f) h hl ht 13 hf.len hE9)
    have HR2:=hid hR2
    clear h hf ht hs hfv hks hR hA hl hb hE9 hR2 hbi
    go_enter Tryz.func178,Tryz.ntmps178
    go_wp2_with fail
    refine HO.out.mono ?_
    rintro e w1 ⟨rfl,hw1⟩
    rw [hw1]
    clear hw1 w1
    go_wp2_with fail
    refine HB.out.mono ?_
    rintro e w1 ⟨rfl,hw1⟩
    rw [hw1]
    clear hw1 w1
    go_wp2_with fail
    refine HC.out.mono ?_
    rintro e w1 ⟨rfl,hP⟩
    have HP:=hid hP
    clear hP HC
    go_wp2
    go_ret
    rw [HR2.out]
    exact⟨rfl,HP.out⟩
  | false =>
    rw [hb] at HB hR
    rw [if_neg (by simp)] at hR
    obtain⟨E9,hE9,hR2⟩:∃ E9,endF f { (installE E i) with com:=E.com++[i] } i 2=some E9∧R=(0,E9):=by
      cases he:endF f { (installE E i) with com:=E.com++[i] } i 2 with
      | none=>rw [he] at hR;cases hR
      | some E9=>rw [he] at hR;simp at hR;exact⟨E9,rfl,hR.symm⟩
    have HI:=hid (install_any h hf hl ht hfv hlast hnw)
    have HR2:=hid hR2
    have hir:=installE_rest E i
    have HE9:=hid hE9
    have HKS:=hid hks
    have hlb:l.b=l.b:=rfl
    clear h hf ht hs hfv hks hR hA hl hb hE9 hR2
    go_enter Tryz.func178,Tryz.ntmps178
    go_wp2_with fail
    refine HO.out.mono ?_
    rintro e w1 ⟨rfl,hw1⟩
    rw [hw1]
    clear hw1 w1
    go_wp2_with fail
    refine HB.out.mono ?_
    rintro e w1 ⟨rfl,hw1⟩
    rw [hw1]
    clear hw1 w1
    go_wp2_with fail
    refine HI.out.mono ?_
    rintro e w1 ⟨rfl,L1,hE1,hK1,hs1,hb1⟩
    obtain⟨l1,hl1,hlb1⟩:∃ l1,L1.txs[i]?=some l1∧l1.b=l.b:=by
      have:L1.bs[i]?=some l.b:=by rw [hb1];exact hbi
      simp only [EnL.bs,List.getElem?_map,Option.map_eq_some_iff] at this
      exact this
    have c16:=hE1.c16
    have hf16:w1.frozen? ⟨L1.s,16,none⟩=false:=hE1.sto.free 16
    have hrow:=hE1.com
    obtain⟨ad,cap,hcv⟩:=row_form hrow
    obtain⟨m,hm⟩:∃ m,(installE E i).com.length=m:=⟨_,rfl⟩
    have hm2:m≤1000000000:=by rw [← hm,hir.2.1];exact hcom
    rw [hm] at hrow hcv
    rw [hcv] at c16
    rw [hs1] at c16 hf16
    have hsl:L.s<w1.heap.size:=by have:=hE1.sto.lt;rw [hs1] at this;exact this
    have hcs:L1.cv.ownBlock≠some L.s:=fun e=>by
      obtain⟨ρ,T⟩:=hE1.tag
      have h1:=T.com _ e
      have h2:=T.eng
      rw [hs1] at h2
      rw [h2] at h1;cases h1
    have HE1:=hid hE1
    have HK1:=hid hK1
    have HL1:=hid (And.intro hl1 hlb1)
    have HM:=hid hm
    have HCV:=hid hcv
    have HSB:=hid (And.intro hs1 hb1)
    have HCS:=hid hcs
    rw [hcv] at hrow hcs
    have HROW:=hid hrow
    have HCS2:=hid hcs
    clear hE1 hK1 hl1 hlb1 hrow hm hcv hs1 hb1 hcs HI
    go_wp2_with (at_builtin;refine wpList_append_lies _ rfl _ _ _ rfl 0 239 i0 _ 1 8 Tryz.underlying251 hi0 hz0 hz1 hz2 rfl (by omega) (.slice ad m cap) _ _ rfl (HROW.out.alloc _) ⟨w1.heap.size,0,none⟩ 1 1 [.pointer (some ⟨l.b,0,none⟩)] rfl rfl (World.news_of_block (cs:=#[.pointer (some ⟨l.b,0,none⟩)]) (t:=239) (fr:=(0,0)) (heap_alloc_new w1 _)) (by simp [Value.oneCell']) (by omega) (by unfold maxLen;omega) (by omega) (by simp) (w1.heap.size+1) (by simp) ?_;intro gg cap' w2 ho hgrow hat hlt2;have hsb:w2.heap[L.s]?=w1.heap[L.s]?:=(hgrow.block L.s (by simp;omega) (fun e=>HCS2.out e.symm)).trans (Below.heap_alloc w1 _ L.s hsl);have d16:=(World.cell?_of_block (a:=⟨L.s,16,none⟩) hsb).trans c16;have e16:=(World.frozen?_of_block (a:=⟨L.s,16,none⟩) hsb).trans hf16;clear hsb)
    have hcb:L1.cv.ownBlock=(Value.slice ad m cap).ownBlock:=by rw [HCV.out]
    obtain⟨h3,k3⟩:=HE1.out.addCom HL1.out.1 HM.out (w1:=w2) (gg:=gg) (cap:=cap') (by rw [HL1.out.2];exact ho) ⟨hgrow.os,hgrow.tape,hgrow.output⟩ (by have:=hgrow.size;simp at this;omega)
      (fun g hg hne=>(hgrow.block g (by simp;omega) (fun e=>hne (by rw [hcb];exact e.symm))).trans (Below.heap_alloc w1 _ g hg)) (by
        rcases hat with h1 | h1
        · exact .inl (by rw [hcb];exact h1)
        · exact .inr (by omega))
    rw [show ({ (installE E i) with com:=(installE E i).com++[i] }:Eng)={ (installE E i) with com:=E.com++[i] } from by rw [hir.2.1]] at h3
    have hend:=end_ok f _ _ _ E9 i l.b 2 h3 (by show L1.bs[i]?=some l.b;rw [HSB.out.2];exact hbi) HKS.out HE9.out
    rw [show ({ L1 with cv:=.slice (some ⟨gg,0,none⟩) (m+1) cap' }:EnL).s=L.s from HSB.out.1] at hend
    rw [HSB.out.1] at k3
    have HC:=hid hend
    have HK3:=hid (HK1.out.trans k3)
    clear h3 k3 hend hcb ho hgrow hat
    go_wp2_with fail
    refine HC.out.mono ?_
    rintro e w4 ⟨rfl,L4,hE4,hK4,hs4,hb4⟩
    have HP:=hid (show EnPost L E9 w w4 from ⟨L4,hE4,HK3.out.trans hK4,hs4,hb4.trans HSB.out.2⟩)
    clear hE4 hK4 hs4 hb4 HC
    go_wp2
    go_ret
    rw [HR2.out]
    exact⟨rfl,HP.out⟩
end Go.Proofs.YtjefgmeejhakbabGreatDoor
namespace Go.Proofs.YtjefgmeejhakbabGreatDoor
open Go.RowKit
variable {w w':World} {L:EnL} {E:Eng}
def eng0:Eng:=⟨0,List.replicate 10 [],fun _=>[],[],fun _=>none,[],0⟩
def enL0 (s wb:Nat):EnL:=⟨s,List.replicate 10 (.slice none 0 0),noM,.slice none 0 0,wb,.slice none 0 0,[]⟩
def enCells0 (wb:Nat):Array Value:=#[.int .i64 0,.slice none 0 0,.slice none 0 0,.slice none 0 0,.slice none 0 0,.slice none 0 0,.slice none 0 0,.slice none 0 0,.slice none 0 0,.slice none 0 0,.slice none 0 0,.map none,.map none,.map none,.slice none 0 0,.map (some wb),.slice none 0 0]
theorem good0:Good (fun _=>[]):=⟨⟨fun _ h=>(h rfl).elim,fun _ _ h=>(by cases h),fun _=>List.Pairwise.nil,fun _ _ _ h=>(by cases h)⟩,fun _=>0,fun _ _ h=>(by cases h)⟩
theorem enAt0 {s wb:Nat} (hs:w.heap[s]?=some (.cells (enCells0 wb) 253 (0,0))) (hI:IMap w wb 0 (fun _=>none)):EnAt w (enL0 s wb) eng0:=by
 have hne:wb≠s:=hI.ne hs
 have hrep:∀ {k:Nat} {v:Value},(List.replicate 10 (Value.slice none 0 0))[k]?=some v→v=.slice none 0 0:=fun {k v} h=>by
  rw [List.getElem?_replicate] at h
  split at h
  ·injection h with h;exact h.symm
  ·cases h
 refine⟨⟨hs,rfl,rfl,fun k v l hv hl=>?_,fun i j v u g hv _ hg _=>?_,Nat.lt_succ_self _⟩,⟨_,_,_,Raw.zero (C:=(enL0 s wb).C 0) hs |>.mono (Nat.zero_le _),?_⟩,good0,fun k x h=>(by cases h),?_,rfl,by decide,hI,?_,fun i h=>(by cases h),fun i l t hl _=>(by cases hl),⟨fun g=>if g=s then .eng else .wr,?_⟩⟩
 ·rw [hrep hv]
  have:l=[]:=by
   rw [show eng0.ks=List.replicate 10 [] from rfl,List.getElem?_replicate] at hl
   split at hl
   ·injection hl with hl;exact hl.symm
   ·cases hl
  subst this
  show w.ownsRow (s+1) 198 2 (.slice none 0 0) 0 []
  exact World.ownsRow_nil w (s+1) 198 2
 ·rw [hrep hv] at hg;cases hg
 ·exact⟨fun _=>rfl,fun x=>by
   have:waitsP (fun _=>[]) x=-1:=(waits_none_iff good0.tidy).2 (fun k h=>by cases h)
   exact⟨this.symm,fun _=>this,fun _=>rfl⟩,fun _=>rfl⟩
 ·simpa [enL0,EnL.bs] using World.ownsRow_nil w 0 239 1
 ·simpa [enL0,EnL.bs,eng0] using World.ownsRow_nil w 0 239 1
 ·refine⟨by simp [enL0],fun g hg=>?_,fun g hg hn=>?_,fun g hg=>(by cases hg),by simp [enL0,hne],fun g hg=>(by cases hg),fun i l g hl _=>(by cases hl)⟩
  ·obtain⟨v,hv,hg⟩:=hg
   rw [List.eq_of_mem_replicate hv] at hg
   cases hg
  ·rcases hg with h1 | h1 | h1 | h1 | ⟨_,_,h1,_⟩
   ·exact (hn h1).elim
   ·cases h1
   ·cases h1
   ·cases h1
   ·cases h1
set_option maxRecDepth 100000 in
set_option maxHeartbeats 1000000 in
theorem new_any (w:World):Calls Tryz.prog 257 #[] w fun e w'=>∃ L,e=.returned (.pointer (some ⟨L.s,0,none⟩))∧EnAt w' L eng0∧Below w.heap.size w w'∧∀ g,L.own g→w.heap.size≤g:=by
 have hI:=IMap.made w
 have h2:((w.alloc (.map #[] 0)).alloc (.cells (enCells0 w.heap.size) 253)).heap[w.heap.size+1]?=some (.cells (enCells0 w.heap.size) 253 (0,0)):=by
  have:=heap_alloc_new (w.alloc (.map #[] 0)) (.cells (enCells0 w.heap.size) 253)
  rwa [World.size_alloc] at this
 have HE:=hid (enAt0 h2 (hI.same (Below.heap_alloc _ _ w.heap.size (by simp))))
 have HB:=hid (show Below w.heap.size w ((w.alloc (.map #[] 0)).alloc (.cells (enCells0 w.heap.size) 253)) from ((Below.refl _ w).alloc (Nat.le_refl _) _).alloc (by simp) _)
 have hmm:=@run_makeMap Tryz.prog
 clear hI h2
 go_enter Tryz.func257,Tryz.ntmps257
 go_wp2
 go_ret
 refine⟨enL0 (w.heap.size+1) w.heap.size,rfl,HE.out,HB.out,fun g hg=>?_⟩
 rcases hg with h1 | h1 | h1 | h1 | h1 | h1 | ⟨_,h1,_⟩
 ·rw [h1];exact Nat.le_succ _
 ·obtain⟨v,hv,hg⟩:=h1
  rw [List.eq_of_mem_replicate hv] at hg
  cases hg
 ·rcases h1 with h1 | h1 | h1 | h1 | ⟨_,_,h1,_⟩
  ·rw [h1];exact Nat.le_succ _
  ·cases h1
  ·cases h1
  ·cases h1
  ·cases h1
 ·cases h1
 ·rw [h1];exact Nat.le_refl _
 ·cases h1
 ·cases h1
end Go.Proofs.YtjefgmeejhakbabGreatDoor
namespace Go.Proofs.YtjefgmeejhakbabGreatDoor
open Go.RowKit
variable {w w':World} {L:EnL} {E:Eng}
def leastOf (E:Eng) (js:List Nat) (m:Int):Int:=js.foldl (fun m j=>match E.txs[j]? with
 | some t=>if t.level≠0 then min m t.start else m
 | none=>m) m
def liveOnes (E:Eng):List Nat:=thoseP E (fun _ t=>liveB t.state)
def leastE (E:Eng):Int:=leastOf E (liveOnes E) E.last
def sweepE (E:Eng):Eng:={ E with ks:=E.ks.map (sweepL (leastE E)) }
set_option maxRecDepth 100000 in
set_option maxHeartbeats 2000000 in
theorem sweepE_any (h:EnAt w L E) (hf:Fits E) :
  Calls Tryz.prog 121 #[.pointer (some ⟨L.s,0,none⟩)] w fun e w'=>e=.returned (.int .i64 (sweepN (leastE E) E.ks:Nat))∧EnPost L (sweepE E) w w':=by
 have HL:=hid (last_any _ _ _ _ _ w h.sto)
 have HT:=hid (those_lives h (fun _ t=>liveB t.state) (fun W hW i l t hl ht=>(lives_any l.b t.state W ((h.below hW).txs i l t hl ht).c3).mono (fun e w' hh=>⟨hh.1,0,hh.2⟩)))
 have hjl:(liveOnes E).length≤200:=by
  have:=thoseN_len E (fun _ t=>liveB t.state) E.txs.length
  rw [thoseN_all] at this
  have:=h.le
  unfold liveOnes
  omega
 have HJ:=hid (show ∀ j∈liveOnes E,∃ t,E.txs[j]?=some t from fun j hj=>by
  obtain⟨t,ht,_⟩:=mem_thoseP hj
  exact⟨t,ht⟩)
 have HSW:=hid (fun W (hB:Below w.heap.size w W) t=>sweep_any _ _ _ t _ _ W (h.below hB).sto (by have:=(h.below hB).sto.lt;omega) (fun l hl=>Nat.le_trans (hf.len l hl) (by omega)))
 have HH:=hid h
 unfold sweepE leastE
 rw [show thoseP E (fun _ t=>liveB t.state)=liveOnes E from rfl] at HT
 obtain⟨js,hjs⟩:∃ js,liveOnes E=js:=⟨_,rfl⟩
 rw [hjs] at HT hjl HJ ⊢
 obtain⟨lz,hlz⟩:∃ lz,E.last=lz:=⟨_,rfl⟩
 rw [hlz] at HL ⊢
 have HLZ:=hid hlz
 clear h hf hjs hlz
 go_enter Tryz.func121,Tryz.ntmps121
 go_wp2_with fail
 refine HL.out.mono ?_
 rintro e w1 ⟨rfl,hw1⟩
 rw [hw1]
 clear hw1 w1
 go_wp2_with fail
 refine HT.out.mono ?_
 rintro e w1 ⟨v,rfl,ho,hB1⟩
 obtain⟨ad,cap,rfl⟩:=row_form ho
 have hadg:Hid (∀ j x,js[j]?=some x→∃ g,ad=some ⟨g,0,none⟩∧w1.cell? ⟨g,j,none⟩=some (.pointer (some ⟨L.bs[x]?.getD 0,0,none⟩))):=fun j x hx=>by
  rcases row_slice ho with ⟨e1,e2⟩ | ⟨g,cap',e1,hg,hc⟩
  ·have:=(List.getElem?_eq_some_iff.1 hx).1;omega
  ·injection e1 with e1
   exact⟨g,e1,hc j _ (show (L.ptrs js)[j]?=some (ptrV (L.bs[x]?.getD 0)) from by simp [EnL.ptrs,hx])⟩
 have HB1:=hid hB1
 have HE1:=hid (HH.out.below hB1)
 clear ho hB1 HT
 go_wp2
 go_loop [3,13] (fun mv iv=>∃ (j:Nat) (m:Int),j≤js.length∧iv=.int .i64 j∧mv=.int .i64 m∧leastOf E (js.drop j) m=leastOf E js lz) (fun _ iv=>js.length-(intOf iv).toNat)
 case atStart=>exact⟨0,lz,by omega,rfl,rfl,by simp⟩
 case round =>
  obtain⟨j,m,hj,rfl,rfl,hrest⟩:=hrel
  by_cases hlt:j<js.length
  ·obtain⟨x,hx⟩:∃ x,js[j]?=some x:=⟨js[j],List.getElem?_eq_getElem hlt⟩
   obtain⟨g,rfl,hgc⟩:=hadg.out j x hx
   obtain⟨t,ht⟩:=HJ.out x (List.mem_of_getElem? hx)
   obtain⟨l,hl,hA⟩:=HE1.out.get ht
   rw [bs_get hl] at hgc
   simp only [Option.getD_some] at hgc
   have c1:=hA.c1
   have c2:=hA.c2
   have hdrop:js.drop j=x::js.drop (j+1):=by
    rw [List.drop_eq_getElem_cons hlt]
    congr 1
    rw [List.getElem?_eq_getElem hlt] at hx
    injection hx
   rw [hdrop] at hrest
   have hstep:leastOf E (x::js.drop (j+1)) m=leastOf E (js.drop (j+1)) (if t.level≠0 then min m t.start else m):=by
    unfold leastOf
    rw [List.foldl_cons,ht]
   rw [hstep] at hrest
   obtain⟨lv,hlv⟩:∃ lv,t.level=lv:=⟨_,rfl⟩
   obtain⟨st,hst⟩:∃ st,t.start=st:=⟨_,rfl⟩
   rw [hlv] at c1 hrest
   rw [hst] at c2 hrest
   have hj0:(0:Int)≤(j:Int):=by omega
   have hj1:(j:Int)<(js.length:Int):=by omega
   by_cases h0:lv=0
   ·subst h0
    rw [if_neg (by simp)] at hrest
    have HR:=hid hrest
    clear hx ht hl hA hdrop hrest hstep hlv hst
    go_wp2
    go_round
    case rel=>exact⟨j+1,m,by omega,by go_num,rfl,HR.out⟩
    case measure=>simp [intOf];omega
   ·have g0:(lv != 0)=true:=by simpa using h0
    rw [if_pos h0] at hrest
    have HR:=hid hrest
    clear hx ht hl hA hdrop hrest hstep hlv hst h0
    go_wp2
    go_round
    case rel=>exact⟨j+1,min m st,by omega,by go_num,rfl,HR.out⟩
    case measure=>simp [intOf];omega
  ·rw [List.drop_of_length_le (by omega)] at hrest
   have hfin:m=leastOf E js lz:=by simpa [leastOf] using hrest
   have HF:=hid hfin
   have HC:=hid (HSW.out w1 HB1.out m)
   clear hrest hfin
   go_wp2_with fail
   refine HC.out.mono ?_
   rintro e w2 ⟨rfl,vs',hS,hK⟩
   obtain⟨h3,k3⟩:=HE1.out.setSto hS hK
   have HP:=hid (show EnPost L { E with ks:=E.ks.map (sweepL m) } w w2 from ⟨_,h3,KeptO.below_l HB1.out k3,rfl,rfl⟩)
   clear hS hK h3 k3 HC
   go_wp2
   go_ret
   rw [← HF.out]
   exact⟨rfl,by have:=HP.out;rw [HLZ.out] at this;exact this⟩
end Go.Proofs.YtjefgmeejhakbabGreatDoor
