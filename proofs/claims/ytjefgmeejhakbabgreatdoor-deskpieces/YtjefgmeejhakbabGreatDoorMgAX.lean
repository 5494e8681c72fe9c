/- EnStep EnStepB EnMovesP KtMem BsWritten OrRows: put together for a claim. -/
import Derived.Test.YtjefgmeejhakbabGreatDoorMgAW
import Derived.Test.YtjefgmeejhakbabGreatDoorMgAV
import Derived.Test.YtjefgmeejhakbabGreatDoorOrShelf
import Derived.Test.YtjefgmeejhakbabGreatDoorMgAB
namespace Go.Proofs.YtjefgmeejhakbabGreatDoor
section
variable {a0:Int} {K0:Int→Option Int} {E E2:Eng} {C:CE} {Q:Nat→Prop} {i j:Nat} {t:Tx} {why:Int}
theorem nodup_lt:∀ (n:Nat) (l:List Nat),l.Nodup→(∀ x∈l,x<n)→l.length≤n
 | 0,[],_,_=>Nat.le_refl _
 | 0,x::r,_,h=>absurd (h x (List.mem_cons_self ..)) (by omega)
 | n+1,l,hn,h=>by
  have h1:=nodup_lt n (l.filter (fun x=>x != n)) (hn.filter _) (fun x hx=>by
   have h2:=List.mem_filter.1 hx
   have h3:=h x h2.1
   have h4:x≠n:=by simpa using h2.2
   omega)
  have h2:l.length≤(l.filter (fun x=>x != n)).length+1:=by
   clear h1 h
   induction l with
   | nil=>simp
   | cons x r ih =>
    have hn':=List.nodup_cons.1 hn
    have:=ih hn'.2
    rw [List.filter_cons]
    by_cases e:x=n
    ·subst e
     have:r.filter (fun y=>y != x)=r:=List.filter_eq_self.2 (fun y hy=>by simp;rintro rfl;exact hn'.1 hy)
     simp [this]
    ·rw [if_pos (by simpa using e)]
     simp only [List.length_cons]
     omega
  omega
theorem Mid.com_len (h:Mid a0 K0 C Q):C.com.length≤200:=by
 refine Nat.le_trans (nodup_lt C.cs.length _ h.com.comn (fun x hx=>?_)) h.reg.len
 obtain⟨u,hu,_⟩:=(h.com.coms x).1 hx
 exact (List.getElem?_eq_some_iff.1 hu).1
theorem Mid.cw_len (h:Mid a0 K0 C Q):C.cw.length≤200:=Nat.le_trans (List.length_filter_le _ _) h.com_len
theorem Mid.last_le (h:Mid a0 K0 C Q):0≤C.last∧C.last+1≤1099511627776:=by
 have:=h.com.lastc
 have:=h.cw_len
 have:=h.com.zero
 omega
theorem fullFrom_len (V:Nat→Int→Option Int) (a:Int):∀ (l:List Nat) (c:Int),(fullFrom V a c l).length≤l.length
 | [],_=>by simp [fullFrom]
 | i::r,c=>by
  have:=fullFrom_len V a r (c+1)
  rw [fullFrom]
  cases V i a<;>simp<;>omega
theorem Mid.full_len (h:Mid a0 K0 C Q) (a:Int):(full a0 K0 C a).length≤201:=by
 have h1:=fullFrom_len C.v a C.cw (a0+1)
 have h2:=h.cw_len
 unfold full
 rw [List.length_append]
 cases K0 a<;>simp<;>omega
theorem Mid.ks_of (h:Mid a0 K0 C Q) {l:List (Int × Int)} (hl:l∈C.ks):∃ (a d:Nat),a<10∧l=(full a0 K0 C a).drop d:=by
 obtain⟨a,ha,e⟩:=List.mem_iff_getElem.1 hl
 have h10:=h.com.ksl
 obtain⟨d,_,h3,_⟩:=h.com.kss a (by omega)
 rw [List.getElem?_eq_getElem ha,e] at h3
 injection h3 with h3
 exact⟨a,d,by omega,h3⟩
theorem Mid.fits (h:Mid a0 K0 E.ce Q):Fits E:=by
 refine⟨fun l hl=>?_,fun l hl p hp=>?_⟩
 ·obtain⟨a,d,_,rfl⟩:=h.ks_of (C:=E.ce) hl
  have:=h.full_len (a:Int)
  rw [List.length_drop]
  omega
 ·obtain⟨a,d,_,rfl⟩:=h.ks_of (C:=E.ce) hl
  have h1:=full_le h.com (List.mem_of_mem_drop hp)
  have:=h.last_le
  have:=h.com.zero
  unfold I64
  omega
theorem Mid.open_wr (h:Mid a0 K0 E.ce Q) (ht:E.txs[i]?=some t) (hl:liveB t.state=true) (a:Int):E.wr a≠some ((i:Int)+1):=fun e=>by
 have h1:=h.com.wr_com (j:=i) (c:=a) e
 obtain⟨u,hu,h2⟩:=(h.com.coms i).1 (List.mem_filter.1 h1).1
 rw [cs_get ht] at hu
 cases hu
 rcases live_iff.1 hl with e | e<;>simp [cor] at h2<;>omega
theorem Mid.fine (h:Mid a0 K0 E.ce Q) (ht:E.txs[i]?=some t):FineV t:=fun k v hv=>(h.reg.fair i _ (cs_get ht)).fin k v hv
theorem Mid.inst_ks (h:Mid a0 K0 E.ce Q) (i:Nat):∀ l∈(installE E i).ks,l.length≤100000:=by
 have h1:=h.fits.len
 intro l hl
 unfold installE at hl
 split at hl
 ·rename_i t ht
  split at hl
  ·exact h1 l hl
  ·have:=instP_bound (E.last+1) (writesP t.vals) E.ks 201 (fun l hl=>by
    obtain⟨a,d,_,rfl⟩:=h.ks_of (C:=E.ce) hl
    have:=h.full_len (a:Int)
    rw [List.length_drop]
    omega) l hl
   have:=writesP_len t.vals
   omega
 ·exact h1 l hl
theorem Mid.begin (h:Mid a0 K0 E.ce Q) {level:Int} (hlv:level=0∨level=1∨level=2) (hl:E.txs.length<200) (ho:E.ce.live<6):Mid a0 K0 ({ E with txs:=E.txs++[newTx level E.last] }:Eng).ce Q:=by
 have e:({ E with txs:=E.txs++[newTx level E.last] }:Eng).ce={ E.ce with cs:=E.ce.cs++[cor (newTx level E.last)] }:=by simp [Eng.ce]
 rw [e]
 refine⟨h.loc.more rfl (fun _=>rfl),⟨fun j u hu=>?_,?_,by simp [Eng.ce];omega⟩,h.com.more rfl (fun _=>rfl) rfl⟩
 ·rw [List.getElem?_append] at hu
  split at hu
  ·exact h.reg.fair j u hu
  ·rw [List.getElem?_singleton] at hu
   split at hu
   ·injection hu with hu
    rw [← hu]
    exact⟨hlv,(by show (0:Int)≤0∧(0:Int)≤3;omega),fun k hk=>(hk rfl).elim,fun k v hk=>(by cases hk),by simp [cor,newTx]⟩
   ·cases hu
 ·rw [List.countP_append]
  have h1:[cor (newTx level E.last)].countP (fun t=>liveB t.state)=1:=rfl
  have h2:E.ce.cs.countP (fun t=>liveB t.state)=E.ce.live:=rfl
  omega
theorem leastOf_le (E:Eng):∀ (js:List Nat) (m:Int),leastOf E js m≤m∧∀ j∈js,∀ t,E.txs[j]?=some t→t.level≠0→leastOf E js m≤t.start
 | [],m=>⟨Int.le_refl _,fun j hj=>by cases hj⟩
 | j::r,m=>by
  have hstep:leastOf E (j::r) m=leastOf E r (match E.txs[j]? with | some t=>if t.level≠0 then min m t.start else m | none=>m):=rfl
  have h1:=leastOf_le E r (match E.txs[j]? with | some t=>if t.level≠0 then min m t.start else m | none=>m)
  have h2:(match E.txs[j]? with | some t=>if t.level≠0 then min m t.start else m | none=>m)≤m:=by
   split
   ·split
    ·exact Int.min_le_left _ _
    ·exact Int.le_refl _
   ·exact Int.le_refl _
  rw [hstep]
  refine⟨Int.le_trans h1.1 h2,fun x hx t ht hlv=>?_⟩
  rcases List.mem_cons.1 hx with rfl | hx
  ·refine Int.le_trans h1.1 ?_
   rw [ht]
   simp only [hlv,ne_eq,not_false_eq_true,if_true]
   exact Int.min_le_right _ _
  ·exact h1.2 x hx t ht hlv
theorem mem_live {E:Eng} {i:Nat} {t:Tx} (ht:E.txs[i]?=some t) (hl:liveB t.state=true):i∈liveOnes E:=by
 unfold liveOnes thoseP
 have:=(List.getElem?_eq_some_iff.1 ht).1
 refine List.mem_filter.2 ⟨List.mem_range.2 this,?_⟩
 rw [ht]
 exact hl
theorem least_sees (E:Eng) {u:Int} (hu:E.ce.Sees u):leastE E≤u:=by
 unfold leastE
 have h1:=leastOf_le E (liveOnes E) E.last
 rcases hu with hu | ⟨j,x,hx,hxl,hxv,hxs⟩
 ·exact Int.le_trans h1.1 hu
 ·obtain⟨t,ht,rfl⟩:=cs_of hx
  exact Int.le_trans (h1.2 j (mem_live ht hxl) t ht hxv) hxs
theorem Mid.sweep (h:Mid a0 K0 E.ce Q):Mid a0 K0 (sweepE E).ce Q:=⟨h.loc,h.reg,h.com.sweep (fun _ hv=>least_sees E hv)⟩
theorem live_len (E:Eng):(liveOnes E).length=E.ce.live:=by
 have key:∀ (m:Nat) (l:List Tx),l.length=m→((List.range l.length).filter (fun i=>match l[i]? with | some t=>liveB t.state | none=>false)).length=l.countP (fun t=>liveB t.state):=by
  intro m
  induction m with
  | zero=>intro l h;rw [List.eq_nil_of_length_eq_zero h];rfl
  | succ m ih =>
   intro l0 h0
   obtain⟨l,x,rfl⟩:∃ l x,l0=l++[x]:=⟨l0.dropLast,l0.getLast (fun e=>by rw [e] at h0;simp at h0),(List.dropLast_concat_getLast _).symm⟩
   have hm:l.length=m:=by simpa using h0
   rw [List.length_append,List.length_singleton,List.range_succ,List.filter_append,List.length_append,List.countP_append]
   have h1:(List.range l.length).filter (fun i=>match (l++[x])[i]? with | some t=>liveB t.state | none=>false)=(List.range l.length).filter (fun i=>match l[i]? with | some t=>liveB t.state | none=>false):=by
    refine List.filter_congr (fun i hi=>?_)
    rw [List.getElem?_append_left (List.mem_range.1 hi)]
   rw [h1,ih l hm]
   congr 1
   rw [List.filter_cons]
   simp only [List.getElem?_append_right (Nat.le_refl _),Nat.sub_self,List.getElem?_cons_zero,List.filter_nil]
   rw [List.countP_cons]
   cases liveB x.state<;>simp
 unfold liveOnes thoseP CE.live Eng.ce
 rw [List.countP_map]
 exact key _ E.txs rfl
theorem Mid.commitE (h:Mid a0 K0 E.ce Q) (hq:¬ Q i) (ht:E.txs[i]?=some t) (hl:liveB t.state=true):Mid a0 K0 (overE { (installE E i) with com:=E.com++[i] } i 2).ce (fun j=>Q j∨outQ E.T i j)∧(overE { (installE E i) with com:=E.com++[i] } i 2).ce.live+1=E.ce.live:=by
 have hf:=h.reg.fair i _ (cs_get ht)
 have hlast:=h.last_le
 have hrg:Reg (E.ce.cs.set i { cor t with state:=2 }):=h.reg.set (cs_get ht) hl ⟨hf.lev,(by show (0:Int)≤2∧(2:Int)≤3;omega),hf.vk,hf.fin,hf.wan⟩
 have hlo:=h.loc.over (i:=i) (t':={ cor t with state:=2 }) hq (by rfl)
 have hct:=count_over (t':={ cor t with state:=2 }) (cs_get ht) hl (by rfl)
 by_cases hw:writesP t.vals=[]
 ·have hI:installE E i=E:=by unfold installE;rw [ht];simp [hw]
  rw [hI,ce_over (E:={ E with com:=E.com++[i] }) ht]
  exact⟨⟨hlo,hrg,h.com.commit0 (cs_get ht) hl (by rfl) (by rfl) (by rfl) (by rfl) hw hf.vk _⟩,hct⟩
 ·have hI:installE E i={ E with last:=E.last+1,ks:=instP (E.last+1) (writesP t.vals) E.ks,wr:=updT E.wr (E.last+1) (some ((i:Int)+1)),nw:=E.nw+1 }:=by
   unfold installE
   rw [ht]
   simp only
   rw [if_neg (fun hc=>hc.elim hw (fun hc=>by have:E.ce.last=E.last:=rfl;omega))]
  rw [hI,ce_over (E:={ E with last:=E.last+1,ks:=instP (E.last+1) (writesP t.vals) E.ks,wr:=updT E.wr (E.last+1) (some ((i:Int)+1)),nw:=E.nw+1,com:=E.com++[i] }) ht]
  exact⟨⟨hlo,hrg,h.com.commitW h.loc.hold (cs_get ht) hl (by rfl) (by rfl) (by rfl) (by rfl) hw h.reg.fair _⟩,hct⟩
end
structure Goes (a0:Int) (K0:Int→Option Int) (Φ:Eng→(Nat→Prop)→Prop):Prop where
 ok:∀ (E:Eng) (Q:Nat→Prop) (j:Nat) (E2:Eng),Mid a0 K0 E.ce Q→Φ E Q→Q j→putE (wakeE E j) j=(0,E2)→Φ E2 (fun m=>Q m∧m≠j)
 bad:∀ (E:Eng) (Q:Nat→Prop) (j:Nat) (why:Int) (E2:Eng),Mid a0 K0 E.ce Q→Φ E Q→Q j→putE (wakeE E j) j=(why,E2)→(why=10∨why=13)→Φ (overE (loseE E2 j why) j 3) (fun m=>(Q m∧m≠j)∨outQ E.T j m)
abbrev noQ:Nat→Prop:=fun _=>False
theorem noQ_or (T:Tab) (i:Nat):(fun j=>noQ j∨outQ T i j)=outQ T i:=by funext j;simp [noQ]
section
variable {a0:Int} {K0:Int→Option Int} {Φ:Eng→(Nat→Prop)→Prop} {E:Eng} {i:Nat} {t:Tx} {why:Int}
theorem lose_ok (hG:Goes a0 K0 Φ) (h:Mid a0 K0 E.ce noQ) (ht:E.txs[i]?=some t) (hl:liveB t.state=true) (hP:Φ (overE (loseE E i why) i 3) (outQ E.T i)) :
  ∃ E',endF 7 (loseE E i why) i 3=some E'∧Mid a0 K0 E'.ce noQ∧Φ E' noQ∧E'.ce.live<E.ce.live:=by
 obtain⟨hM,hc⟩:=h.goneE (why:=why) ht hl (fun h=>h)
 rw [noQ_or] at hM
 obtain⟨E',e1,e2,e3,e4⟩:=end_ok' hG.ok hG.bad (lose_T E i why) h.loc hM hP
 exact⟨E',e1,e2,e3,by omega⟩
theorem inst_T (E:Eng) (i:Nat):(installE E i).T=E.T:=by
 unfold installE
 split
 ·split<;>rfl
 ·rfl
theorem commit_ok (hG:Goes a0 K0 Φ) (h:Mid a0 K0 E.ce noQ) (ht:E.txs[i]?=some t) (hl:liveB t.state=true) (hb:¬ Between t.ahead t.behind) (hP:Φ (overE { (installE E i) with com:=E.com++[i] } i 2) (outQ E.T i)) :
  ∃ E',commitE 7 E i=some (0,E')∧Mid a0 K0 E'.ce noQ∧Φ E' noQ∧E'.ce.live<E.ce.live:=by
 obtain⟨hM,hc⟩:=h.commitE (i:=i) (fun h=>h) ht hl
 rw [noQ_or] at hM
 obtain⟨E',e1,e2,e3,e4⟩:=end_ok' (E:={ (installE E i) with com:=E.com++[i] }) hG.ok hG.bad (inst_T E i) h.loc hM hP
 refine⟨E',?_,e2,e3,by omega⟩
 unfold commitE
 rw [ht]
 simp only
 rw [if_neg (by rw [betB_false hb];simp),e1]
 rfl
theorem commit_bad (hG:Goes a0 K0 Φ) (h:Mid a0 K0 E.ce noQ) (ht:E.txs[i]?=some t) (hl:liveB t.state=true) (hb:Between t.ahead t.behind) (hP:Φ (overE (loseE E i 13) i 3) (outQ E.T i)) :
  ∃ E',commitE 7 E i=some (13,E')∧Mid a0 K0 E'.ce noQ∧Φ E' noQ∧E'.ce.live<E.ce.live:=by
 obtain⟨E',e1,e2⟩:=lose_ok hG h ht hl hP
 refine⟨E',?_,e2⟩
 unfold commitE
 rw [ht]
 simp only
 rw [if_pos (betB_true.2 hb),e1]
 rfl
end
end Go.Proofs.YtjefgmeejhakbabGreatDoor
namespace Go.Proofs.YtjefgmeejhakbabGreatDoor
section
variable {a0:Int} {K0:Int→Option Int} {C:CE} {Q:Nat→Prop} {i:Nat} {t:Cor} {k v:Int}
theorem Com.tab (h:Com a0 K0 C) (T':Tab):Com a0 K0 { C with T:=T' }:=⟨h.comn,h.coms,h.start,h.zero,h.lastc,h.nwc,h.wrc,h.ksl,h.kss,h.fuw⟩
theorem Mid.want (h:Mid a0 K0 C Q) (ht:C.cs[i]?=some t) (hs:t.state=0) (hk:0≤k∧k<10) (hv:-1099511627776≤v∧v≤1099511627776):Mid a0 K0 { C with cs:=C.cs.set i { t with wk:=k,wv:=v } } Q:=by
 have hf:=h.reg.fair i t ht
 have hl:liveB t.state=true:=live_iff.2 (.inl hs)
 exact⟨h.loc.put (k0:=0) ht hs hs (fun k hk=>.inl hk),h.reg.set ht hl ⟨hf.lev,hf.sta,hf.vk,hf.fin,hk,hv⟩,h.com.set ht hl (by show t.state≠2;omega) (by rfl) (by rfl) C.T (fun a c m hlv _ hva hc hvm hlt=>h.com.none_since ht hl a c m hlv hva hc hvm hlt)⟩
theorem Mid.take (h:Mid a0 K0 C Q) (ht:C.cs[i]?=some t) (hs:t.state=0) (hk:C.T k=[]) (hg:Good (updT C.T k [(i:Int)+1])):Mid a0 K0 { C with T:=updT C.T k [(i:Int)+1] } Q :=
 ⟨h.loc.take ht (live_iff.2 (.inl hs)) hk hg,h.reg,h.com.tab _⟩
theorem Mid.stand (h:Mid a0 K0 C Q) (ht:C.cs[i]?=some t) (hs:t.state=0) (hk:C.T t.wk≠[]) (hg:Good (updT C.T t.wk (C.T t.wk++[(i:Int)+1]))):Mid a0 K0 { C with cs:=C.cs.set i { t with state:=1 },T:=updT C.T t.wk (C.T t.wk++[(i:Int)+1]) } Q:=by
 have hf:=h.reg.fair i t ht
 have hl:liveB t.state=true:=live_iff.2 (.inl hs)
 exact⟨h.loc.stand ht hs hk hg rfl rfl rfl,h.reg.set ht hl ⟨hf.lev,(by show (0:Int)≤1∧(1:Int)≤3;omega),hf.vk,hf.fin,hf.wan⟩,h.com.set ht hl (by show (1:Int)≠2;omega) (by rfl) (by rfl) _ (fun a c m hlv _ hva hc hvm hlt=>h.com.none_since ht hl a c m hlv hva hc hvm hlt)⟩
theorem Mid.putOpen (h:Mid a0 K0 C Q) (ht:C.cs[i]?=some t) (hs:t.state=0) (hh:holdsP C.T t.wk=(i:Int)+1) (hn:¬ (t.level≠0∧((C.ks[t.wk.toNat]?.getD []).drop (lat (C.ks[t.wk.toNat]?.getD []) t.start+1).toNat).map (·.1)≠[])) :
  Mid a0 K0 { C with cs:=C.cs.set i { t with vals:=updT t.vals t.wk (some t.wv) } } Q:=by
 have hf:=h.reg.fair i t ht
 have hl:liveB t.state=true:=live_iff.2 (.inl hs)
 refine⟨h.loc.put (k0:=t.wk) ht hs hs (fun k hk=>?_),h.reg.set ht hl ⟨hf.lev,hf.sta,fun k hk=>?_,fun k v hk=>?_,hf.wan⟩,h.com.put ht hl (t':={ t with vals:=updT t.vals t.wk (some t.wv) }) hl (by rfl) (by rfl) hf.wan.1 (by rfl) C.T hn⟩
 ·by_cases e:k=t.wk
  ·exact .inr ⟨e,hh⟩
  ·left
   simpa [updT_other _ _ e] using hk
 ·by_cases e:k=t.wk
  ·rw [e];exact hf.wan.1
  ·exact hf.vk k (by simpa [updT_other _ _ e] using hk)
 ·by_cases e:k=t.wk
  ·subst e
   simp only [updT_same] at hk
   injection hk with hk
   rw [← hk]
   exact hf.wan.2
  ·exact hf.fin k v (by simpa [updT_other _ _ e] using hk)
theorem Loc.open_waits {T:Tab} {cs:List Cor} (h:Loc T cs Q) (ht:cs[i]?=some t) (hs:t.state=0):waitsP T ((i:Int)+1)=-1 :=
  (waits_none_iff h.good.tidy).2 (fun k hk=>by
    obtain⟨u,hu,h1,_⟩:=h.tail k i hk
    rw [ht] at hu
    cases hu
    omega)
end
theorem ask_cases {T:Tab} {q:Int→Nat} {tx key:Int} (hk:0≤key∧key<10) (hx:1≤tx) (hw:waitsP T tx=-1) :
  (holdsP T key=tx∧askP T q tx key=(true,0,T))∨(holdsP T key≠tx∧T key=[]∧askP T q tx key=(true,0,updT T key [tx])) ∨
  (holdsP T key≠tx∧T key≠[]∧askP T q tx key=(false,11,T))∨(holdsP T key≠tx∧T key≠[]∧askP T q tx key=(false,0,updT T key (T key++[tx]))):=by
 unfold askP
 rw [if_neg (by rw [Classical.not_not];omega),if_neg (by omega)]
 by_cases h1:holdsP T key=tx
 ·rw [if_pos h1];exact .inl ⟨h1,rfl⟩
 ·rw [if_neg h1]
  by_cases h2:T key=[]
  ·rw [if_pos h2];exact .inr (.inl ⟨h1,h2,rfl⟩)
  ·rw [if_neg h2]
   by_cases h3:reachP T tx (q (holdsP T key)+1) (holdsP T key)=true
   ·rw [if_pos h3];exact .inr (.inr (.inl ⟨h1,h2,rfl⟩))
   ·rw [if_neg h3];exact .inr (.inr (.inr ⟨h1,h2,rfl⟩))
def wantE (E:Eng) (i:Nat) (t:Tx) (key val:Int) (T':Tab):Eng:={ (E.setTx i { t with wk:=key,wv:=val }) with T:=T' }
def noteE (E:Eng) (i:Nat) (t:Tx) (key:Int):Eng:=E.setTx i (noteReadP t key ((E.wr (verP E key (seesP E t)).1.1).getD 0))
section
variable {a0:Int} {K0:Int→Option Int} {Φ:Eng→(Nat→Prop)→Prop} {E:Eng} {i:Nat} {t:Tx} {key val:Int} {q:Int→Nat}
theorem ce_note (ht:E.txs[i]?=some t):(noteE E i t key).ce=E.ce:=by
 unfold noteE
 exact ce_set_id ht (by rfl)
theorem read_ok (hG:Goes a0 K0 Φ) (h:Mid a0 K0 E.ce noQ) (ht:E.txs[i]?=some t) (hs:t.state=0) (hk:0≤key∧key<10) (hv:t.vals key=none)
  (hP1:t.level≠2→Φ (noteE E i t key) noQ) (hP2:∀ E2,t.level=2→aowP (noteE E i t key) i key=(true,E2)→Φ E2 noQ)
  (hP3:∀ E2,t.level=2→aowP (noteE E i t key) i key=(false,E2)→Φ (overE (loseE E2 i 13) i 3) (outQ E.T i)) :
  ∃ R,readE 7 E i key=some R∧Mid a0 K0 R.2.ce noQ∧Φ R.2 noQ∧((R.1=((verP E key (seesP E t)).1.2,(verP E key (seesP E t)).2)∧R.2.ce=E.ce)∨R.1=(0,13))∧R.2.ce.live≤E.ce.live:=by
 have hkb:keyB key=true:=by simp [keyB];omega
 have hce:=ce_note (key:=key) ht
 unfold readE
 rw [ht]
 simp only
 rw [hv]
 simp only
 rw [if_neg (by rw [hkb];simp)]
 by_cases h2:t.level=2
 ·rw [if_pos h2]
  rcases ha:aowP (noteE E i t key) i key with ⟨b,E2⟩
  have hc2:E2.ce=E.ce:=by
   have:=ce_aow (noteE E i t key) i key
   rw [ha] at this
   exact this.trans hce
  rw [show aowP (E.setTx i (noteReadP t key ((E.wr (verP E key (seesP E t)).1.1).getD 0))) i key=(b,E2) from ha]
  cases b with
  | true=>exact⟨_,rfl,by rw [hc2];exact h,hP2 E2 h2 ha,.inl ⟨rfl,hc2⟩,by rw [hc2];exact Nat.le_refl _⟩
  | false =>
   obtain⟨u,hu,e⟩:∃ u,E2.txs[i]?=some u∧cor u=cor t:=cs_of (by rw [hc2];exact cs_get ht)
   have hus:u.state=0:=by have:=congrArg Cor.state e;exact this.trans hs
   have hT2:E2.T=E.T:=congrArg CE.T hc2
   obtain⟨E',e1,e2,e3,e4⟩:=lose_ok (E:=E2) (why:=13) hG (by rw [hc2];exact h) hu (by rw [hus];rfl) (by rw [hT2];exact hP3 E2 h2 ha)
   simp only [e1,Option.map_some]
   exact⟨_,rfl,e2,e3,.inr rfl,by rw [hc2] at e4;show E'.ce.live≤_;omega⟩
 ·rw [if_neg h2]
  exact⟨_,rfl,by rw [show (E.setTx i (noteReadP t key ((E.wr (verP E key (seesP E t)).1.1).getD 0))).ce=E.ce from hce];exact h,hP1 h2,.inl ⟨rfl,hce⟩,by rw [show (E.setTx i (noteReadP t key ((E.wr (verP E key (seesP E t)).1.1).getD 0))).ce=E.ce from hce];exact Nat.le_refl _⟩
theorem want_get (ht:E.txs[i]?=some t) (T':Tab):(wantE E i t key val T').txs[i]?=some { t with wk:=key,wv:=val }:=setTx_get ht
theorem want_ce (E:Eng) (i:Nat) (t:Tx) (key val:Int) (T':Tab):(wantE E i t key val T').ce={ E.ce with cs:=E.ce.cs.set i { cor t with wk:=key,wv:=val },T:=T' }:=by
 unfold wantE
 simp [Eng.setTx,Eng.ce,List.map_set,cor]
theorem write_ok (hG:Goes a0 K0 Φ) (h:Mid a0 K0 E.ce noQ) (ht:E.txs[i]?=some t) (hs:t.state=0) (hk:0≤key∧key<10) (hv:-1099511627776≤val∧val≤1099511627776) (hq:Ranked E.T q)
  (hP1:Φ (overE (loseE (wantE E i t key val E.T) i 11) i 3) (outQ E.T i))
  (hP2:Φ ((wantE E i t key val (updT E.T key (E.T key++[(i:Int)+1]))).setTx i { t with wk:=key,wv:=val,state:=1 }) noQ)
  (hP3:∀ T' E2,(T'=E.T∨T'=updT E.T key [(i:Int)+1])→putE (wantE E i t key val T') i=(0,E2)→Φ E2 noQ)
  (hP4:∀ T' why E2,(T'=E.T∨T'=updT E.T key [(i:Int)+1])→(why=10∨why=13)→putE (wantE E i t key val T') i=(why,E2)→Φ (overE (loseE E2 i why) i 3) (outQ T' i)) :
  ∃ R,writeE 7 q E i key val=some R∧Mid a0 K0 R.2.ce noQ∧Φ R.2 noQ∧R.2.ce.live≤E.ce.live ∧
   ((R.1=(false,11))∨(R.1=(false,0)∧R.2=(wantE E i t key val (updT E.T key (E.T key++[(i:Int)+1]))).setTx i { t with wk:=key,wv:=val,state:=1 })∨(R.1=(true,0)∧∃ T',putE (wantE E i t key val T') i=(0,R.2))∨R.1=(false,10)∨R.1=(false,13)):=by
 have hl:liveB t.state=true:=live_iff.2 (.inl hs)
 have hi:i<E.txs.length:=(List.getElem?_eq_some_iff.1 ht).1
 have hlen:E.ce.cs.length=E.txs.length:=by simp [Eng.ce]
 have h200:=h.reg.len
 have hW:=h.want (k:=key) (v:=val) (cs_get ht) hs hk hv
 have hwa:=h.loc.open_waits (cs_get ht) hs
 have hgd:Good (askP E.T q ((i:Int)+1) key).2.2:=h.loc.good.ask hq ((i:Int)+1) key (by omega)
 have key':∀ T',(T'=E.T∨T'=updT E.T key [(i:Int)+1])→Mid a0 K0 (wantE E i t key val T').ce noQ→holdsP T' key=(i:Int)+1 →
   ∃ R,(writeR (endF 7) (wantE E i t key val T') i).map (fun R=>((decide (R.1=0),R.1),R.2))=some R∧Mid a0 K0 R.2.ce noQ∧Φ R.2 noQ∧R.2.ce.live≤E.ce.live∧((R.1=(true,0)∧putE (wantE E i t key val T') i=(0,R.2))∨R.1=(false,10)∨R.1=(false,13)):=by
  intro T' hT' hM' hh
  have hg:=want_get (key:=key) (val:=val) ht T'
  have hlv:(wantE E i t key val T').ce.live=E.ce.live:=by rw [want_ce];exact count_live (cs_get ht) hl hl
  rcases hp:putE (wantE E i t key val T') i with ⟨why,E2⟩
  have hcg:=cs_get hg
  rcases ce_put hg hp with ⟨rfl,rfl,_,_⟩ | ⟨hy,hn,he⟩
  ·obtain⟨E',e1,e2,e3,e4⟩:=lose_ok (E:=wantE E i t key val T') (why:=10) hG hM' hg hl (hP4 T' 10 _ hT' (.inl rfl) hp)
   refine⟨((false,10),E'),?_,e2,e3,by show E'.ce.live≤_;omega,.inr (.inl rfl)⟩
   unfold writeR
   rw [hp]
   simp [e1]
  ·have hM2:Mid a0 K0 E2.ce noQ:=by rw [he];exact hM'.putOpen hcg hs hh hn
   have hl2:E2.ce.live=E.ce.live:=by
    rw [← hlv,he]
    exact count_live hcg hl hl
   rcases hy with rfl | rfl
   ·refine⟨((true,0),E2),?_,hM2,hP3 T' E2 hT' hp,by show E2.ce.live≤_;omega,.inl ⟨rfl,rfl⟩⟩
    unfold writeR
    rw [hp]
    simp
   ·obtain⟨u,hu,e⟩:∃ u,E2.txs[i]?=some u∧cor u=_:=cs_of (by rw [he];exact set_same hcg)
    have hus:u.state=0:=by have:=congrArg Cor.state e;exact this.trans hs
    have hT2:E2.T=T':=congrArg CE.T he
    obtain⟨E',e1,e2,e3,e4⟩:=lose_ok (E:=E2) (why:=13) hG hM2 hu (by rw [hus];rfl) (by rw [hT2];exact hP4 T' 13 E2 hT' (.inr rfl) hp)
    refine⟨((false,13),E'),?_,e2,e3,by show E'.ce.live≤_;omega,.inr (.inr rfl)⟩
    unfold writeR
    rw [hp]
    simp [e1]
 unfold writeE
 rw [ht]
 simp only
 rw [if_neg (by omega),if_neg (by omega)]
 rcases ask_cases (T:=E.T) (q:=q) (tx:=(i:Int)+1) hk (by omega) hwa with ⟨h1,e⟩ | ⟨h1,h2,e⟩ | ⟨h1,h2,e⟩ | ⟨h1,h2,e⟩
 ·rw [e] at hgd ⊢
  simp only [ne_eq,not_true_eq_false,if_false,Bool.true_eq_false]
  have hM':Mid a0 K0 (wantE E i t key val E.T).ce noQ:=by rw [want_ce];exact hW
  obtain⟨R,r1,r2,r3,r4,r5⟩:=key' E.T (.inl rfl) hM' h1
  exact⟨R,r1,r2,r3,r4,r5.elim (fun h=>.inr (.inr (.inl ⟨h.1,_,h.2⟩))) (fun h=>.inr (.inr (.inr h)))⟩
 ·rw [e] at hgd ⊢
  simp only [ne_eq,not_true_eq_false,if_false,Bool.true_eq_false]
  have hM':Mid a0 K0 (wantE E i t key val (updT E.T key [(i:Int)+1])).ce noQ:=by
   rw [want_ce]
   exact hW.take (set_same (cs_get ht)) hs h2 hgd
  obtain⟨R,r1,r2,r3,r4,r5⟩:=key' _ (.inr rfl) hM' (by unfold holdsP;rw [updT_same];rfl)
  exact⟨R,r1,r2,r3,r4,r5.elim (fun h=>.inr (.inr (.inl ⟨h.1,_,h.2⟩))) (fun h=>.inr (.inr (.inr h)))⟩
 ·rw [e] at hgd ⊢
  simp only [ne_eq,show ((11:Int)=0)=False from by simp,not_false_eq_true,if_true]
  have hM':Mid a0 K0 (wantE E i t key val E.T).ce noQ:=by rw [want_ce];exact hW
  have hlv:(wantE E i t key val E.T).ce.live=E.ce.live:=by rw [want_ce];exact count_live (cs_get ht) hl hl
  obtain⟨E',e1,e2,e3,e4⟩:=lose_ok (E:=wantE E i t key val E.T) (why:=11) hG hM' (want_get ht _) hl hP1
  refine⟨((false,11),E'),?_,e2,e3,by show E'.ce.live≤_;omega,.inl rfl⟩
  rw [show endF 7 (loseE { (E.setTx i { t with wk:=key,wv:=val }) with T:=E.T } i 11) i 3=some E' from e1]
  rfl
 ·rw [e] at hgd ⊢
  simp only [ne_eq,not_true_eq_false,if_false,if_true]
  refine⟨_,rfl,?_,hP2,?_,.inr (.inl ⟨rfl,rfl⟩)⟩
  ·show Mid a0 K0 ((wantE E i t key val (updT E.T key (E.T key++[(i:Int)+1]))).setTx i { t with wk:=key,wv:=val,state:=1 }).ce noQ
   rw [ce_set,want_ce]
   have:=hW.stand (set_same (cs_get ht)) hs h2 hgd
   simp only [List.set_set] at this ⊢
   exact this
  ·show ((wantE E i t key val (updT E.T key (E.T key++[(i:Int)+1]))).setTx i { t with wk:=key,wv:=val,state:=1 }).ce.live≤_
   rw [ce_set,want_ce]
   simp only [List.set_set]
   exact Nat.le_of_eq (count_live (cs_get ht) hl (by rfl))
end
end Go.Proofs.YtjefgmeejhakbabGreatDoor
namespace Go.Proofs.YtjefgmeejhakbabGreatDoor
section
variable {a0:Int} {K0:Int→Option Int} {E:Eng} {i:Nat} {t:Tx}
end
section
variable {a0:Int} {K0:Int→Option Int} {E:Eng} {Q:Nat→Prop}
end
end Go.Proofs.YtjefgmeejhakbabGreatDoor
namespace Go.Proofs.YtjefgmeejhakbabGreatDoor
open Go.RowKit
section
variable {w w':World} {s N:Nat}
end
section
variable {w w':World} {L L':EnL} {E E':Eng}
end
end Go.Proofs.YtjefgmeejhakbabGreatDoor
namespace Go.Proofs.YtjefgmeejhakbabGreatDoor
open Go.RowKit
theorem info82:(Tryz.prog.info? 82).map (·.size)=some 250:=by kernel_rfl
theorem info39:(Tryz.prog.info? 39).map (·.size)=some 1:=by kernel_rfl
theorem run_place {vs:List Value} {k:Nat} {v:Value} (hv:vs[k]?=some v) (hk:k<250) (w:World) :
  (Instr.index 82 (.agg vs.toArray) (.int .i64 (k:Int))).run Tryz.prog w=.ok v w:=by
 have hk0:(0:Int)≤(k:Int)∧(k:Int)<250:=by omega
 cases hq:Tryz.prog.info? 39 with
 | none=>have:=info39;simp [hq] at this
 | some i =>
  have hs:i.size=1:=by have:=info39;simpa [hq] using this
  simp [Instr.index,asIntOf,run_underlying Tryz.underlying82,sizeOf,typeInfo,hq,hs,hk0]
  rw [if_pos hk]
  simp [part,isAgg,run_underlying Tryz.underlying39,hv]
theorem run_append_zeroW {w:World} {base:Nat} {t ty e:TypeId} {i:TypeInfo} {size:Nat} (ht:Tryz.prog.underlying t=some (.slice e)) (hi:Tryz.prog.info? e=some i) {v:Value} {n:Nat} {xs:List Value} (h:w.ownsRow base e size v n xs) (ad:Addr) (c:Nat) :
  (Builtin.append_ #[t,t] ty #[v,.slice (some ad) 0 c]).run Tryz.prog w=.ok v w:=by
 rcases h.2 with ⟨rfl,rfl⟩ | ⟨g,cap,cur,rfl,hb,hc,hle,_⟩
 ·have hfc:=run_firstCells_some (P:=Tryz.prog) w i.size 0 ad 0 c [] (by simp) (fun j u hu=>by simp at hu)
  simp [Builtin.append_,run_underlying ht,sizeOf,typeInfo,hi,Builtin.lenOf,hfc]
 ·have:=run_append_room_cells (P:=Tryz.prog) w t ty e i ht hi g 0 n cap ad 0 c [] (by simp) (fun j u hu=>by simp at hu) (fun u hu=>by simp at hu) (by omega) (fun j hj=>by simp at hj) (fun j hj=>by simp at hj)
  simpa [World.setCells] using this
set_option maxRecDepth 100000 in
theorem wpList_app_writes {w:World} {ops:Array Oper} {rest:List Oper} {o:Oper} {a:Act} {Q:Exit→Act→World→Prop} (hgd:o.guard=none) (s x:Operand)
  (ho:o.op=.call { callee:=.builtin .append,args:=#[s,x],argTypes:=#[120,120] }) (base:Nat) (v:Value) (n:Nat) (xs:List Value) (hs:a.eval s=v) (hown:w.ownsRow base 122 2 v n xs)
  (sv:Value) (m:Nat) (news:List Value) (hx:a.eval x=sv) (hsrc:w.ownsRow 0 122 2 sv m news) (h1:∀ u∈news,u.oneCell'=true) (hn:n+m≤1000000) (hbase:base≤w.heap.size)
  (h:∀ v' w',w'.ownsRow base 122 2 v' (n+m) (xs++news)→Below base w w'→wpList Tryz.prog ops Q rest (a.put o.dst v') w'):wpList Tryz.prog ops Q (o::rest) a w:=by
 obtain⟨i0,hi0,hz0,hz1,hz2⟩:=info_parts info122
 by_cases hm:m=0
 ·subst hm
  have hne:news=[]:=List.eq_nil_of_length_eq_zero (by rw [hsrc.1])
  subst hne
  have hrun:(Builtin.append_ #[120,120] o.type #[v,sv]).run Tryz.prog w=.ok v w:=by
   rcases row_slice hsrc with ⟨rfl,_⟩ | ⟨g,c,rfl,_⟩
   ·exact run_append_owned_none (P:=Tryz.prog) (w:=w) base 120 o.type 122 i0 2 Tryz.underlying120 hi0 v n xs hown
   ·exact run_append_zeroW Tryz.underlying120 hi0 hown _ c
  refine wpList_plain hgd fun K hK=>?_
  unfold Oper.wp
  simp [execOp,ho,resolve,invoke,builtin,hs,hx,hrun,Result.andThen]
  exact hK _ _ (h v w (by simpa using hown) (Below.refl _ _))
 ·rcases row_slice hsrc with ⟨_,e0⟩ | ⟨g,c,rfl,hg,hc⟩
  ·exact (hm e0).elim
  ·refine wpList_append_lies w hgd s x _ ho base 122 i0 _ 2 16 Tryz.underlying120 hi0 hz0 hz1 hz2 rfl (by omega) v n xs hs hown ⟨g,0,none⟩ m c news hx hsrc.1 (fun j u hu=>by rw [addr_add];exact hc j u hu) h1 (by omega) (by unfold maxLen;omega) (by omega) hbase w.heap.size rfl ?_
   intro g' cap w' h2 h3 h4 h5
   refine h _ w' h2 ⟨h3.os,h3.tape,h3.output,h3.size,fun b hb=>h3.block b (by omega) (fun e=>?_)⟩
   have:=(hown.lt b e.symm).1
   omega
theorem whole_cons (x:Int) (r:List Int):wholeP (x::r)=(decide (((x::r).length:Int)=x*9+9)&&(((numN ((x::r).drop ((x::r).length-8)) 8:Nat):Int)==sumP ((x::r).take ((x::r).length-8)))):=rfl
theorem whole_rec (ws:List (Int × Int)):wholeP (recP ws)=true:=by
 have h1:recP ws=(ws.length:Int)::(ws.flatMap wrB++bytesN (sumN (headP ws)) 8):=rfl
 have hl:=recP_len ws
 have h2:(recP ws).length-8=(headP ws).length:=by rw [hl,headP_len];omega
 have h3:(recP ws).drop ((recP ws).length-8)=bytesN (sumN (headP ws)) 8:=by
  rw [h2];unfold recP;rw [List.drop_left]
 have h4:(recP ws).take ((recP ws).length-8)=headP ws:=by
  rw [h2];unfold recP;rw [List.take_left]
 have h5:=sumP_in (headP ws)
 have h6:sumN (headP ws)<2 ^ 64:=by unfold sumN;omega
 have h7:numN (bytesN (sumN (headP ws)) 8) 8=sumN (headP ws):=by
  have:=number_bytes h6 []
  rwa [List.append_nil] at this
 have h8:wholeP (recP ws)=(decide (((recP ws).length:Int)=(ws.length:Int)*9+9)&&((numN ((recP ws).drop ((recP ws).length-8)) 8:Nat):Int)==sumP ((recP ws).take ((recP ws).length-8))):=by
  conv=>lhs;rw [h1]
  rfl
 rw [h8,h3,h4,h7,hl,decide_eq_true (by omega),Bool.true_and,beq_iff_eq]
 unfold sumN
 omega
theorem whole_torn (ws:List (Int × Int)) {k:Nat} (hk:k<(recP ws).length):wholeP ((recP ws).take k)=false:=by
 cases k with
 | zero=>rfl
 | succ k =>
  have h1:(recP ws).take (k+1)=(ws.length:Int)::(ws.flatMap wrB++bytesN (sumN (headP ws)) 8).take k:=rfl
  have hl:=recP_len ws
  have h2:((recP ws).take (k+1)).length=k+1:=by rw [List.length_take];omega
  rw [h1] at h2 ⊢
  rw [whole_cons,decide_eq_false (by rw [h2];omega),Bool.false_and]
theorem flat_le {recs:List (List (Int × Int))} {n:Nat} (h:∀ x∈recs,x.length≤10) (hn:recs.length≤n):recs.flatten.length≤10*n:=by
 induction recs generalizing n with
 | nil=>simp
 | cons x r ih =>
  have h1:=h x (List.mem_cons_self ..)
  have h2:=ih (n:=n-1) (fun y hy=>h y (List.mem_cons_of_mem _ hy)) (by simp only [List.length_cons] at hn;omega)
  rw [List.flatten_cons,List.length_append]
  simp only [List.length_cons] at hn
  omega
section
variable {w:World} {d:Nat} {dv:List Value} {D:Dsk}
structure Recs (D:Dsk) (recs:List (List (Int × Int))):Prop where
 at_:∀ (j:Nat) (ws:List (Int × Int)),recs[j]?=some ws→D.pl[j]?=some (recP ws)
 len:∀ ws∈recs,ws.length≤10
 fine:∀ ws∈recs,∀ p∈ws,Fine p
 ne:∀ ws∈recs,ws≠[]
 lt:recs.length≤250
 end_ : ∀ l, D.pl[recs.length]? = some l → wholeP l = false
set_option maxRecDepth 100000 in
set_option maxHeartbeats 1000000 in
theorem written_any (h:DiskAt w d dv D) {recs:List (List (Int × Int))} (hr:Recs D recs) :
  Calls Tryz.prog 192 #[.pointer (some ⟨d,0,none⟩)] w fun e w'=>∃ v,e=.returned (.tuple #[.int .i64 (recs.length:Int),v])∧w'.ownsRow w.heap.size 122 2 v recs.flatten.length (vrow recs.flatten)∧Below w.heap.size w w':=by
 have hld:w.rangeAt d 0 dv:=fun j v hv=>by
  have hi:j<250:=by rw [← h.lv];exact (List.getElem?_eq_some_iff.1 hv).1
  obtain⟨v',_,hv',_,hc⟩:=h.get hi
  rw [hv] at hv'
  cases hv'
  rw [Nat.zero_add]
  exact hc
 have hin:(Tryz.prog.info? 82).map (·.size)=some dv.length:=by rw [info82,h.lv]
 have HD:=hid h
 have HR:=hid hr
 have hlt:=hr.lt
 clear h hr
 go_enter Tryz.func192,Tryz.ntmps192
 go_wp2_with (refine wpList_load_mid (by rfl) 82 _ (by rfl) d 0 (by rfl) dv (.array 250 39) hld Tryz.underlying82 rfl hin ?_)
 clear hld hin
 go_loopw [4,11] (fun tv iv wr=>∃ j:Nat,iv=.int .i64 j∧j≤recs.length∧Hid (wr.ownsRow w.heap.size 122 2 tv (recs.take j).flatten.length (vrow (recs.take j).flatten)∧Below w.heap.size w wr)) (fun _ iv _=>251-(intOf iv).toNat)
 case atStart=>exact⟨0,rfl,Nat.zero_le _,by simpa [vrow] using World.ownsRow_nil w w.heap.size 122 2,Below.refl _ _⟩
 case round =>
  obtain⟨j,rfl,hj,HX⟩:=hrel
  by_cases hj25:j<250
  ·have hj250:j<250:=hj25
   clear hj25
   obtain⟨v,l,hv,hl,hc⟩:=HD.out.get hj250
   have hix:=run_place hv hj250
   have HDr:=hid (HD.out.below HX.out.2)
   have HI:=hid (isWritten_any HDr.out hj250 hl)
   have gj1:(j:Int)<250:=by omega
   by_cases hlt2:j<recs.length
   ·obtain⟨ws,hws⟩:∃ ws,recs[j]?=some ws:=⟨_,List.getElem?_eq_getElem hlt2⟩
    have hpl:=HR.out.at_ j ws hws
    rw [hl] at hpl
    injection hpl with hpl
    subst hpl
    have hmem:=List.mem_of_getElem? hws
    rw [whole_rec] at HI
    have hrow:=HDr.out.row j v _ hv hl
    obtain⟨ad,cap,rfl,hcap,hA,hgg⟩:=row_bytes hrow (HD.out.fin _ (List.mem_of_getElem? hl)).2
    obtain⟨g,off,rfl,hg⟩:=hgg (by rw [recP_len];omega)
    have HWO:=hid (fun q=>writesOf_any g off cap ws (wr.drewN q) (HR.out.len ws hmem) (fun p hp=>by have:=HR.out.fine ws hmem p hp;unfold Fine at this;unfold I64;omega) hcap hg (hA.same (fun _ _=>by simp)))
    have HWS:=hid hws
    have hwl:=HR.out.len ws hmem
    clear hrow hA hgg hws hl hv hc hmem
    go_wp2_with fail
    refine HI.out.mono ?_
    rintro e w1 ⟨rfl,q,hq⟩
    rw [hq]
    clear hq w1 HI
    go_wp2_with fail
    refine (HWO.out q).mono ?_
    rintro e w2 ⟨wv,rfl,hwrow,hB2⟩
    have hbs:=HX.out.2.size
    have HO2:=hid (show w2.ownsRow w.heap.size 122 2 u4 (recs.take j).flatten.length (vrow (recs.take j).flatten) from owns_same HX.out.1 (fun g hg=>hB2.block g (owns_lt HX.out.1 hg)))
    have HB2:=hid (show Below w.heap.size w w2 from HX.out.2.trans ((show Below wr.heap.size wr w2 from ⟨hB2.os,hB2.tape,hB2.output,hB2.size,hB2.block⟩).mono hbs))
    have HW2:=hid (owns_base hwrow (Nat.zero_le _))
    have hfl:(recs.take j).flatten.length≤10*j:=flat_le (fun x hx=>HR.out.len x (List.mem_of_mem_take hx)) (by rw [List.length_take];omega)
    clear hwrow hB2 HWO
    go_wp2_with (at_builtin;refine wpList_app_writes (by rfl) _ _ (by rfl) w.heap.size u4 _ _ (by rfl) HO2.out wv ws.length (vrow ws) (by rfl) HW2.out (vrow_one ws) (by omega) HB2.out.size ?_;intro v3 w3 ho3 hB3)
    have HF:=hid (And.intro (show w3.ownsRow w.heap.size 122 2 v3 (recs.take (j+1)).flatten.length (vrow (recs.take (j+1)).flatten) by
     rw [List.take_add_one,HWS.out]
     simp only [Option.toList_some,List.flatten_append,List.flatten_cons,List.flatten_nil,List.append_nil]
     rw [List.length_append,vrow_append]
     exact ho3) (HB2.out.trans hB3))
    clear ho3 hB3
    go_roundw
    case rel=>exact⟨j+1,by go_num,by omega,HF.out⟩
    case measure=>simp [intOf];omega
   ·obtain rfl:j=recs.length:=by omega
    rw [HR.out.end_ l hl] at HI
    rw [List.take_length] at HX
    have HF:=hid HX.out
    clear hl hv hc
    go_wp2_with fail
    refine HI.out.mono ?_
    rintro e w1 ⟨rfl,q,hq⟩
    rw [hq]
    clear hq w1 HI
    go_wp2
    go_ret2
    exact⟨_,rfl,owns_same HF.out.1 (fun g hg=>by simp),below_drewN HF.out.2 q⟩
  ·have hjn:j=250:=by omega
   have hrn:recs.length=250:=by omega
   subst hjn
   have hg:¬ ((250:Nat):Int)<250:=by omega
   have HX2:=hid (show wr.ownsRow w.heap.size 122 2 u4 recs.flatten.length (vrow recs.flatten)∧Below w.heap.size w wr by
    have:=HX.out
    rw [← hrn,List.take_length] at this
    exact this)
   have HRN:=hid hrn
   clear HX HR HD hrn hj hlt hj25
   go_wp2
   go_ret2
   refine⟨u4,by rw [HRN.out];rfl,?_,HX2.out.2⟩
   have h9:=HX2.out.1
   rw [List.length_flatten] at h9
   exact h9
end
end Go.Proofs.YtjefgmeejhakbabGreatDoor
namespace Go.Proofs.YtjefgmeejhakbabGreatDoor
open Go.RowKit Go.Shelf Go.Lib Go.Sort
theorem putCells_id_size (F c:Array Value):(putCells id 0 F c).size=c.size:=by simp [putCells]
theorem putCells_take {F c:Array Value} (h:F.size≤c.size):(putCells id 0 F c).toList.take F.size=F.toList:=by
 apply List.ext_getElem?
 intro i
 rw [List.getElem?_take]
 by_cases hi:i<F.size
 ·rw [if_pos hi]
  simp [putCells,hi,show i<c.size by omega]
 ·rw [if_neg hi]
  simp [show F.size≤i by omega]
theorem heap_putRow_same {w:World} {g:Nat} {cur F:Array Value} {e:TypeId} (h:w.heap[g]?=some (.cells cur e (0,0))):(putRow id w g 0 F).heap[g]?=some (.cells (putCells id 0 F cur) e (0,0)):=by
 simp [putRow,mapBlock,Array.getElem?_modify,h,onCells]
theorem heap_putRow_other {w:World} {g b:Nat} {F:Array Value} (h:b≠g):(putRow id w g 0 F).heap[b]?=w.heap[b]?:=by
 simp only [putRow,mapBlock,Array.getElem?_modify]
 rw [if_neg (fun e=>h e.symm)]
theorem put_owns {w:World} {N:Nat} {e:TypeId} {size g n cap:Nat} {xs:List Value} (h:w.ownsRow N e size (.slice (some ⟨g,0,none⟩) n cap) n xs) {F:Array Value} (hF:F.size=n*size) (q:Nat) (os:Array Obj) :
  (grow (putRow id (Sort.ahead w q) g 0 F) os).ownsRow N e size (.slice (some ⟨g,0,none⟩) n cap) n F.toList∧w.grownBy (grow (putRow id (Sort.ahead w q) g 0 F) os) (some g):=by
 rcases h.2 with ⟨e1,_⟩ | ⟨g',cap',cur,e1,hb,hg,h1,h2,h3,h4⟩
 ·cases e1
 ·cases e1
  have hgl:g<w.heap.size:=(Array.getElem?_eq_some_iff.1 hg).1
  have hg2:(Sort.ahead w q).heap[g]?=some (.cells cur e (0,0)):=hg
  refine⟨⟨by simpa using hF,.inr ⟨g,cap,_,rfl,hb,(heap_grow_old _ os (by simpa using hgl)).trans (heap_putRow_same hg2),h1,h2,(putCells_id_size F cur).trans h3,?_⟩⟩,⟨rfl,rfl,rfl,by simp [Sort.ahead],fun b hbl hne=>?_⟩⟩
  ·rw [← hF]
   exact putCells_take (by rw [hF,h3];exact Nat.mul_le_mul_right size h1)
  ·exact (heap_grow_old _ os (by simpa [Sort.ahead] using hbl)).trans (heap_putRow_other (fun e=>hne (by rw [e])))
theorem holds_of_owns {w:World} {N:Nat} {e:TypeId} {size g n cap:Nat} {F:Array Value} (h:w.ownsRow N e size (.slice (some ⟨g,0,none⟩) n cap) n F.toList):Holds id w g 0 F:=by
 intro j hj
 have hc:=h.cells (g:=g) rfl j F[j]! (by simp [hj])
 rw [addr_add] at hc
 rw [Nat.zero_add]
 refine⟨hc,?_⟩
 rcases h.2 with ⟨e1,_⟩ | ⟨g',cap',cur,e1,_,hg,_⟩
 ·cases e1
 ·cases e1
  simp [World.frozen?,hg]
def encW (x:Int × Int):List Value:=[.int .i64 x.1,.int .i64 x.2]
theorem flatW (d:Array (Int × Int)):(flatK encW 2 d).toList=vrow d.toList:=by
 apply List.ext_getElem?
 intro t
 have hl:(vrow d.toList).length=d.size*2:=by rw [vrow_length,Array.length_toList]
 by_cases ht:t<d.size*2
 ·have hj:t / 2<d.size:=by omega
  obtain⟨⟨a,b⟩,hab⟩:∃ x,d[t / 2]?=some x:=⟨d[t / 2],Array.getElem?_eq_getElem hj⟩
  have e1:d[t / 2]! = (a,b):=by rw [getElem!_def,hab]
  obtain⟨v1,v2⟩:=vrow_get d.toList (t / 2) a b (by rw [Array.getElem?_toList];exact hab)
  have hf:(flatK encW 2 d)[t]?=some (encW d[t / 2]!)[t%2]!:=by
   rw [← get_flatK encW 2 d t ht,getElem!_pos _ t (by rw [size_flatK];exact ht)]
   exact Array.getElem?_eq_getElem (by rw [size_flatK];exact ht)
  rw [Array.getElem?_toList,hf,e1]
  rcases Nat.mod_two_eq_zero_or_one t with e | e
  ·rw [e,show t=t / 2*2 by omega,v1];rfl
  ·rw [e,show t=t / 2*2+1 by omega,v2];rfl
 ·rw [List.getElem?_eq_none (by rw [Array.length_toList,size_flatK];omega),List.getElem?_eq_none (by omega)]
theorem putRow_ints (w:World) (g:Nat) (d:Array Int):putRow (Value.int .i64) w g 0 d=putRow id w g 0 (intsV d.toList).toArray:=by
 unfold putRow
 refine mapBlock_congr _ _ _ _ fun c _ _ _=>?_
 unfold putCells
 apply Array.ext_getElem?
 intro k
 rw [Array.getElem?_mapIdx,Array.getElem?_mapIdx]
 congr 1
 funext x
 have hz:(intsV d.toList).toArray.size=d.size:=by simp [intsV]
 rw [hz]
 by_cases h:0≤k∧k<0+d.size
 ·rw [if_pos h,if_pos h]
  have hk:k<d.size:=by omega
  simp [intsV,hk]
 ·rw [if_neg h,if_neg h]
end Go.Proofs.YtjefgmeejhakbabGreatDoor
