/- EnNew EnSweep EnBegin EnAdd EnBeginW BsDisk FeMem: put together for a claim. -/
import Derived.Test.YtjefgmeejhakbaaGreatDoorMgAQ
import Derived.Deep.MidRow
import Derived.Laws.AppendOwnNone
import Derived.ArgAppend
import Derived.Test.YtjefgmeejhakbaaGreatDoorFsInst
import Derived.Test.YtjefgmeejhakbaaGreatDoorFtDrop
import Derived.Test.YtjefgmeejhakbaaGreatDoorEnHist
/- engine.New, Sweep. -/
namespace Go.Proofs.YtjefgmeejhakbaaGreatDoor
open Go.RowKit
variable {w w':World} {L:EnL} {E:Eng}
def eng0:Eng:=⟨0,List.replicate 10 [],fun _=>[],[],fun _=>none,[],0⟩
def enL0 (s wb:Nat):EnL:=⟨s,List.replicate 10 (.slice none 0 0),noM,.slice none 0 0,wb,.slice none 0 0,[]⟩
def enCells0 (wb:Nat):Array Value:=#[.int .i64 0,.slice none 0 0,.slice none 0 0,.slice none 0 0,.slice none 0 0,.slice none 0 0,.slice none 0 0,.slice none 0 0,.slice none 0 0,.slice none 0 0,.slice none 0 0,.map none,.map none,.map none,.slice none 0 0,.map (some wb),.slice none 0 0]
theorem good0:Good (fun _=>[]):=⟨⟨fun _ h=>(h rfl).elim,fun _ _ h=>(by cases h),fun _=>List.Pairwise.nil,fun _ _ _ h=>(by cases h)⟩,fun _=>0,fun _ _ h=>(by cases h)⟩
theorem enAt0 {s wb:Nat} (hs:w.heap[s]?=some (.cells (enCells0 wb) 162 (0,0))) (hI:IMap w wb 0 (fun _=>none)):EnAt w (enL0 s wb) eng0:=by
 have hne:wb≠s:=hI.ne hs
 have hrep:∀ {k:Nat} {v:Value},(List.replicate 10 (Value.slice none 0 0))[k]?=some v→v=.slice none 0 0:=fun {k v} h=>by
  rw [List.getElem?_replicate] at h
  split at h
  ·injection h with h;exact h.symm
  ·cases h
 refine⟨⟨hs,rfl,rfl,fun k v l hv hl=>?_,fun i j v u g hv _ hg _=>?_,Nat.lt_succ_self _⟩,⟨_,_,_,Raw.zero (C:=(enL0 s wb).C 0) hs |>.mono (Nat.zero_le _),?_⟩,good0,fun k x h=>(by cases h),?_,rfl,by decide,hI,?_,fun i h=>(by cases h),fun i l t hl _=>(by cases hl),⟨fun g=>if g=s then .eng else .wr,?_⟩⟩
 ·rw [hrep hv]
  have:l=[]:=by
   rw [show eng0.ks=List.replicate 10 [] from rfl,List.getElem?_replicate] at hl
   split at hl
   ·injection hl with hl;exact hl.symm
   ·cases hl
  subst this
  show w.ownsRow (s+1) 199 2 (.slice none 0 0) 0 []
  exact World.ownsRow_nil w (s+1) 199 2
 ·rw [hrep hv] at hg;cases hg
 ·exact⟨fun _=>rfl,fun x=>by
   have:waitsP (fun _=>[]) x=-1:=(waits_none_iff good0.tidy).2 (fun k h=>by cases h)
   exact⟨this.symm,fun _=>this,fun _=>rfl⟩,fun _=>rfl⟩
 ·simpa [enL0,EnL.bs] using World.ownsRow_nil w 0 179 1
 ·simpa [enL0,EnL.bs,eng0] using World.ownsRow_nil w 0 179 1
 ·refine⟨by simp [enL0],fun g hg=>?_,fun g hg hn=>?_,fun g hg=>(by cases hg),by simp [enL0,hne],fun g hg=>(by cases hg),fun i l g hl _=>(by cases hl)⟩
  ·obtain⟨v,hv,hg⟩:=hg
   rw [List.eq_of_mem_replicate hv] at hg
   cases hg
  ·rcases hg with h1 | h1 | h1 | h1 | ⟨_,_,h1,_⟩
   ·exact (hn h1).elim
   ·cases h1
   ·cases h1
   ·cases h1
   ·cases h1
set_option maxRecDepth 100000 in
set_option maxHeartbeats 1000000 in
theorem new_any (w:World):Calls Tryz.prog 19 #[] w fun e w'=>∃ L,e=.returned (.pointer (some ⟨L.s,0,none⟩))∧EnAt w' L eng0∧Below w.heap.size w w'∧∀ g,L.own g→w.heap.size≤g:=by
 have hI:=IMap.made w
 have h2:((w.alloc (.map #[] 0)).alloc (.cells (enCells0 w.heap.size) 162)).heap[w.heap.size+1]?=some (.cells (enCells0 w.heap.size) 162 (0,0)):=by
  have:=heap_alloc_new (w.alloc (.map #[] 0)) (.cells (enCells0 w.heap.size) 162)
  rwa [World.size_alloc] at this
 have HE:=hid (enAt0 h2 (hI.same (Below.heap_alloc _ _ w.heap.size (by simp))))
 have HB:=hid (show Below w.heap.size w ((w.alloc (.map #[] 0)).alloc (.cells (enCells0 w.heap.size) 162)) from ((Below.refl _ w).alloc (Nat.le_refl _) _).alloc (by simp) _)
 have hmm:=@run_makeMap Tryz.prog
 clear hI h2
 go_enter Tryz.func19,Tryz.ntmps19
 go_wp2
 go_ret
 refine⟨enL0 (w.heap.size+1) w.heap.size,rfl,HE.out,HB.out,fun g hg=>?_⟩
 rcases hg with h1 | h1 | h1 | h1 | h1 | h1 | ⟨_,h1,_⟩
 ·rw [h1];exact Nat.le_succ _
 ·obtain⟨v,hv,hg⟩:=h1
  rw [List.eq_of_mem_replicate hv] at hg
  cases hg
 ·rcases h1 with h1 | h1 | h1 | h1 | ⟨_,_,h1,_⟩
  ·rw [h1];exact Nat.le_succ _
  ·cases h1
  ·cases h1
  ·cases h1
  ·cases h1
 ·cases h1
 ·rw [h1];exact Nat.le_refl _
 ·cases h1
 ·cases h1
end Go.Proofs.YtjefgmeejhakbaaGreatDoor
/- engine.Sweep. -/
namespace Go.Proofs.YtjefgmeejhakbaaGreatDoor
open Go.RowKit
variable {w w':World} {L:EnL} {E:Eng}
def leastOf (E:Eng) (js:List Nat) (m:Int):Int:=js.foldl (fun m j=>match E.txs[j]? with
 | some t=>if t.level≠0 then min m t.start else m
 | none=>m) m
def liveOnes (E:Eng):List Nat:=thoseP E (fun _ t=>liveB t.state)
def leastE (E:Eng):Int:=leastOf E (liveOnes E) E.last
def sweepE (E:Eng):Eng:={ E with ks:=E.ks.map (sweepL (leastE E)) }
set_option maxRecDepth 100000 in
set_option maxHeartbeats 2000000 in
theorem sweepE_any (h:EnAt w L E) (hf:Fits E) :
  Calls Tryz.prog 82 #[.pointer (some ⟨L.s,0,none⟩)] w fun e w'=>e=.returned (.int .i64 (sweepN (leastE E) E.ks:Nat))∧EnPost L (sweepE E) w w':=by
 have HL:=hid (last_any _ _ _ _ _ w h.sto)
 have HT:=hid (those_lives h (fun _ t=>liveB t.state) (fun W hW i l t hl ht=>(lives_any l.b t.state W ((h.below hW).txs i l t hl ht).c3).mono (fun e w' hh=>⟨hh.1,0,hh.2⟩)))
 have hjl:(liveOnes E).length≤200:=by
  have:=thoseN_len E (fun _ t=>liveB t.state) E.txs.length
  rw [thoseN_all] at this
  have:=h.le
  unfold liveOnes
  omega
 have HJ:=hid (show ∀ j∈liveOnes E,∃ t,E.txs[j]?=some t from fun j hj=>by
  obtain⟨t,ht,_⟩:=mem_thoseP hj
  exact⟨t,ht⟩)
 have HSW:=hid (fun W (hB:Below w.heap.size w W) t=>sweep_any _ _ _ t _ _ W (h.below hB).sto (by have:=(h.below hB).sto.lt;omega) (fun l hl=>Nat.le_trans (hf.len l hl) (by omega)))
 have HH:=hid h
 unfold sweepE leastE
 rw [show thoseP E (fun _ t=>liveB t.state)=liveOnes E from rfl] at HT
 obtain⟨js,hjs⟩:∃ js,liveOnes E=js:=⟨_,rfl⟩
 rw [hjs] at HT hjl HJ ⊢
 obtain⟨lz,hlz⟩:∃ lz,E.last=lz:=⟨_,rfl⟩
 rw [hlz] at HL ⊢
 have HLZ:=hid hlz
 clear h hf hjs hlz
 go_enter Tryz.func82,Tryz.ntmps82
 go_wp2_with fail
 refine HL.out.mono ?_
 rintro e w1 ⟨rfl,hw1⟩
 rw [hw1]
 clear hw1 w1
 go_wp2_with fail
 refine HT.out.mono ?_
 rintro e w1 ⟨v,rfl,ho,hB1⟩
 obtain⟨ad,cap,rfl⟩:=row_form ho
 have hadg:Hid (∀ j x,js[j]?=some x→∃ g,ad=some ⟨g,0,none⟩∧w1.cell? ⟨g,j,none⟩=some (.pointer (some ⟨L.bs[x]?.getD 0,0,none⟩))):=fun j x hx=>by
  rcases row_slice ho with ⟨e1,e2⟩ | ⟨g,cap',e1,hg,hc⟩
  ·have:=(List.getElem?_eq_some_iff.1 hx).1;omega
  ·injection e1 with e1
   exact⟨g,e1,hc j _ (show (L.ptrs js)[j]?=some (ptrV (L.bs[x]?.getD 0)) from by simp [EnL.ptrs,hx])⟩
 have HB1:=hid hB1
 have HE1:=hid (HH.out.below hB1)
 clear ho hB1 HT
 go_wp2
 go_loop [3,13] (fun mv iv=>∃ (j:Nat) (m:Int),j≤js.length∧iv=.int .i64 j∧mv=.int .i64 m∧leastOf E (js.drop j) m=leastOf E js lz) (fun _ iv=>js.length-(intOf iv).toNat)
 case atStart=>exact⟨0,lz,by omega,rfl,rfl,by simp⟩
 case round =>
  obtain⟨j,m,hj,rfl,rfl,hrest⟩:=hrel
  by_cases hlt:j<js.length
  ·obtain⟨x,hx⟩:∃ x,js[j]?=some x:=⟨js[j],List.getElem?_eq_getElem hlt⟩
   obtain⟨g,rfl,hgc⟩:=hadg.out j x hx
   obtain⟨t,ht⟩:=HJ.out x (List.mem_of_getElem? hx)
   obtain⟨l,hl,hA⟩:=HE1.out.get ht
   rw [bs_get hl] at hgc
   simp only [Option.getD_some] at hgc
   have c1:=hA.c1
   have c2:=hA.c2
   have hdrop:js.drop j=x::js.drop (j+1):=by
    rw [List.drop_eq_getElem_cons hlt]
    congr 1
    rw [List.getElem?_eq_getElem hlt] at hx
    injection hx
   rw [hdrop] at hrest
   have hstep:leastOf E (x::js.drop (j+1)) m=leastOf E (js.drop (j+1)) (if t.level≠0 then min m t.start else m):=by
    unfold leastOf
    rw [List.foldl_cons,ht]
   rw [hstep] at hrest
   obtain⟨lv,hlv⟩:∃ lv,t.level=lv:=⟨_,rfl⟩
   obtain⟨st,hst⟩:∃ st,t.start=st:=⟨_,rfl⟩
   rw [hlv] at c1 hrest
   rw [hst] at c2 hrest
   have hj0:(0:Int)≤(j:Int):=by omega
   have hj1:(j:Int)<(js.length:Int):=by omega
   by_cases h0:lv=0
   ·subst h0
    rw [if_neg (by simp)] at hrest
    have HR:=hid hrest
    clear hx ht hl hA hdrop hrest hstep hlv hst
    go_wp2
    go_round
    case rel=>exact⟨j+1,m,by omega,by go_num,rfl,HR.out⟩
    case measure=>simp [intOf];omega
   ·have g0:(lv != 0)=true:=by simpa using h0
    rw [if_pos h0] at hrest
    have HR:=hid hrest
    clear hx ht hl hA hdrop hrest hstep hlv hst h0
    go_wp2
    go_round
    case rel=>exact⟨j+1,min m st,by omega,by go_num,rfl,HR.out⟩
    case measure=>simp [intOf];omega
  ·rw [List.drop_of_length_le (by omega)] at hrest
   have hfin:m=leastOf E js lz:=by simpa [leastOf] using hrest
   have HF:=hid hfin
   have HC:=hid (HSW.out w1 HB1.out m)
   clear hrest hfin
   go_wp2_with fail
   refine HC.out.mono ?_
   rintro e w2 ⟨rfl,vs',hS,hK⟩
   obtain⟨h3,k3⟩:=HE1.out.setSto hS hK
   have HP:=hid (show EnPost L { E with ks:=E.ks.map (sweepL m) } w w2 from ⟨_,h3,KeptO.below_l HB1.out k3,rfl,rfl⟩)
   clear hS hK h3 k3 HC
   go_wp2
   go_ret
   rw [← HF.out]
   exact⟨rfl,by have:=HP.out;rw [HLZ.out] at this;exact this⟩
end Go.Proofs.YtjefgmeejhakbaaGreatDoor
/- engine.newTransaction; one more transaction. -/
namespace Go.Proofs.YtjefgmeejhakbaaGreatDoor
open Go.RowKit
variable {w w':World} {L:EnL} {E:Eng}
def newTx (level start:Int):Tx:=⟨level,start,0,0,0,0,0,fun _=>none,[],List.replicate 10 false,fun _=>false,fun _=>false⟩
def newL (B:Nat):TxL:=⟨B+3,B,.slice none 0 0,B+1,B+2⟩
def newCells (n level start:Int) (B:Nat):Array Value:=#[.int .i64 n,.int .i64 level,.int .i64 start,.int .i64 0,.int .i64 0,.int .i64 0,.int .i64 0,.int .i64 0,.map (some B),.slice none 0 0,.bool false,.bool false,.bool false,.bool false,.bool false,.bool false,.bool false,.bool false,.bool false,.bool false,.map (some (B+1)),.map (some (B+2))]
def newW (w:World) (n level start:Int):World:=(((w.alloc (.map #[] 0)).alloc (.map #[] 0)).alloc (.map #[] 0)).alloc (.cells (newCells n level start w.heap.size) 183)
theorem newW_at (w:World) (n level start:Int):TxAt (newW w n level start) n (newL w.heap.size) (newTx level start)∧Below w.heap.size w (newW w n level start):=by
 have s1:(w.alloc (.map #[] 0)).heap.size=w.heap.size+1:=by simp
 have s2:((w.alloc (.map #[] 0)).alloc (.map #[] 0)).heap.size=w.heap.size+2:=by simp
 have s3:(((w.alloc (.map #[] 0)).alloc (.map #[] 0)).alloc (.map #[] 0)).heap.size=w.heap.size+3:=by simp
 have m1:=IMap.made w
 have m2:=IMap.made (w.alloc (.map #[] 0))
 have m3:=IMap.made ((w.alloc (.map #[] 0)).alloc (.map #[] 0))
 rw [s1] at m2
 rw [s2] at m3
 have m1':IMap (newW w n level start) w.heap.size 0 (fun _=>none):=m1.same (((Below.heap_alloc _ _ _ (by rw [s3];omega)).trans (Below.heap_alloc _ _ _ (by rw [s2];omega))).trans (Below.heap_alloc _ _ _ (by rw [s1];omega)))
 have m2':IMap (newW w n level start) (w.heap.size+1) 0 (fun _=>none):=m2.same ((Below.heap_alloc _ _ _ (by rw [s3];omega)).trans (Below.heap_alloc _ _ _ (by rw [s2];omega)))
 have m3':IMap (newW w n level start) (w.heap.size+2) 0 (fun _=>none):=m3.same (Below.heap_alloc _ _ _ (by rw [s3];omega))
 have hb:=heap_alloc_new (((w.alloc (.map #[] 0)).alloc (.map #[] 0)).alloc (.map #[] 0)) (.cells (newCells n level start w.heap.size) 183)
 rw [s3] at hb
 refine⟨⟨hb,m1'.mono (Nat.zero_le _),?_,m2'.mono (Nat.zero_le _),m3'.mono (Nat.zero_le _),?_,?_,?_,rfl,fun _ h=>(h rfl).elim,fun _ h=>(by cases h),fun _ h=>(by cases h),?_⟩,?_⟩
 ·exact World.ownsRow_nil _ 0 90 4
 ·show w.heap.size≠w.heap.size+1;omega
 ·show w.heap.size≠w.heap.size+2;omega
 ·show w.heap.size+1≠w.heap.size+2;omega
 ·show (0:Int)≤0∧(0:Int)<10;omega
 ·exact ((((Below.refl _ w).alloc (Nat.le_refl _) _).alloc (by rw [s1];omega) _).alloc (by rw [s2];omega) _).alloc (by rw [s3];omega) _
set_option maxRecDepth 100000 in
set_option maxHeartbeats 1000000 in
theorem newTx_any (w:World) (n level start:Int) :
  Calls Tryz.prog 110 #[.int .i64 n,.int .i64 level,.int .i64 start] w fun e w'=>e=.returned (.pointer (some ⟨w.heap.size+3,0,none⟩))∧w'=newW w n level start:=by
 have hmm:=@run_makeMap Tryz.prog
 go_enter Tryz.func110,Tryz.ntmps110
 go_wp2
 go_ret
 exact⟨rfl,rfl⟩
end Go.Proofs.YtjefgmeejhakbaaGreatDoor
/- One more transaction. -/
namespace Go.Proofs.YtjefgmeejhakbaaGreatDoor
open Go.RowKit
variable {w w':World} {L:EnL} {E:Eng}
theorem bs_snoc (L:EnL) (l:TxL) (v:Value):({ L with av:=v,txs:=L.txs++[l] }:EnL).bs=L.bs++[l.b]:=by simp [EnL.bs]
theorem EnAt.addTx (h:EnAt w L E) {l:TxL} {t:Tx} {w2:World} {gg cap m:Nat} (hm:L.txs.length=m) (hm2:m<200)
  (hown:w2.ownsRow 0 179 1 (.slice (some ⟨gg,0,none⟩) (m+1) cap) (m+1) (L.bs.map ptrV++[.pointer (some ⟨l.b,0,none⟩)]))
  (hT:TxAt w2 ((m:Int)+1) l t) (hnew:∀ g,l.own g→w.heap.size≤g) (hgl:¬ l.own gg)
  (hos:w2.os=w.os∧w2.tape=w.tape∧w2.output=w.output) (hsz:w.heap.size≤w2.heap.size) (hb:∀ g,g<w.heap.size→L.av.ownBlock≠some g→w2.heap[g]?=w.heap[g]?) (hat:L.av.ownBlock=some gg∨w.heap.size≤gg) :
  EnAt (w2.setCell ⟨L.s,14,none⟩ (.slice (some ⟨gg,0,none⟩) (m+1) cap)) { L with av:=.slice (some ⟨gg,0,none⟩) (m+1) cap,txs:=L.txs++[l] } { E with txs:=E.txs++[t] } ∧
   KeptO L.own ({ L with av:=.slice (some ⟨gg,0,none⟩) (m+1) cap,txs:=L.txs++[l] }:EnL).own w (w2.setCell ⟨L.s,14,none⟩ (.slice (some ⟨gg,0,none⟩) (m+1) cap)):=by
 obtain⟨ρ,T⟩:=h.tag
 have hsl:=h.sto.lt
 have hlen:=h.len
 have hcs:L.av.ownBlock≠some L.s:=fun e=>by have h1:=T.all _ e;rw [T.eng] at h1;cases h1
 have hgs:gg≠L.s:=by
  rcases hat with h1 | h1
  ·exact fun e=>hcs (e▸h1)
  ·omega
 have hblk:=setCell_at (o:=14) (v:=.slice (some ⟨gg,0,none⟩) (m+1) cap) ((hb L.s hsl hcs).trans h.sto.blk)
 rw [P_set14 L E.last h.lv] at hblk
 have ho:∀ g,g≠L.s→(w2.setCell ⟨L.s,14,none⟩ (.slice (some ⟨gg,0,none⟩) (m+1) cap)).heap[g]?=w2.heap[g]?:=fun g hg=>heap_setCell_other _ ⟨L.s,14,none⟩ g _ hg
 have hk:∀ g,L.own g→ρ g≠.eng→ρ g≠.all→(w2.setCell ⟨L.s,14,none⟩ (.slice (some ⟨gg,0,none⟩) (m+1) cap)).heap[g]?=w.heap[g]?:=fun g hg h1 h2 =>
  (ho g (fun e=>h1 (by rw [e];exact T.eng))).trans (hb g (h.own_lt hg) (fun e=>h2 (T.all g e)))
 have hls:∀ g,l.own g→g≠L.s:=fun g hg e=>by have:=hnew g hg;omega
 have hgx:∀ {g},(Value.slice (some ⟨gg,0,none⟩) (m+1) cap).ownBlock=some g→gg=g:=fun hg=>by simpa [Value.ownBlock] using hg
 have hbs:({ L with av:=.slice (some ⟨gg,0,none⟩) (m+1) cap,txs:=L.txs++[l] }:EnL).bs=L.bs++[l.b]:=bs_snoc L l _
 refine⟨⟨h.sto.reblk hblk (fun g hg=>hk g (.inr (.inl hg)) (by rw [T.srow g hg];exact nofun) (by rw [T.srow g hg];exact nofun)),
  h.loc.reblk (C':=({ L with av:=.slice (some ⟨gg,0,none⟩) (m+1) cap,txs:=L.txs++[l] }:EnL).C E.last) (hblk.trans (by rw [← EnL.cells_eq];rfl)) (fun g hg hne=>hk g (.inr (.inr (.inl hg))) (by rw [T.lock g hg hne];exact nofun) (by rw [T.lock g hg hne];exact nofun)),h.good,?_,?_,?_,?_,
  h.wr.same (hk _ (.inr (.inr (.inr (.inr (.inl rfl))))) (by rw [T.wr];exact nofun) (by rw [T.wr];exact nofun)),?_,?_,?_,fun g=>if g<w.heap.size then ρ g else if g=gg then .all else .tx m,?_⟩,?_⟩
 ·intro k x hx
  have:=h.mem k x hx
  simp only [List.length_append,List.length_singleton]
  omega
 ·rw [hbs,List.map_append,show ({ L with av:=.slice (some ⟨gg,0,none⟩) (m+1) cap,txs:=L.txs++[l] }:EnL).txs.length=m+1 from by simp [hm]]
  exact owns_same hown (fun g hg=>ho g (by rw [← hgx hg];exact hgs))
 ·simp [hlen]
 ·simp only [List.length_append,List.length_singleton];omega
 ·have hE:(E.com.map fun i=>ptrV (({ L with av:=.slice (some ⟨gg,0,none⟩) (m+1) cap,txs:=L.txs++[l] }:EnL).bs[i]?.getD 0))=E.com.map fun i=>ptrV (L.bs[i]?.getD 0):=by
   refine List.map_congr_left (fun i hi=>?_)
   have h1:=h.coml i hi
   rw [hbs,List.getElem?_append_left (by simp [EnL.bs];omega)]
  show World.ownsRow _ 0 _ 1 L.cv E.com.length (E.com.map fun i=>ptrV (({ L with av:=.slice (some ⟨gg,0,none⟩) (m+1) cap,txs:=L.txs++[l] }:EnL).bs[i]?.getD 0))
  rw [hE]
  exact owns_same h.com (fun g hg=>hk g (.inr (.inr (.inr (.inr (.inr (.inl hg)))))) (by rw [T.com g hg];exact nofun) (by rw [T.com g hg];exact nofun))
 ·intro i hi
  have:=h.coml i hi
  simp only [List.length_append,List.length_singleton];omega
 ·intro i x u hx hu
  rcases Nat.lt_or_ge i m with hi | hi
  ·simp only [] at hx hu
   rw [List.getElem?_append_left (by omega)] at hx
   rw [List.getElem?_append_left (by omega)] at hu
   exact (h.txs i x u hx hu).same (fun g hg=>hk g (TxL.own_in (L:=L) hx hg) (by rw [T.tx i x g hx hg];exact nofun) (by rw [T.tx i x g hx hg];exact nofun))
  ·simp only [] at hx hu
   rw [List.getElem?_append_right (by omega)] at hx hu
   have hi2:i=m:=by
    have:=(List.getElem?_eq_some_iff.1 hx).1
    simp at this
    omega
   subst hi2
   rw [show i-L.txs.length=0 from by omega] at hx
   rw [show i-E.txs.length=0 from by omega] at hu
   simp at hx hu
   subst hx hu
   exact hT.same (fun g hg=>ho g (hls g hg))
 ·have hlt:∀ g,L.own g→(if g<w.heap.size then ρ g else if g=gg then Tag.all else .tx m)=ρ g:=fun g hg=>if_pos (h.own_lt hg)
  refine⟨(hlt _ (.inl rfl)).trans T.eng,fun g hg=>(hlt g (.inr (.inl hg))).trans (T.srow g hg),fun g hg hn=>(hlt g (.inr (.inr (.inl hg)))).trans (T.lock g hg hn),fun g hg=>?_,(hlt _ (.inr (.inr (.inr (.inr (.inl rfl)))))).trans T.wr,
   fun g hg=>(hlt g (.inr (.inr (.inr (.inr (.inr (.inl hg))))))).trans (T.com g hg),fun j x g hx hg=>?_⟩
  ·have:=hgx hg
   subst this
   rcases hat with h1 | h1
   ·exact (hlt gg (.inr (.inr (.inr (.inl h1))))).trans (T.all gg h1)
   ·simp only [if_neg (Nat.not_lt.2 h1),if_pos]
  ·rcases Nat.lt_or_ge j m with hi | hi
   ·simp only [] at hx
    rw [List.getElem?_append_left (by omega)] at hx
    exact (hlt g (TxL.own_in (L:=L) hx hg)).trans (T.tx j x g hx hg)
   ·simp only [] at hx
    rw [List.getElem?_append_right (by omega)] at hx
    have hi2:j=m:=by
     have:=(List.getElem?_eq_some_iff.1 hx).1
     simp at this
     omega
    subst hi2
    rw [show j-L.txs.length=0 from by omega] at hx
    simp at hx
    subst hx
    have h1:=hnew g hg
    have h2:g≠gg:=fun e=>hgl (e▸hg)
    simp only [if_neg (Nat.not_lt.2 h1),if_neg h2]
 ·refine⟨hos.1,hos.2.1,hos.2.2,by simpa using hsz,fun g hg hn=>(ho g (fun e=>hn (.inl e))).trans (hb g hg (fun e=>hn (.inr (.inr (.inr (.inl e)))))),fun g hg=>?_⟩
  rcases hg with h1 | h1 | h1 | h1 | h1 | h1 | ⟨x,hx,h1⟩
  ·exact .inl (.inl h1)
  ·exact .inl (.inr (.inl h1))
  ·exact .inl (.inr (.inr (.inl h1)))
  ·have:=hgx h1
   subst this
   rcases hat with h2 | h2
   ·exact .inl (.inr (.inr (.inr (.inl h2))))
   ·exact .inr h2
  ·exact .inl (.inr (.inr (.inr (.inr (.inl h1)))))
  ·exact .inl (.inr (.inr (.inr (.inr (.inr (.inl h1))))))
  ·rcases List.mem_append.1 hx with h2 | h2
   ·exact .inl (.inr (.inr (.inr (.inr (.inr (.inr ⟨x,h2,h1⟩))))))
   ·rw [List.mem_singleton.1 h2] at h1
    exact .inr (hnew g h1)
end Go.Proofs.YtjefgmeejhakbaaGreatDoor
/- engine.Begin. -/
namespace Go.Proofs.YtjefgmeejhakbaaGreatDoor
open Go.RowKit
variable {w w':World} {L:EnL} {E:Eng}
theorem lvl_cases {level:Int} (h:level=0∨level=1∨level=2):level=0∨(level≠0∧level=1)∨(level≠0∧level≠1∧level=2):=by omega
set_option maxRecDepth 100000 in
set_option maxHeartbeats 4000000 in
theorem begin_ok (h:EnAt w L E) {level:Int} (hlv:level=0∨level=1∨level=2) (hl:E.txs.length<200) (ho:(liveOnes E).length<6) :
    Calls Tryz.prog 51 #[.pointer (some ⟨L.s,0,none⟩),.int .i64 level] w fun e w'=>e=.returned (.tuple #[.int .i64 ((E.txs.length:Int)+1),.nilIface]) ∧
      ∃ L' b,EnAt w' L' { E with txs:=E.txs++[newTx level E.last] }∧KeptO L.own L'.own w w'∧L'.s=L.s∧L'.bs=L.bs++[b]:=by
  obtain⟨i0,hi0,hz0,hz1,hz2⟩:=info_parts info179
  have hT:=those_lives h (fun _ t=>liveB t.state) (fun W hW i l t hl ht=>(lives_any l.b t.state W ((h.below hW).txs i l t hl ht).c3).mono (fun e w' hh=>⟨hh.1,0,hh.2⟩))
  rw [show thoseP E (fun _ t=>liveB t.state)=liveOnes E from rfl] at hT
  have HT:=hid hT
  have c14:=h.c14
  obtain⟨ad,cap,hav⟩:=row_form h.all
  obtain⟨m,hm⟩:∃ m,L.txs.length=m:=⟨_,rfl⟩
  have hlen:=h.len
  rw [hm] at hav
  rw [hav] at c14
  have hme:E.txs.length=m:=by omega
  rw [hme] at hl ⊢
  obtain⟨q,hq⟩:∃ q,(liveOnes E).length=q:=⟨_,rfl⟩
  rw [hq] at HT ho
  have g1:¬ (200:Int)≤(m:Int):=by omega
  have g2:¬ (6:Int)≤(q:Int):=by omega
  have gw:IntKind.i64.wrap ((m:Int)+1)=(m:Int)+1:=IntWalk.i64_in _ (by omega)
  have HH:=hid h
  have HM:=hid hm
  have HAV:=hid hav
  have hsl:=h.sto.lt
  have HLL:=hid (fun W (hB:Below w.heap.size w W)=>last_any _ _ _ _ _ W (h.below hB).sto)
  obtain⟨lz,hlz⟩:∃ lz,E.last=lz:=⟨_,rfl⟩
  rw [hlz] at HLL ⊢
  have HLZ:=hid hlz
  have hcs:L.av.ownBlock≠some L.s:=fun e=>by
    obtain⟨ρ,T⟩:=h.tag
    have h1:=T.all _ e
    rw [T.eng] at h1;cases h1
  have hrow:=h.all
  have hfr:=h.sto.free 14
  rw [hm] at hrow
  have HROW:=hid hrow
  have HCS:=hid hcs
  have key:∀ w1,Below w.heap.size w w1→Hid (w1.cell? ⟨L.s,14,none⟩=some (.slice ad m cap)):=fun w1 hB=>(hB.cell (p:=⟨L.s,14,none⟩) hsl).trans c14
  have KEY:=hid key
  clear h hT hav hm hlen hme hq hlz hcs hrow key
  rcases lvl_cases hlv with rfl | ⟨n0,rfl⟩ | ⟨n0,n1,rfl⟩
  all_goals
    clear hlv
    go_enter Tryz.func51,Tryz.ntmps51
    go_wp2_with fail
    refine HT.out.mono ?_
    rintro e w1 ⟨v,rfl,hv,hB1⟩
    obtain⟨ad1,cap1,rfl⟩:=row_form hv
    have d14:=(KEY.out w1 hB1).out
    have HL1:=hid (HLL.out w1.drew hB1.drew)
    have HNEW:=hid (show ∀ lev:Int,Calls Tryz.prog 110 #[.int .i64 ((m:Int)+1),.int .i64 lev,.int .i64 lz] w1.drew fun e w2=>e=.returned (.pointer (some ⟨w1.heap.size+3,0,none⟩))∧w2.cell? ⟨L.s,14,none⟩=some (.slice ad m cap)∧TxAt w2 ((m:Int)+1) (newL w1.heap.size) (newTx lev lz)∧Below w1.heap.size w1 w2 from fun lev=>by
      refine (newTx_any w1.drew ((m:Int)+1) lev lz).mono ?_
      rintro e w2 ⟨rfl,rfl⟩
      obtain⟨hA,hB⟩:=newW_at w1.drew ((m:Int)+1) lev lz
      have hB3:Below w1.heap.size w1 (newW w1.drew ((m:Int)+1) lev lz):=(below_drewN (Below.refl _ w1) 1).trans hB
      exact⟨rfl,(hB3.cell (p:=⟨L.s,14,none⟩) (by have:=hB1.size;show L.s<_;omega)).trans d14,hA,hB3⟩)
    have HB1:=hid hB1
    clear hv hB1 HT
    go_wp2
    go_region_held3 (fun W=>W.cell? ⟨L.s,14,none⟩=some (.slice ad m cap))
      (first | go_keep | exact e14)
      (first | (go_at_call 97
                refine HL1.out.mono ?_
                rintro e w2 ⟨rfl,hw2⟩
                rw [hw2]
                clear hw2 w2)
             | (go_at_call 110
                refine (HNEW.out _).mono ?_
                rintro e w2 ⟨rfl,e14,hA2,hB2⟩
                have HA2:=hid hA2
                have HB2:=hid hB2
                clear hA2 hB2))
    have hBw:Below w.heap.size w w2:=HB1.out.trans (HB2.out.mono HB1.out.size)
    have hs1:=HB1.out.size
    have hs2:=hBw.size
    have hrow2:=owns_same HROW.out (fun g hg=>hBw.block g (HROW.out.lt g hg).2)
    rw [HAV.out] at hrow2
    have HR2:=hid hrow2
    have hf2:w2.frozen? ⟨L.s,14,none⟩=false:=(World.frozen?_of_block (a:=⟨L.s,14,none⟩) (hBw.block L.s hsl)).trans hfr
    have hob:Hid (L.av.ownBlock=(Value.slice ad m cap).ownBlock):=by show _=_;rw [HAV.out]
    have havl:Hid (∀ g,(Value.slice ad m cap).ownBlock=some g→g<w.heap.size):=fun g hg=>(HROW.out.lt g (by rw [hob.out];exact hg)).2
    have HBW:=hid hBw
    have a0:w2.cell? ⟨w1.heap.size+3,0,none⟩=some (.int .i64 ((m:Int)+1)):=HA2.out.c0
    have hbl:w1.heap.size+3<w2.heap.size:=HA2.out.lt
    have hneb:¬ w1.heap.size+3=L.s:=by omega
    have hneb2:¬ L.s=w1.heap.size+3:=by omega
    clear hrow2 hBw
    go_wp2_with (at_builtin;refine wpList_append_lies _ rfl _ _ _ rfl 0 179 i0 _ 1 8 Tryz.underlying160 hi0 hz0 hz1 hz2 rfl (by omega) (.slice ad m cap) _ _ rfl (HR2.out.alloc _) ⟨w2.heap.size,0,none⟩ 1 1 [.pointer (some ⟨w1.heap.size+3,0,none⟩)] rfl rfl (World.news_of_block (cs:=#[.pointer (some ⟨w1.heap.size+3,0,none⟩)]) (t:=179) (fr:=(0,0)) (heap_alloc_new w2 _)) (by simp [Value.oneCell']) (by omega) (by unfold maxLen;omega) (by omega) (by simp) (w2.heap.size+1) (by simp) ?_;intro gg cap' w3 ho hgrow hat hlt2;have hsb:w3.heap[L.s]?=w2.heap[L.s]?:=(hgrow.block L.s (by simp;omega) (fun e=>HCS.out (hob.out.trans e.symm))).trans (Below.heap_alloc w2 _ L.s (by omega));have d2:=(World.cell?_of_block (a:=⟨L.s,14,none⟩) hsb).trans e14;have f2:=(World.frozen?_of_block (a:=⟨L.s,14,none⟩) hsb).trans hf2;have n0:=(World.cell?_of_block (a:=⟨w1.heap.size+3,0,none⟩) ((hgrow.block (w1.heap.size+3) (by simp;omega) (fun e=>by have:=havl.out _ e.symm;omega)).trans (Below.heap_alloc w2 _ (w1.heap.size+3) hbl))).trans a0;clear hsb)
    have hown:∀ g,(newL w1.heap.size).own g→w1.heap.size≤g∧g<w2.heap.size:=fun g hg=>by
      refine⟨?_,HA2.out.own_lt hg⟩
      rcases hg with h1 | h1 | h1 | h1 | h1
      · rw [h1];exact Nat.le_add_right _ _
      · rw [h1];exact Nat.le_refl _
      · rw [h1];exact Nat.le_add_right _ _
      · rw [h1];exact Nat.le_add_right _ _
      · cases h1
    have hat2:L.av.ownBlock=some gg∨w2.heap.size≤gg:=by
      rcases hat with h1 | h1
      · exact .inl (by rw [hob.out];exact h1)
      · exact .inr (by omega)
    obtain⟨h4,k4⟩:=HH.out.addTx (l:=newL w1.heap.size) (t:=newTx _ lz) (w2:=w3) (gg:=gg) (cap:=cap') HM.out (by omega) ho
      (HA2.out.same (fun g hg=>(hgrow.block g (by simp;have:=(hown g hg).2;omega) (fun e=>by have:=havl.out _ e.symm;have:=(hown g hg).1;omega)).trans (Below.heap_alloc w2 _ g (hown g hg).2)))
      (fun g hg=>by have:=(hown g hg).1;omega) (fun hg=>by
        rcases hat2 with h1 | h1
        · have:=havl.out gg (by rw [← hob.out];exact h1);have:=(hown gg hg).1;omega
        · have:=(hown gg hg).2;omega)
      ⟨hgrow.os.trans HBW.out.os,hgrow.tape.trans HBW.out.tape,hgrow.output.trans HBW.out.output⟩ (by have:=hgrow.size;simp at this;omega)
      (fun g hg hne=>(hgrow.block g (by simp;omega) (fun e=>hne (by rw [hob.out];exact e.symm))).trans ((Below.heap_alloc w2 _ g (by omega)).trans (HBW.out.block g hg))) (hat2.imp id (fun h1=>by omega))
    have HF:=hid (show ∃ L' b,EnAt _ L' _∧KeptO L.own L'.own w _∧L'.s=L.s∧L'.bs=L.bs++[b] from ⟨_,_,h4,k4,rfl,bs_snoc L _ _⟩)
    clear h4 k4 hown hat2
    go_wp2
    go_ret2
    exact⟨rfl,by have:=HF.out;rw [HLZ.out] at this;exact this⟩
end Go.Proofs.YtjefgmeejhakbaaGreatDoor
/- base's Disk in memory: what was written. -/
namespace Go.Proofs.YtjefgmeejhakbaaGreatDoor
open Go.RowKit
structure Dsk where
 pl:List (List Int)
 cut:Bool
 left:Int
def BytesV (w:World) (v:Value) (l:List Int):Prop:=(∀ g,v.ownBlock=some g→g<w.heap.size)∧∃ ad cap,v=.slice ad l.length cap∧l.length≤cap∧∀ (i:Nat) (x:Int),l[i]?=some x→∃ g off,ad=some ⟨g,off,none⟩∧w.cell? ⟨g,off+i,none⟩=some (.int .u8 x)
structure DiskAt (w:World) (d:Nat) (dv:List Value) (D:Dsk):Prop where
 blk:w.heap[d]?=some (.cells (dv++[Value.bool D.cut,Value.int .i64 D.left]).toArray 96 (0,0))
 lv:dv.length=250
 lp:D.pl.length=250
 row:∀ (i:Nat) (v:Value) (l:List Int),dv[i]?=some v→D.pl[i]?=some l→BytesV w v l
 fin:∀ l∈D.pl,l.length≤200∧∀ x∈l,0≤x∧x<256
theorem row_bytes {w:World} {v:Value} {l:List Int} (h:BytesV w v l) (hl:∀ x∈l,0≤x∧x<256):∃ ad cap,v=.slice ad l.length cap∧l.length≤cap∧BytesAt w ad l∧(0<l.length→∃ g off,ad=some ⟨g,off,none⟩∧g<w.heap.size):=by
 obtain⟨_,ad,cap,e,hc,hx⟩:=h
 refine⟨ad,cap,e,hc,fun i x hi=>?_,fun h0=>?_⟩
 ·obtain⟨g,off,e1,h2⟩:=hx i x hi
  exact⟨hl x (List.mem_of_getElem? hi),g,off,e1,h2⟩
 ·obtain⟨g,off,e1,h1⟩:=hx 0 _ (List.getElem?_eq_getElem h0)
  exact⟨g,off,e1,World.block_lt_of_cell? w _ h1⟩
theorem bytesV_own {w:World} {base:Nat} {v:Value} {l:List Int} (h:w.ownsRow base 5 1 v l.length (u8V l)):BytesV w v l:=by
 refine⟨fun g hg=>(h.lt g hg).2,?_⟩
 rcases h.2 with ⟨e,e0⟩ | ⟨g,cap,cur,e,hb,hg,hle,hm,hs,hx⟩
 ·exact⟨none,0,by rw [e,e0],by omega,fun i x hx=>by have:=(List.getElem?_eq_some_iff.1 hx).1;omega⟩
 ·refine⟨some ⟨g,0,none⟩,cap,e,hle,fun i x hi=>⟨g,0,rfl,?_⟩⟩
  rcases row_slice h with ⟨e',_⟩ | ⟨g',cap',e',_,hc⟩
  ·rw [e] at e';cases e'
  ·rw [e] at e'
   cases e'
   rw [Nat.zero_add]
   exact hc _ _ (u8V_get hi)
theorem BytesV.same {w w':World} {v:Value} {l:List Int} (h:BytesV w v l) (hz:w.heap.size≤w'.heap.size) (hs:∀ (g o:Nat) (x:Int),v.ownBlock=some g→w.cell? ⟨g,o,none⟩=some (.int .u8 x)→w'.heap[g]?=w.heap[g]?):BytesV w' v l:=by
 obtain⟨h0,ad,cap,e,hc,hx⟩:=h
 refine⟨fun g hg=>Nat.lt_of_lt_of_le (h0 g hg) hz,ad,cap,e,hc,fun i x hi=>?_⟩
 obtain⟨g,off,e1,h2⟩:=hx i x hi
 exact⟨g,off,e1,(World.cell?_of_block (a:=⟨g,off+i,none⟩) (hs g (off+i) x (by rw [e,e1];rfl) h2)).trans h2⟩
def dOwn (d:Nat) (dv:List Value) (g:Nat):Prop:=g=d∨∃ (i:Nat) (v:Value),dv[i]?=some v∧v.ownBlock=some g
section
variable {w w':World} {d:Nat} {dv:List Value} {D:Dsk}
theorem DiskAt.get (h:DiskAt w d dv D) {i:Nat} (hi:i<250):∃ v l,dv[i]?=some v∧D.pl[i]?=some l∧w.cell? ⟨d,i,none⟩=some v:=by
 refine⟨dv[i]'(by rw [h.lv];exact hi),D.pl[i]'(by rw [h.lp];exact hi),List.getElem?_eq_getElem _,List.getElem?_eq_getElem _,?_⟩
 refine (cell_of_row w d i _ _ (0,0) h.blk).trans ?_
 rw [List.getElem?_toArray,List.getElem?_append_left (by rw [h.lv];exact hi),List.getElem?_eq_getElem]
theorem DiskAt.lt (h:DiskAt w d dv D):d<w.heap.size:=(Array.getElem?_eq_some_iff.1 h.blk).1
theorem DiskAt.same (h:DiskAt w d dv D) (hz:w.heap.size≤w'.heap.size) (hs:∀ g,dOwn d dv g→w'.heap[g]?=w.heap[g]?):DiskAt w' d dv D :=
 ⟨(hs d (.inl rfl)).trans h.blk,h.lv,h.lp,fun i v l hv hl=>(h.row i v l hv hl).same hz (fun g _ _ hg _=>hs g (.inr ⟨i,v,hv,hg⟩)),h.fin⟩
theorem DiskAt.own_lt (h:DiskAt w d dv D) {g:Nat} (hg:dOwn d dv g):g<w.heap.size:=by
 rcases hg with rfl | ⟨i,v,hv,hg⟩
 ·exact h.lt
 ·have hi:i<250:=by rw [← h.lv];exact (List.getElem?_eq_some_iff.1 hv).1
  obtain⟨_,l,_,hl,_⟩:=h.get hi
  exact (h.row i v l hv hl).1 g hg
theorem DiskAt.below (h:DiskAt w d dv D) (hB:Below w.heap.size w w'):DiskAt w' d dv D:=h.same hB.size (fun g hg=>hB.block g (h.own_lt hg))
set_option maxRecDepth 100000 in
set_option maxHeartbeats 400000 in
theorem isWritten_any (h:DiskAt w d dv D) {i:Nat} {l:List Int} (hi:i<250) (hl:D.pl[i]?=some l) :
  Calls Tryz.prog 154 #[.pointer (some ⟨d,0,none⟩),.int .i64 (i:Int)] w fun e w'=>e=.returned (.bool (wholeP l))∧∃ q,w'=w.drewN q:=by
 obtain⟨v,l',hv,hl',hc⟩:=h.get hi
 rw [hl] at hl'
 cases hl'
 obtain⟨ad,cap,rfl,hcap,hA,_⟩:=row_bytes (h.row i v l hv hl) (h.fin l (List.mem_of_getElem? hl)).2
 have hle:=(h.fin l (List.mem_of_getElem? hl)).1
 have HW:=hid (whole_any ad cap l w (by omega) hcap hA)
 have gi0:(0:Int)≤(i:Int):=by omega
 have gi1:(i:Int)<250:=by omega
 clear h hA hv hl
 go_enter Tryz.func154,Tryz.ntmps154
 go_wp2_with fail
 refine HW.out.mono ?_
 rintro e w1 ⟨rfl,q,hq⟩
 rw [hq]
 clear hq w1 HW
 go_wp2
 go_ret
 exact⟨rfl,q,rfl⟩
end
end Go.Proofs.YtjefgmeejhakbaaGreatDoor
/- The document's engine: plain, and how it lies in memory. -/
namespace Go.Proofs.YtjefgmeejhakbaaGreatDoor
open Go.RowKit
structure RTx where
 level:Int
 state:Int
 why:Int
 start:Int
 begun:Int
 over:Int
 reads:List (Int × Int × Bool × Int)
 own:List (Int × Int)
 want:Int × Int
 behind:List Nat
 ahead:List Nat
structure REng where
 kept:List (Int × Int × Int)
 last:Int
 T:Tab
 txs:List RTx
 step:Int
 wr:Int→Option Int
 nb:Nat
 hist:List (Int × Int × Bool × Int)
def REng.setTx (E:REng) (i:Nat) (t:RTx):REng:={ E with txs:=E.txs.set i t }
structure RTxL where
 b:Nat
 rd:Value
 ow:Value
 bh:Value
 ah:Value
structure REnL where
 R:Nat
 lv:Value
 vs:List Value
 av:Value
 txs:List RTxL
 mb:Nat
 hv:Value
def REnL.bs (L:REnL):List Nat:=L.txs.map RTxL.b
def HdE (A B:REnL):Prop:=A.R=B.R∧A.av=B.av
theorem HdE.trans {A B C:REnL} (h:HdE A B) (k:HdE B C):HdE A C:=⟨h.1.trans k.1,h.2.trans k.2⟩
def REnL.setTx (L:REnL) (i:Nat) (l:RTxL):REnL:={ L with txs:=L.txs.set i l }
def rtxCells (l:RTxL) (t:RTx):Array Value:=#[.int .i64 t.level,.int .i64 t.state,.int .i64 t.why,.int .i64 t.start,.int .i64 t.begun,.int .i64 t.over,l.rd,l.ow,.int .i64 t.want.1,.int .i64 t.want.2,l.bh,l.ah]
def ptrsV (bs:List Nat) (is:List Nat):List Value:=is.map (fun i=>ptrV (bs[i]?.getD 0))
def RTxL.row (l:RTxL):Nat→Value
 | 0=>l.rd
 | 1=>l.ow
 | 2=>l.bh
 | _=>l.ah
def RTxL.setRow (l:RTxL) (p:Nat) (v:Value):RTxL:=match p with
 | 0=>{ l with rd:=v }
 | 1=>{ l with ow:=v }
 | 2=>{ l with bh:=v }
 | _=>{ l with ah:=v }
def rrowT:Nat→TypeId
 | 0=>90
 | 1=>78
 | _=>171
def rrowS:Nat→Nat
 | 0=>4
 | 1=>2
 | _=>1
def RTx.rowN (t:RTx):Nat→Nat
 | 0=>t.reads.length
 | 1=>t.own.length
 | 2=>t.behind.length
 | _=>t.ahead.length
def RTx.rowV (bs:List Nat) (t:RTx):Nat→List Value
 | 0=>opsV t.reads
 | 1=>vrow t.own
 | 2=>ptrsV bs t.behind
 | _=>ptrsV bs t.ahead
structure RTxAt (w:World) (bs:List Nat) (l:RTxL) (t:RTx):Prop where
 blk:w.heap[l.b]?=some (.cells (rtxCells l t) 177 (0,0))
 row:∀ p,p<4→w.ownsRow 0 (rrowT p) (rrowS p) (l.row p) (t.rowN p) (t.rowV bs p)
theorem RTxAt.rd {w:World} {bs:List Nat} {l:RTxL} {t:RTx} (h:RTxAt w bs l t):w.ownsRow 0 90 4 l.rd t.reads.length (opsV t.reads):=h.row 0 (by decide)
theorem RTxAt.ow {w:World} {bs:List Nat} {l:RTxL} {t:RTx} (h:RTxAt w bs l t):w.ownsRow 0 78 2 l.ow t.own.length (vrow t.own):=h.row 1 (by decide)
theorem RTxAt.bh {w:World} {bs:List Nat} {l:RTxL} {t:RTx} (h:RTxAt w bs l t):w.ownsRow 0 171 1 l.bh t.behind.length (ptrsV bs t.behind):=h.row 2 (by decide)
theorem RTxAt.ah {w:World} {bs:List Nat} {l:RTxL} {t:RTx} (h:RTxAt w bs l t):w.ownsRow 0 171 1 l.ah t.ahead.length (ptrsV bs t.ahead):=h.row 3 (by decide)
def RTxL.own (l:RTxL) (g:Nat):Prop:=g=l.b∨∃ p,p<4∧(l.row p).ownBlock=some g
theorem RTxAt.lt {w:World} {bs:List Nat} {l:RTxL} {t:RTx} (h:RTxAt w bs l t):l.b<w.heap.size:=(Array.getElem?_eq_some_iff.1 h.blk).1
theorem RTxAt.own_lt {w:World} {bs:List Nat} {l:RTxL} {t:RTx} (h:RTxAt w bs l t) {g:Nat} (hg:l.own g):g<w.heap.size:=by
 rcases hg with rfl | ⟨p,hp,hg⟩
 ·exact h.lt
 ·exact ((h.row p hp).lt g hg).2
theorem RTxAt.same {w w':World} {bs:List Nat} {l:RTxL} {t:RTx} (h:RTxAt w bs l t) (hs:∀ g,l.own g→w'.heap[g]?=w.heap[g]?):RTxAt w' bs l t :=
 ⟨(hs _ (.inl rfl)).trans h.blk,fun p hp=>owns_same (h.row p hp) (fun g hg=>hs g (.inr ⟨p,hp,hg⟩))⟩
theorem RTxAt.below {w w':World} {bs:List Nat} {l:RTxL} {t:RTx} (h:RTxAt w bs l t) (hB:Below w.heap.size w w'):RTxAt w' bs l t:=h.same (fun g hg=>hB.block g (h.own_lt hg))
def REnL.tail (L:REnL) (step:Int):Tail:=⟨L.vs++[L.av,.int .i64 step,.map (some L.mb),L.hv],113⟩
def REnL.emb (L:REnL) (last step:Int):FEmb:=⟨L.lv,.int .i64 last,[L.av,.int .i64 step,.map (some L.mb),L.hv],113,by decide⟩
inductive RTag where
 | eng:RTag
 | kept:RTag
 | tab:RTag
 | all:RTag
 | byc:RTag
 | hist:RTag
 | tx:Nat→Nat→RTag
def InVs (vs:List Value) (g:Nat):Prop:=∃ v∈vs,v.ownBlock=some g
structure RTagged (L:REnL) (ρ:Nat→RTag):Prop where
 eng:ρ L.R=.eng
 kept:∀ g,L.lv.ownBlock=some g→ρ g=.kept
 tab:∀ g,InVs L.vs g→ρ g=.tab
 all:∀ g,L.av.ownBlock=some g→ρ g=.all
 byc:ρ L.mb=.byc
 hist:∀ g,L.hv.ownBlock=some g→ρ g=.hist
 txb:∀ (i:Nat) (l:RTxL),L.txs[i]?=some l→ρ l.b=.tx i 4
 txr:∀ (i:Nat) (l:RTxL) (p g:Nat),L.txs[i]?=some l→p<4→(l.row p).ownBlock=some g→ρ g=.tx i p
def REnL.own (L:REnL) (g:Nat):Prop:=g=L.R∨L.lv.ownBlock=some g∨InVs L.vs g∨L.av.ownBlock=some g∨g=L.mb∨L.hv.ownBlock=some g∨∃ l∈L.txs,l.own g
structure REnAt (w:World) (L:REnL) (E:REng):Prop where
 blk:w.heap[L.R]?=some (.cells (fcells (L.tail E.step) L.lv E.last) 113 (0,0))
 kept:w.ownsRow (L.R+1) 235 3 L.lv E.kept.length (krow E.kept)
 knl:E.kept=[]→L.lv=.slice none 0 0
 vl:L.vs.length=10
 rows:∀ (k:Nat) (v:Value),L.vs[k]?=some v→w.ownsRow (L.R+1) 3 1 v (E.T k).length (intsV (E.T k))
 rnl:∀ (k:Nat) (v:Value),L.vs[k]?=some v→E.T k=[]→v=.slice none 0 0
 all:w.ownsRow (L.R+1) 171 1 L.av E.txs.length (L.bs.map ptrV)
 len:L.txs.length=E.txs.length
 txs:∀ (i:Nat) (l:RTxL) (t:RTx),L.txs[i]?=some l→E.txs[i]?=some t→RTxAt w L.bs l t
 wr:IMap w L.mb E.nb (fun k=>(E.wr k).map (Value.int .i64))
 hist:w.ownsRow (L.R+1) 90 4 L.hv E.hist.length (opsV E.hist)
 tag:∃ ρ,RTagged L ρ
section
variable {w w':World} {L L':REnL} {E E':REng} {ρ:Nat→RTag}
theorem REnAt.sto (h:REnAt w L E):Ref (L.tail E.step) w (L.R+1) L.R E.last L.lv E.kept:=⟨h.blk,h.kept,h.knl,Nat.lt_succ_self _⟩
theorem REnAt.tab (h:REnAt w L E):RTab (L.emb E.last E.step) w (L.R+1) L.R L.vs E.T:=⟨h.blk,h.vl,h.rows,h.rnl,Nat.lt_succ_self _⟩
theorem REnAt.lt (h:REnAt w L E):L.R<w.heap.size:=(Array.getElem?_eq_some_iff.1 h.blk).1
theorem REnAt.get (h:REnAt w L E) {i:Nat} {t:RTx} (ht:E.txs[i]?=some t):∃ l,L.txs[i]?=some l∧RTxAt w L.bs l t:=by
 have hi:i<L.txs.length:=by rw [h.len];exact (List.getElem?_eq_some_iff.1 ht).1
 exact⟨L.txs[i],List.getElem?_eq_getElem hi,h.txs i _ t (List.getElem?_eq_getElem hi) ht⟩
theorem REnAt.getL (h:REnAt w L E) {i:Nat} {l:RTxL} (hl:L.txs[i]?=some l):∃ t,E.txs[i]?=some t∧RTxAt w L.bs l t:=by
 have hi:i<E.txs.length:=by rw [← h.len];exact (List.getElem?_eq_some_iff.1 hl).1
 exact⟨E.txs[i],List.getElem?_eq_getElem hi,h.txs i _ _ hl (List.getElem?_eq_getElem hi)⟩
theorem RTxL.own_in {l:RTxL} {i:Nat} (hl:L.txs[i]?=some l) {g:Nat} (hg:l.own g):L.own g:=.inr (.inr (.inr (.inr (.inr (.inr ⟨l,List.mem_of_getElem? hl,hg⟩)))))
theorem REnAt.vs_lt (h:REnAt w L E) {g:Nat} (hg:InVs L.vs g):g<w.heap.size:=by
 obtain⟨v,hv,hg⟩:=hg
 obtain⟨k,hk,rfl⟩:=List.mem_iff_getElem.1 hv
 exact ((h.rows k _ (List.getElem?_eq_getElem hk)).lt g hg).2
theorem REnAt.own_lt (h:REnAt w L E) {g:Nat} (hg:L.own g):g<w.heap.size:=by
 rcases hg with rfl | hg | hg | hg | rfl | hg | ⟨l,hl,hg⟩
 ·exact h.lt
 ·exact (h.kept.lt g hg).2
 ·exact h.vs_lt hg
 ·exact (h.all.lt g hg).2
 ·exact h.wr.lt
 ·exact (h.hist.lt g hg).2
 ·obtain⟨i,hi,rfl⟩:=List.mem_iff_getElem.1 hl
  obtain⟨t,_,hA⟩:=h.getL (List.getElem?_eq_getElem hi)
  exact hA.own_lt hg
theorem RTagged.txo (T:RTagged L ρ) {i:Nat} {l:RTxL} (hl:L.txs[i]?=some l) {g:Nat} (hg:l.own g):∃ p,ρ g=.tx i p:=by
 rcases hg with rfl | ⟨p,hp,hg⟩
 ·exact⟨4,T.txb i l hl⟩
 ·exact⟨p,T.txr i l p g hl hp hg⟩
structure RKeeps (L:REnL) (E:REng) (w':World) (keep:RTag→Prop):Prop where
 kept:keep .kept→w'.ownsRow (L.R+1) 235 3 L.lv E.kept.length (krow E.kept)
 rows:keep .tab→∀ (k:Nat) (v:Value),L.vs[k]?=some v→w'.ownsRow (L.R+1) 3 1 v (E.T k).length (intsV (E.T k))
 all:keep .all→w'.ownsRow (L.R+1) 171 1 L.av E.txs.length (L.bs.map ptrV)
 wr:keep .byc→IMap w' L.mb E.nb (fun k=>(E.wr k).map (Value.int .i64))
 hist:keep .hist→w'.ownsRow (L.R+1) 90 4 L.hv E.hist.length (opsV E.hist)
 txs:∀ (i:Nat) (l:RTxL) (t:RTx),(∀ p,keep (.tx i p))→L.txs[i]?=some l→E.txs[i]?=some t→RTxAt w' L.bs l t
theorem REnAt.keeps (h:REnAt w L E) (T:RTagged L ρ) (keep:RTag→Prop) (hs:∀ g,L.own g→keep (ρ g)→w'.heap[g]?=w.heap[g]?):RKeeps L E w' keep :=
 ⟨fun k=>owns_same h.kept (fun g hg=>hs g (.inr (.inl hg)) (by rw [T.kept g hg];exact k)),
  fun k j v hv=>owns_same (h.rows j v hv) (fun g hg=>hs g (.inr (.inr (.inl ⟨v,List.mem_of_getElem? hv,hg⟩))) (by rw [T.tab g ⟨v,List.mem_of_getElem? hv,hg⟩];exact k)),
  fun k=>owns_same h.all (fun g hg=>hs g (.inr (.inr (.inr (.inl hg)))) (by rw [T.all g hg];exact k)),
  fun k=>h.wr.same (hs _ (.inr (.inr (.inr (.inr (.inl rfl))))) (by rw [T.byc];exact k)),
  fun k=>owns_same h.hist (fun g hg=>hs g (.inr (.inr (.inr (.inr (.inr (.inl hg)))))) (by rw [T.hist g hg];exact k)),
  fun i l t k hl ht=>(h.txs i l t hl ht).same (fun g hg=>hs g (RTxL.own_in hl hg) (by obtain⟨p,e⟩:=T.txo hl hg;rw [e];exact k p))⟩
theorem REnAt.same (h:REnAt w L E) (hs:∀ g,L.own g→w'.heap[g]?=w.heap[g]?):REnAt w' L E:=by
 obtain⟨ρ,T⟩:=h.tag
 have K:=h.keeps T (fun _=>True) (fun g hg _=>hs g hg)
 exact⟨(hs _ (.inl rfl)).trans h.blk,K.kept trivial,h.knl,h.vl,K.rows trivial,h.rnl,K.all trivial,h.len,fun i l t=>K.txs i l t (fun _=>trivial),K.wr trivial,K.hist trivial,ρ,T⟩
theorem REnAt.below (h:REnAt w L E) (hB:Below w.heap.size w w'):REnAt w' L E:=h.same (fun g hg=>hB.block g (h.own_lt hg))
theorem RTagged.fresh (T:RTagged L ρ) {n:Nat} (hlt:∀ g,L.own g→g<n) (X:RTag):RTagged L (fun g=>if g<n then ρ g else X):=by
 have e:∀ g,L.own g→(if g<n then ρ g else X)=ρ g:=fun g hg=>if_pos (hlt g hg)
 exact⟨(e _ (.inl rfl)).trans T.eng,fun g hg=>(e g (.inr (.inl hg))).trans (T.kept g hg),fun g hg=>(e g (.inr (.inr (.inl hg)))).trans (T.tab g hg),fun g hg=>(e g (.inr (.inr (.inr (.inl hg))))).trans (T.all g hg),
  (e _ (.inr (.inr (.inr (.inr (.inl rfl)))))).trans T.byc,fun g hg=>(e g (.inr (.inr (.inr (.inr (.inr (.inl hg))))))).trans (T.hist g hg),fun i l hl=>(e _ (RTxL.own_in hl (.inl rfl))).trans (T.txb i l hl),
  fun i l p g hl hp hg=>(e g (RTxL.own_in hl (.inr ⟨p,hp,hg⟩))).trans (T.txr i l p g hl hp hg)⟩
theorem fresh_new {n g:Nat} {X:RTag} (h:n≤g):(if g<n then ρ g else X)=X:=if_neg (Nat.not_lt.2 h)
theorem RTxL.row_set (l:RTxL) {p q:Nat} (v:Value) (hp:p<4) (hq:q<4):(l.setRow p v).row q=if q=p then v else l.row q:=by
 rcases p with _ | _ | _ | _ | p<;>rcases q with _ | _ | _ | _ | q<;>first | rfl | omega
theorem RTxL.setRow_b (l:RTxL) (p:Nat) (v:Value):(l.setRow p v).b=l.b:=by
 rcases p with _ | _ | _ | p<;>rfl
theorem bs_set {i:Nat} {l l':RTxL} (hl:L.txs[i]?=some l) (hb:l'.b=l.b):(L.setTx i l').bs=L.bs:=by
 unfold REnL.setTx REnL.bs
 rw [List.map_set,hb]
 refine List.ext_getElem? (fun j=>?_)
 rw [List.getElem?_set]
 split
 ·rename_i e
  subst e
  have:=(List.getElem?_eq_some_iff.1 hl).1
  rw [if_pos (by simpa using this)]
  simp [hl]
 ·rfl
theorem rsetTx_get {i:Nat} {t u:RTx} (h:E.txs[i]?=some u):(E.setTx i t).txs[i]?=some t:=by
 have:=(List.getElem?_eq_some_iff.1 h).1
 simp [REng.setTx,this]
theorem rsetTx_ne {i j:Nat} {t:RTx} (h:i≠j):(E.setTx i t).txs[j]?=E.txs[j]?:=by simp [REng.setTx,h]
theorem rbs_get {i:Nat} {l:RTxL} (hl:L.txs[i]?=some l):L.bs[i]?=some l.b:=by simp [REnL.bs,hl]
theorem REnAt.setRow (h:REnAt w L E) {i p:Nat} {l:RTxL} {t t':RTx} {v:Value} (hl:L.txs[i]?=some l) (ht:E.txs[i]?=some t) (hp:p<4)
  (hblk:w'.heap[l.b]?=some (.cells (rtxCells (l.setRow p v) t') 177 (0,0))) (hrow:w'.ownsRow 0 (rrowT p) (rrowS p) v (t'.rowN p) (t'.rowV L.bs p))
  (hsub:∀ g,v.ownBlock=some g→(l.row p).ownBlock=some g∨w.heap.size≤g) (hoth:∀ g,g<w.heap.size→g≠l.b→(l.row p).ownBlock≠some g→w'.heap[g]?=w.heap[g]?)
  (hos:w'.os=w.os∧w'.tape=w.tape∧w'.output=w.output) (hsz:w.heap.size≤w'.heap.size) (hq:∀ q,q<4→q≠p→t'.rowN q=t.rowN q∧t'.rowV L.bs q=t.rowV L.bs q) :
  REnAt w' (L.setTx i (l.setRow p v)) (E.setTx i t')∧KeptO L.own (L.setTx i (l.setRow p v)).own w w':=by
 obtain⟨ρ,T⟩:=h.tag
 have hi:=(List.getElem?_eq_some_iff.1 hl).1
 have hi2:=(List.getElem?_eq_some_iff.1 ht).1
 have hbs:(L.setTx i (l.setRow p v)).bs=L.bs:=bs_set hl (RTxL.setRow_b l p v)
 have hA:=h.txs i l t hl ht
 have hk:∀ g,L.own g→(ρ g≠.tx i 4∧ρ g≠.tx i p)→w'.heap[g]?=w.heap[g]?:=fun g hg hn=>hoth g (h.own_lt hg) (fun e=>hn.1 (e▸T.txb i l hl)) (fun e=>hn.2 (T.txr i l p g hl hp e))
 have K:=h.keeps T (fun a=>a≠.tx i 4∧a≠.tx i p) hk
 have F:=T.fresh (n:=w.heap.size) (fun g hg=>h.own_lt hg) (.tx i p)
 refine⟨⟨?_,K.kept ⟨by simp,by simp⟩,h.knl,h.vl,K.rows ⟨by simp,by simp⟩,h.rnl,?_,by simpa [REnL.setTx,REng.setTx] using h.len,fun j m u hm hu=>?_,K.wr ⟨by simp,by simp⟩,K.hist ⟨by simp,by simp⟩,_,⟨F.eng,F.kept,F.tab,F.all,F.byc,F.hist,fun j m hm=>?_,fun j m q g hm hq4 hg=>?_⟩⟩,hos.1,hos.2.1,hos.2.2,hsz,fun g hg hn=>hoth g hg (fun e=>hn (RTxL.own_in hl (.inl e))) (fun e=>hn (RTxL.own_in hl (.inr ⟨p,hp,e⟩))),fun g hg=>?_⟩
 ·exact (hk _ (.inl rfl) (by rw [T.eng];exact⟨by simp,by simp⟩)).trans h.blk
 ·rw [hbs]
  have:=K.all ⟨by simp,by simp⟩
  rw [show (E.setTx i t').txs.length=E.txs.length from by simp [REng.setTx]]
  exact this
 ·rw [hbs]
  simp only [REnL.setTx,REng.setTx,List.getElem?_set] at hm hu
  by_cases hij:i=j
  ·subst hij
   rw [if_pos rfl,if_pos hi] at hm
   rw [if_pos rfl,if_pos hi2] at hu
   cases hm
   cases hu
   refine⟨by rw [RTxL.setRow_b];exact hblk,fun q hq4=>?_⟩
   rw [RTxL.row_set l v hp hq4]
   by_cases e:q=p
   ·subst e
    rw [if_pos rfl]
    exact hrow
   ·rw [if_neg e,(hq q hq4 e).1,(hq q hq4 e).2]
    refine owns_same (hA.row q hq4) (fun g hg=>hk g (RTxL.own_in hl (.inr ⟨q,hq4,hg⟩)) ?_)
    rw [T.txr i l q g hl hq4 hg]
    exact⟨fun e2=>by injection e2 with _ e2;omega,fun e2=>by injection e2 with _ e2;exact e e2⟩
  ·rw [if_neg hij] at hm hu
   exact K.txs j m u (fun q=>⟨fun e=>by injection e with e;exact hij e.symm,fun e=>by injection e with e;exact hij e.symm⟩) hm hu
 ·simp only [REnL.setTx,List.getElem?_set] at hm
  by_cases hij:i=j
  ·subst hij
   rw [if_pos rfl,if_pos hi] at hm
   cases hm
   rw [RTxL.setRow_b]
   exact F.txb i l hl
  ·rw [if_neg hij] at hm
   exact F.txb j m hm
 ·simp only [REnL.setTx,List.getElem?_set] at hm
  by_cases hij:i=j
  ·subst hij
   rw [if_pos rfl,if_pos hi] at hm
   cases hm
   rw [RTxL.row_set l v hp hq4] at hg
   by_cases e:q=p
   ·subst e
    rw [if_pos rfl] at hg
    rcases hsub g hg with h1 | h1
    ·exact F.txr i l q g hl hq4 h1
    ·exact fresh_new h1
   ·rw [if_neg e] at hg
    exact F.txr i l q g hl hq4 hg
  ·rw [if_neg hij] at hm
   exact F.txr j m q g hm hq4 hg
 ·rcases hg with h1 | h1 | h1 | h1 | h1 | h1 | ⟨m,hm,h1⟩
  ·exact .inl (.inl h1)
  ·exact .inl (.inr (.inl h1))
  ·exact .inl (.inr (.inr (.inl h1)))
  ·exact .inl (.inr (.inr (.inr (.inl h1))))
  ·exact .inl (.inr (.inr (.inr (.inr (.inl h1)))))
  ·exact .inl (.inr (.inr (.inr (.inr (.inr (.inl h1))))))
  ·rcases List.mem_or_eq_of_mem_set hm with hm | rfl
   ·exact .inl (.inr (.inr (.inr (.inr (.inr (.inr ⟨m,hm,h1⟩))))))
   ·rcases h1 with h1 | ⟨q,hq4,h1⟩
    ·rw [RTxL.setRow_b] at h1
     exact .inl (RTxL.own_in hl (.inl h1))
    ·rw [RTxL.row_set l v hp hq4] at h1
     by_cases e:q=p
     ·subst e
      rw [if_pos rfl] at h1
      exact (hsub g h1).imp (fun h2=>RTxL.own_in hl (.inr ⟨q,hq4,h2⟩)) id
     ·rw [if_neg e] at h1
      exact .inl (RTxL.own_in hl (.inr ⟨q,hq4,h1⟩))
end
end Go.Proofs.YtjefgmeejhakbaaGreatDoor
