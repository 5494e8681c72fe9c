/- EnKeys EnCommit EnInst EnCom BsWhole BsWr: put together for a claim. -/
import Derived.Test.YtjefgmeejhakbaaGreatDoorEnShelf
import Derived.Test.YtjefgmeejhakbaaGreatDoorMgAP
import Derived.Test.YtjefgmeejhakbaaGreatDoorMgAM
import Derived.Deep.RegionHeld3
import Derived.Deep.QuietTactic
import Derived.BigQuiet
import Derived.Test.YtjefgmeejhakbaaGreatDoorMgAB
/- slices.Sorted(maps.Keys(m)), of a map of ints. -/
namespace Go.Proofs.YtjefgmeejhakbaaGreatDoor
open Go.RowKit Go.Maps Go.Sort Go.Shelf
theorem sortsI (m:Nat):AnyZI.SortsIn Tryz.prog Tryz.lSorted_ren Fence.wide m :=
  ⟨fun blk off cap ss W hH hblk hsz=>callsIn_wide.2 (AnyM.slices_Sort_int Tryz.lSortI blk off cap ss W hH hblk hsz),
   fun p cap W=>callsIn_wide.2 (AnyM.slices_Sort_int_none Tryz.lSortI p cap W)⟩
theorem keys_any (mb:Option Nat) (W:World):Calls Tryz.prog 151 #[.map mb] W fun e w'=>e=.returned (.func (.func 205) #[] #[.pointer (some ⟨W.heap.size,0,none⟩)])∧w'=W.alloc (.cells #[.map mb] 69) :=
 (callsIn_wide (n:=5)).1 (AnyZI.keys_in Tryz.lKeys Fence.wide 5 trivial rfl mb W)
def keysOf {α:Type} (f:Int→Option α):List Int:=keysP.filter (fun k=>(f k).isSome)
theorem keysOf_nodup {α:Type} (f:Int→Option α):(keysOf f).Nodup:=List.Pairwise.filter _ (by decide)
theorem keysOf_rising {α:Type} (f:Int→Option α):(keysOf f).Pairwise (fun a b=>a≤b):=List.Pairwise.filter _ (by decide)
theorem mem_keysOf {α:Type} {f:Int→Option α} (hs:∀ a,f a≠none→0≤a∧a<10) (a:Int):a∈keysOf f↔(f a).isSome=true:=by
 unfold keysOf
 rw [List.mem_filter,mem_keysP]
 constructor
 ·exact fun h=>h.2
 ·intro h
  refine⟨hs a (fun e=>?_),h⟩
  rw [e] at h
  cases h
theorem keysOf_len {α:Type} (f:Int→Option α):(keysOf f).length≤10:=List.length_filter_le _ _
theorem sorted_any {b nn:Nat} {f:Int→Option Value} {w:World} (h:IMap w b nn f) (hs:∀ a,f a≠none→0≤a∧a<10) :
  Calls Tryz.prog 150 #[.func (.func 205) #[] #[.pointer (some ⟨w.heap.size,0,none⟩)]] (w.alloc (.cells #[.map (some b)] 69)) fun e w' =>
   ∃ v,e=.returned v∧w'.ownsRow (w.heap.size+1) 3 1 v (keysOf f).length (intsV (keysOf f))∧Below (w.heap.size+1) (w.alloc (.cells #[.map (some b)] 69)) w':=by
 have h10:=h.upTo 10 hs
 obtain⟨D0,hown,h2⟩:=h10
 have hbl:=hown.lt
 have hmax:Maps.size D0≤10:=hown.size_le
 have hc:CollectedI D0 (fun _=>false) (keysOf f):=⟨keysOf_nodup f,fun x=>by rw [mem_keysOf hs,(h2 x).1];simp⟩
 have hperm0:=hc.perm hown lawI Tryz.underlying3 (fun _=>rfl)
 have hseq:SeqGives Fence.wide 2 Tryz.prog 205 #[.pointer (some ⟨w.heap.size,0,none⟩)] encZ (fun ss=>ss.Perm (intKeys D0)) (Maps.size D0) (w.alloc (.cells #[.map (some b)] 69)) :=
  AnyZI.keys_gives (ρ:=Tryz.lKeys_ren) { Tryz.lKeys with } Fence.wide _ trivial rfl (by omega) w.heap.size b 10 D0 _ (by simp) (by simp) (by
   obtain⟨es,clock,hb,Ft,hs,hD⟩:=hown
   exact⟨es,clock,(Below.heap_alloc _ _ b hbl).trans hb,Ft,hs,hD⟩)
 have cS:=AnyZI.sorted_in Tryz.lSorted Fence.wide 5 trivial trivial trivial trivial rfl (by omega) (sortsI _) (enters_of Tryz.func204 (by kernel_rfl) rfl) 205 #[.pointer (some ⟨w.heap.size,0,none⟩)] trivial (enters_of Tryz.func205 (by kernel_rfl) rfl) _ _ (by unfold maxLen;omega) (by omega) _ hseq
 change CallsIn _ _ Tryz.prog 150 _ _ _ at cS
 refine ((callsIn_wide (n:=5)).1 cS).mono ?_
 rintro e w' ⟨v,ss,rfl,hS,hrow,hnil,hb⟩
 have hp:ss.Perm (keysOf f):=hS.trans hperm0.symm
 have hm:ss.mergeSort (fun x y=>decide (x≤y))=keysOf f:=(mergeSort_of_perm_i hp).trans (List.mergeSort_of_pairwise ((keysOf_rising f).imp (fun h=>by simpa using h)))
 have hsz:(w.alloc (.cells #[.map (some b)] 69)).heap.size=w.heap.size+1:=by simp
 rw [hm,hp.length_eq] at hrow
 rw [hsz] at hrow hb
 refine⟨v,rfl,?_,hb⟩
 exact hrow
def writesP (V:Int→Option Int):List (Int × Int):=(keysOf V).map fun k=>(k,(V k).getD 0)
theorem writesP_len (V:Int→Option Int):(writesP V).length≤10:=by unfold writesP;rw [List.length_map];exact keysOf_len V
theorem keysOf_map (V:Int→Option Int):keysOf (fun k=>(V k).map (Value.int .i64))=keysOf V:=by
 unfold keysOf
 congr 1
 funext k
 show ((V k).map (Value.int .i64)).isSome=(V k).isSome
 cases V k<;>rfl
variable {w w':World} {L:EnL} {E:Eng}
set_option maxRecDepth 100000 in
set_option maxHeartbeats 2000000 in
theorem writes_any {n:Int} {l:TxL} {t:Tx} (hA:TxAt w n l t) :
  Calls Tryz.prog 94 #[.pointer (some ⟨l.b,0,none⟩)] w fun e w'=>∃ v,e=.returned v∧w'.ownsRow w.heap.size 78 2 v (writesP t.vals).length (vrow (writesP t.vals))∧Below w.heap.size w w':=by
 obtain⟨i0,hi0,hz0,hz1,hz2⟩:=info_parts info78
 have c8:=hA.c8
 have hbl:=hA.lt
 have HK:=hid (keys_any (some l.vb) w)
 have hS:=sorted_any hA.va (fun a ha=>hA.vk a (fun e=>ha (by rw [e];rfl)))
 rw [keysOf_map] at hS
 have HS:=hid hS
 have hvl:=hA.va.lt
 have HV:=hid (fun W (hB:Below w.heap.size w W)=>hA.va.same (hB.block l.vb hvl))
 have hkl:=keysOf_len t.vals
 have HKI:=hid (show ∀ a∈keysOf t.vals,I64 a∧t.vals a≠none from fun a ha=>by
  have h1:=(mem_keysOf hA.vk a).1 ha
  have h2:t.vals a≠none:=fun e=>by rw [e] at h1;cases h1
  have:=hA.vk a h2
  exact⟨by unfold I64;omega,h2⟩)
 have hwp:writesP t.vals=(keysOf t.vals).map fun k=>(k,(t.vals k).getD 0):=rfl
 obtain⟨ky,hky⟩:∃ ky,keysOf t.vals=ky:=⟨_,rfl⟩
 rw [hky] at HS hkl HKI hwp
 rw [hwp]
 clear hA hS hwp hky
 go_enter Tryz.func94,Tryz.ntmps94
 go_wp2_with fail
 refine HK.out.mono ?_
 rintro e w1 ⟨rfl,hw1⟩
 rw [hw1]
 clear hw1 w1 HK
 go_wp2_with fail
 refine HS.out.mono ?_
 rintro e w2 ⟨kv,rfl,ho,hB2⟩
 obtain⟨ad,cap,rfl⟩:=row_form ho
 have hB:Below w.heap.size w w2:=((Below.refl _ w).alloc (Nat.le_refl _) _).trans (hB2.mono (by omega))
 have hadg:Hid (∀ j a,ky[j]?=some a→∃ g,ad=some ⟨g,0,none⟩∧g<w2.heap.size∧w.heap.size+1≤g∧w2.cell? ⟨g,j,none⟩=some (.int .i64 a)):=fun j a ha=>by
  rcases row_slice ho with ⟨e1,e2⟩ | ⟨g,cap',e1,hg,hc⟩
  ·have:=(List.getElem?_eq_some_iff.1 ha).1;omega
  ·have hb:=(ho.lt g (by rw [e1];rfl)).1
   injection e1 with e1
   exact⟨g,e1,hg,hb,hc j _ (intsV_get ha)⟩
 have HB:=hid hB
 have hs2:=hB.size
 clear ho hB2 HS hB
 go_wp2
 go_loopw [3,13] (fun tv iv wr=>∃ j:Nat,j≤ky.length∧iv=.int .i64 j∧wr.ownsRow w2.heap.size 78 2 tv ((ky.take j).map fun k=>(k,(t.vals k).getD 0)).length (vrow ((ky.take j).map fun k=>(k,(t.vals k).getD 0)))∧Below w2.heap.size w2 wr) (fun _ iv _=>ky.length-(intOf iv).toNat)
 case atStart=>exact⟨0,by omega,rfl,by simpa [vrow] using World.ownsRow_nil w2 w2.heap.size 78 2,Below.refl _ _⟩
 case round =>
  obtain⟨j,hj,rfl,hown,hB⟩:=hrel
  have hBs:=hB.size
  by_cases hlt:j<ky.length
  ·obtain⟨a,ha⟩:∃ a,ky[j]?=some a:=⟨ky[j],List.getElem?_eq_getElem hlt⟩
   obtain⟨g,rfl,hg,hg2,hc⟩:=hadg.out j a ha
   obtain⟨hia,hna⟩:=HKI.out a (List.mem_of_getElem? ha)
   have hc':=(hB.cell (p:=⟨g,j,none⟩) hg).trans hc
   have hBw:Below w.heap.size w wr:=HB.out.trans (hB.mono (by omega))
   have c8':=(hBw.cell (p:=⟨l.b,8,none⟩) hbl).trans c8
   have hlk:=(HV.out wr hBw).look1 Tryz.underlying69 (zeroI wr) hia
   rw [getD_map] at hlk
   obtain⟨x,hx⟩:∃ x,(t.vals a).getD 0=x:=⟨_,rfl⟩
   rw [hx] at hlk
   have hst:Hid (vrow ((ky.take (j+1)).map fun k=>(k,(t.vals k).getD 0))=vrow ((ky.take j).map fun k=>(k,(t.vals k).getD 0))++[.int .i64 a,.int .i64 x]):=by
    show _=_
    rw [List.take_add_one,ha,List.map_append,vrow_append]
    simp [vrow,hx]
   have hlj:((ky.take j).map fun k=>(k,(t.vals k).getD 0)).length=j:=by simp;omega
   have hlj2:((ky.take (j+1)).map fun k=>(k,(t.vals k).getD 0)).length=j+1:=by simp;omega
   rw [hlj] at hown
   have HO:=hid hown
   have hj0:(0:Int)≤(j:Int):=by omega
   have hj1:(j:Int)<(ky.length:Int):=by omega
   clear hown ha hc hx hna hlj
   go_wp2_with (at_builtin;refine wpList_append_lies _ rfl _ _ _ rfl w2.heap.size 78 i0 _ 2 16 Tryz.underlying23 hi0 hz0 hz1 hz2 rfl (by omega) u3 _ _ rfl (HO.out.alloc _) ⟨wr.heap.size,0,none⟩ 1 1 [.int .i64 a,.int .i64 x] rfl rfl (World.news_of_block (cs:=#[.int .i64 a,.int .i64 x]) (t:=78) (fr:=(0,0)) (heap_alloc_new wr _)) (by simp [Value.oneCell']) (by omega) (by unfold maxLen;omega) (by omega) (by simp;omega) (wr.heap.size+1) (by simp) ?_;intro g' cap' w3 ho hgrow hat hlt2)
   go_roundw
   case rel =>
    refine⟨j+1,by omega,by go_num,?_,?_⟩
    ·rw [hst.out,hlj2];exact ho
    ·exact hB.trans ((((Below.refl _ wr).alloc (Nat.le_refl _) _).mono hBs).grown hgrow (by simp;omega) (fun k e=>(HO.out.lt k e).1))
   case measure=>simp [intOf];omega
  ·rw [List.take_of_length_le (by omega)] at hown
   have HO:=hid hown
   have HBF:=hid (HB.out.trans (hB.mono hs2))
   clear hown hB
   go_wp2
   go_ret
   exact⟨_,rfl,owns_base HO.out hs2,HBF.out⟩
end Go.Proofs.YtjefgmeejhakbaaGreatDoor
/- engine.install, Commit. -/
namespace Go.Proofs.YtjefgmeejhakbaaGreatDoor
open Go.RowKit
variable {w w':World} {L:EnL} {E:Eng}
def installE (E:Eng) (i:Nat):Eng:=match E.txs[i]? with
 | some t=>if writesP t.vals=[]∨1099511627776<E.last+1 then E else { E with last:=E.last+1,ks:=instP (E.last+1) (writesP t.vals) E.ks,wr:=updT E.wr (E.last+1) (some ((i:Int)+1)),nw:=E.nw+1 }
 | none=>E
noncomputable def commitE (f:Nat) (E:Eng) (i:Nat):Option (Int × Eng):=match E.txs[i]? with
 | some t=>if betB t.ahead t.behind=true then (endF f (loseE E i 13) i 3).map (fun E'=>(13,E')) else
  (endF f { (installE E i) with com:=E.com++[i] } i 2).map (fun E'=>(0,E'))
 | none=>none
theorem P_set16 (L:EnL) (last:Int) (hlv:L.vs.length=10) (v:Value):(L.P.cells last L.vs).setIfInBounds 16 v=({ L with cv:=v }:EnL).P.cells last L.vs:=by
 unfold Tail.cells
 rw [List.setIfInBounds_toArray,show 16=15+1 from rfl,List.set_cons_succ,List.set_append_right _ _ (by omega),hlv]
 rfl
theorem P_set14 (L:EnL) (last:Int) (hlv:L.vs.length=10) (v:Value):(L.P.cells last L.vs).setIfInBounds 14 v=({ L with av:=v }:EnL).P.cells last L.vs:=by
 unfold Tail.cells
 rw [List.setIfInBounds_toArray,show 14=13+1 from rfl,List.set_cons_succ,List.set_append_right _ _ (by omega),hlv]
 rfl
theorem EnAt.setWr (h:EnAt w L E) {a x:Int} (ha:I64 a) (hn:E.nw≤1000000000) :
  ∃ w',(Instr.mapUpdate 69 (.map (some L.wb)) (.int .i64 a) (.int .i64 x)).run Tryz.prog w=.ok () w'∧EnAt w' L { E with wr:=updT E.wr a (some x),nw:=E.nw+1 }∧KeptO L.own L.own w w':=by
 obtain⟨w',hr,hI,hg⟩:=h.wr.store Tryz.underlying69 (by unfold maxLen;omega) ha (.int .i64 x)
 rw [show updT (fun k=>(E.wr k).map (Value.int .i64)) a (some (.int .i64 x))=fun k=>(updT E.wr a (some x) k).map (Value.int .i64) from (updT_map E.wr a (some x)).symm] at hI
 have hb:∀ g,g<w.heap.size→g≠L.wb→w'.heap[g]?=w.heap[g]?:=fun g hg' hne=>hg.block g hg' (fun e=>hne (by injection e))
 obtain⟨ρ,T⟩:=h.tag
 have hk:∀ g,L.own g→ρ g≠.wr→w'.heap[g]?=w.heap[g]?:=fun g hg' hn=>hb g (h.own_lt hg') (fun e=>hn (by rw [e];exact T.wr))
 refine⟨w',hr,⟨h.sto.kept (hk _ (.inl rfl) (by rw [T.eng];exact nofun)) (fun g hg=>hk g (.inr (.inl hg)) (by rw [T.srow g hg];exact nofun)),
  h.loc.same (fun g hg=>hk g (.inr (.inr (.inl hg))) (by
   by_cases hgs:g=L.s
   ·rw [hgs,T.eng];exact nofun
   ·rw [T.lock g hg hgs];exact nofun)),h.good,h.mem,owns_same h.all (fun g hg=>hk g (.inr (.inr (.inr (.inl hg)))) (by rw [T.all g hg];exact nofun)),h.len,h.le,hI,
  owns_same h.com (fun g hg=>hk g (.inr (.inr (.inr (.inr (.inr (.inl hg)))))) (by rw [T.com g hg];exact nofun)),h.coml,
  fun i l t hl ht=>(h.txs i l t hl ht).same (fun g hg=>hk g (TxL.own_in hl hg) (by rw [T.tx i l g hl hg];exact nofun)),ρ,T⟩,?_⟩
 exact⟨hg.os,hg.tape,hg.output,hg.size,fun g hg' hn=>hb g hg' (fun e=>hn (e▸.inr (.inr (.inr (.inr (.inl rfl)))))),fun g hg=>.inl hg⟩
theorem EnAt.addCom (h:EnAt w L E) {i:Nat} {l:TxL} (hl:L.txs[i]?=some l) {w1:World} {gg cap m:Nat} (hm:E.com.length=m)
  (hown:w1.ownsRow 0 179 1 (.slice (some ⟨gg,0,none⟩) (m+1) cap) (m+1) ((E.com.map fun i=>ptrV (L.bs[i]?.getD 0))++[.pointer (some ⟨l.b,0,none⟩)]))
  (hos:w1.os=w.os∧w1.tape=w.tape∧w1.output=w.output) (hsz:w.heap.size≤w1.heap.size) (hb:∀ g,g<w.heap.size→L.cv.ownBlock≠some g→w1.heap[g]?=w.heap[g]?) (hat:L.cv.ownBlock=some gg∨w.heap.size≤gg) :
  EnAt (w1.setCell ⟨L.s,16,none⟩ (.slice (some ⟨gg,0,none⟩) (m+1) cap)) { L with cv:=.slice (some ⟨gg,0,none⟩) (m+1) cap } { E with com:=E.com++[i] } ∧
   KeptO L.own ({ L with cv:=.slice (some ⟨gg,0,none⟩) (m+1) cap }:EnL).own w (w1.setCell ⟨L.s,16,none⟩ (.slice (some ⟨gg,0,none⟩) (m+1) cap)):=by
 obtain⟨ρ,T⟩:=h.tag
 have hsl:=h.sto.lt
 have hcs:L.cv.ownBlock≠some L.s:=fun e=>by have h1:=T.com _ e;rw [T.eng] at h1;cases h1
 have hgs:gg≠L.s:=by
  rcases hat with h1 | h1
  ·exact fun e=>hcs (e▸h1)
  ·omega
 have hblk:=setCell_at (o:=16) (v:=.slice (some ⟨gg,0,none⟩) (m+1) cap) ((hb L.s hsl hcs).trans h.sto.blk)
 rw [P_set16 L E.last h.lv] at hblk
 have ho:∀ g,g≠L.s→(w1.setCell ⟨L.s,16,none⟩ (.slice (some ⟨gg,0,none⟩) (m+1) cap)).heap[g]?=w1.heap[g]?:=fun g hg=>heap_setCell_other _ ⟨L.s,16,none⟩ g _ hg
 have hk:∀ g,L.own g→ρ g≠.eng→ρ g≠.com→(w1.setCell ⟨L.s,16,none⟩ (.slice (some ⟨gg,0,none⟩) (m+1) cap)).heap[g]?=w.heap[g]?:=fun g hg h1 h2 =>
  (ho g (fun e=>h1 (by rw [e];exact T.eng))).trans (hb g (h.own_lt hg) (fun e=>h2 (T.com g e)))
 have hi:i<E.txs.length:=by have:=(List.getElem?_eq_some_iff.1 hl).1;have:=h.len;omega
 refine⟨⟨h.sto.reblk hblk (fun g hg=>hk g (.inr (.inl hg)) (by rw [T.srow g hg];exact nofun) (by rw [T.srow g hg];exact nofun)),
  h.loc.reblk (C':=({ L with cv:=.slice (some ⟨gg,0,none⟩) (m+1) cap }:EnL).C E.last) (hblk.trans (by rw [← EnL.cells_eq];rfl)) (fun g hg hne=>hk g (.inr (.inr (.inl hg))) (by rw [T.lock g hg hne];exact nofun) (by rw [T.lock g hg hne];exact nofun)),h.good,h.mem,
  owns_same h.all (fun g hg=>hk g (.inr (.inr (.inr (.inl hg)))) (by rw [T.all g hg];exact nofun) (by rw [T.all g hg];exact nofun)),h.len,h.le,
  h.wr.same (hk _ (.inr (.inr (.inr (.inr (.inl rfl))))) (by rw [T.wr];exact nofun) (by rw [T.wr];exact nofun)),?_,?_,
  fun i l t hl ht=>(h.txs i l t hl ht).same (fun g hg=>hk g (TxL.own_in (L:=L) hl hg) (by rw [T.tx i l g hl hg];exact nofun) (by rw [T.tx i l g hl hg];exact nofun)),fun g=>if g<w.heap.size then ρ g else .com,?_⟩,?_⟩
 ·rw [show (({ E with com:=E.com++[i] }:Eng).com).length=m+1 from by simp [hm],show (({ E with com:=E.com++[i] }:Eng).com.map fun i=>ptrV (({ L with cv:=.slice (some ⟨gg,0,none⟩) (m+1) cap }:EnL).bs[i]?.getD 0))=(E.com.map fun i=>ptrV (L.bs[i]?.getD 0))++[.pointer (some ⟨l.b,0,none⟩)] from by
   show (E.com++[i]).map (fun i=>ptrV (L.bs[i]?.getD 0))=_
   rw [List.map_append,List.map_singleton,bs_get hl]
   rfl]
  exact owns_same hown (fun g hg=>ho g (by
   have:gg=g:=by simpa [Value.ownBlock] using hg
   rw [← this];exact hgs))
 ·intro j hj
  rcases List.mem_append.1 hj with h1 | h1
  ·exact h.coml j h1
  ·rw [List.mem_singleton.1 h1];exact hi
 ·have hlt:∀ g,L.own g→(if g<w.heap.size then ρ g else Tag.com)=ρ g:=fun g hg=>if_pos (h.own_lt hg)
  refine⟨(hlt _ (.inl rfl)).trans T.eng,fun g hg=>(hlt g (.inr (.inl hg))).trans (T.srow g hg),fun g hg hn=>(hlt g (.inr (.inr (.inl hg)))).trans (T.lock g hg hn),fun g hg=>(hlt g (.inr (.inr (.inr (.inl hg))))).trans (T.all g hg),(hlt _ (.inr (.inr (.inr (.inr (.inl rfl)))))).trans T.wr,
   fun g hg=>?_,fun j m g hm hg=>(hlt g (TxL.own_in (L:=L) hm hg)).trans (T.tx j m g hm hg)⟩
  have hgg:gg=g:=by simpa [Value.ownBlock] using hg
  subst hgg
  rcases hat with h1 | h1
  ·exact (hlt gg (.inr (.inr (.inr (.inr (.inr (.inl h1))))))).trans (T.com gg h1)
  ·simp only [if_neg (Nat.not_lt.2 h1)]
 ·refine⟨hos.1,hos.2.1,hos.2.2,by simpa using hsz,fun g hg hn=>(ho g (fun e=>hn (.inl e))).trans (hb g hg (fun e=>hn (.inr (.inr (.inr (.inr (.inr (.inl e)))))))),fun g hg=>?_⟩
  rcases hg with h1 | h1 | h1 | h1 | h1 | h1 | h1
  ·exact .inl (.inl h1)
  ·exact .inl (.inr (.inl h1))
  ·exact .inl (.inr (.inr (.inl h1)))
  ·exact .inl (.inr (.inr (.inr (.inl h1))))
  ·exact .inl (.inr (.inr (.inr (.inr (.inl h1)))))
  ·have hgg:gg=g:=by simpa [Value.ownBlock] using h1
   subst hgg
   rcases hat with h2 | h2
   ·exact .inl (.inr (.inr (.inr (.inr (.inr (.inl h2))))))
   ·exact .inr h2
  ·exact .inl (.inr (.inr (.inr (.inr (.inr (.inr h1))))))
end Go.Proofs.YtjefgmeejhakbaaGreatDoor
/- engine.install. -/
namespace Go.Proofs.YtjefgmeejhakbaaGreatDoor
open Go.RowKit
variable {w w':World} {L:EnL} {E:Eng}
theorem writesP_nil {V:Int→Option Int} (hv:∀ k,V k≠none→0≤k∧k<10):writesP V=[]↔∀ a,V a=none:=by
 unfold writesP
 rw [List.map_eq_nil_iff]
 constructor
 ·intro h a
  cases ha:V a with
  | none=>rfl
  | some x =>
   have:=(mem_keysOf hv a).2 (by rw [ha];rfl)
   rw [h] at this
   cases this
 ·intro h
  unfold keysOf
  rw [List.filter_eq_nil_iff]
  intro a _
  rw [h a]
  simp
theorem vals_len {n:Int} {l:TxL} {t:Tx} (hA:TxAt w n l t):∃ k:Nat,k≤10∧(∀ ty,(Builtin.len_ #[69] ty #[.map (some l.vb)]).run Tryz.prog w=.ok (.int .i64 k) w)∧(k=0↔writesP t.vals=[]):=by
 obtain⟨k,h1,h2,h3⟩:=hA.va.len Tryz.underlying69
 refine⟨k,h1,h2,h3.trans ((writesP_nil hA.vk).trans ?_).symm⟩
 constructor
 ·intro h a;show (t.vals a).map _=none;rw [h a];rfl
 ·intro h a
  have:=h a
  cases hv:t.vals a with
  | none=>rfl
  | some x=>rw [hv] at this;cases this
theorem vrow_wrow {W:World} {g:Nat} {ws:List (Int × Int)} (h:∀ j u,(vrow ws)[j]?=some u→W.cell? ⟨g,j,none⟩=some u):WRow W g 0 ws:=fun j a v e=>by
 have hx:=vrow_get ws j a v e
 exact⟨by rw [Nat.zero_add];exact h _ _ hx.1,by rw [Nat.zero_add];exact h _ _ hx.2⟩
def FineV (t:Tx):Prop:=∀ k v,t.vals k=some v→-1099511627776≤v∧v≤1099511627776
theorem writesP_fine {t:Tx} (hv:∀ k,t.vals k≠none→0≤k∧k<10) (hf:FineV t):∀ p∈writesP t.vals,Fine p:=fun p hp=>by
 obtain⟨k,hk,rfl⟩:=List.mem_map.1 hp
 have h1:=(mem_keysOf hv k).1 hk
 cases hx:t.vals k with
 | none=>rw [hx] at h1;cases h1
 | some x =>
  have h2:=hv k (by rw [hx];exact nofun)
  have h3:=hf k x hx
  exact⟨by simp [keyB];omega,by simpa using h3.1,by simpa using h3.2⟩
set_option maxRecDepth 100000 in
set_option maxHeartbeats 2000000 in
theorem install_any (h:EnAt w L E) (hf:Fits E) {i:Nat} {l:TxL} {t:Tx} (hl:L.txs[i]?=some l) (ht:E.txs[i]?=some t) (hfv:FineV t) (hlast:0≤E.last∧E.last≤1099511627776) (hnw:E.nw≤1000000000) :
    Calls Tryz.prog 104 #[.pointer (some ⟨L.s,0,none⟩),.pointer (some ⟨l.b,0,none⟩)] w fun e w'=>e=.returned (.tuple #[])∧EnPost L (installE E i) w w':=by
  have hA:=h.txs i l t hl ht
  have c8:=hA.c8
  obtain⟨kk,hkk,hlen,hk0⟩:=vals_len hA
  have hI:installE E i=if writesP t.vals=[]∨1099511627776<E.last+1 then E else { E with last:=E.last+1,ks:=instP (E.last+1) (writesP t.vals) E.ks,wr:=updT E.wr (E.last+1) (some ((i:Int)+1)),nw:=E.nw+1 }:=by
    unfold installE;rw [ht]
  by_cases hz:kk=0
  · subst hz
    rw [hI,if_pos (.inl (hk0.1 rfl))]
    have HP:=hid (show EnPost L E w w from ⟨L,h,KeptO.refl _ _,rfl,rfl⟩)
    clear h hf hl ht hA hI hk0
    go_enter Tryz.func104,Tryz.ntmps104
    go_wp2
    refine bodyPost_ret (results_none rfl _ _ _) rfl ?_
    exact⟨rfl,HP.out⟩
  · have g0:((kk:Int)==0)=false:=by simp;omega
    have hwn:writesP t.vals≠[]:=fun e=>hz (hk0.2 e)
    have hwl:=writesP_len t.vals
    have HL:=hid (last_any _ _ _ _ _ w h.sto)
    have hd:Below w.heap.size w w.drew:=below_drewN (Below.refl _ w) 1
    have hW:Calls Tryz.prog 94 #[.pointer (some ⟨l.b,0,none⟩)] w.drew fun e w1=>∃ g cap,e=.returned (.slice (some ⟨g,0,none⟩) (writesP t.vals).length cap)∧Below w.heap.size w w1∧WRow w1 g 0 (writesP t.vals)∧w.heap.size≤g∧g<w1.heap.size:=by
      refine (writes_any ((h.below hd).txs i l t hl ht)).mono ?_
      rintro e w1 ⟨v,rfl,ho,hB⟩
      rcases row_slice ho with ⟨e1,e2⟩ | ⟨g,cap,e1,hg,hc⟩
      · exact (hwn (List.eq_nil_of_length_eq_zero e2)).elim
      · exact⟨g,cap,by rw [e1],hd.trans hB,vrow_wrow hc,(ho.lt g (by rw [e1];rfl)).1,hg⟩
    have HW:=hid hW
    have gw:IntKind.i64.wrap (E.last+1)=E.last+1:=IntWalk.i64_in _ (by omega)
    have HH:=hid h
    have HLL:=hid hl
    have HT:=hid ht
    by_cases hm:1099511627776<E.last+1
    · rw [hI,if_pos (.inr hm)]
      have HIN:=hid (fun W (hB:Below w.heap.size w W) lv=>install_order _ _ _ (E.last+1) lv _ _ W (h.below hB).sto (.inr hm))
      obtain⟨la,hla⟩:∃ la,E.last=la:=⟨_,rfl⟩
      rw [hla] at HL HIN gw
      clear h hf hl ht hA hI hk0 hW hm hla hlast hwn
      go_enter Tryz.func104,Tryz.ntmps104
      go_wp2_with fail
      refine HL.out.mono ?_
      rintro e w1 ⟨rfl,hw1⟩
      rw [hw1]
      clear hw1 w1
      go_wp2
      go_region_held3 (fun W=>True)
        (first | go_keep | trivial)
        (first | (go_at_call 94
                  refine HW.out.mono ?_
                  rintro e w2 ⟨g,cap,rfl,hB2,hws,hg1,hg2⟩
                  have HB2:=hid hB2
                  clear hB2 hws)
               | (go_at_call 76
                  refine (HIN.out w2 HB2.out _).mono ?_
                  rintro e w3 ⟨rfl,hw3⟩
                  rw [hw3]
                  clear hw3 w3))
      have HP:=hid (show EnPost L E w w2 from ⟨L,HH.out.below HB2.out,KeptO.of_below HB2.out,rfl,rfl⟩)
      go_wp2
      refine bodyPost_end (results_none rfl _ _ _) rfl ?_
      exact⟨rfl,HP.out⟩
    · rw [hI,if_neg (fun e=>e.elim hwn hm)]
      have HIN:=hid (show ∀ W g cap,Below w.heap.size w W→WRow W g 0 (writesP t.vals)→w.heap.size≤g→g<W.heap.size →
          Calls Tryz.prog 76 #[.pointer (some ⟨L.s,0,none⟩),.int .i64 (E.last+1),.slice (some ⟨g,0,none⟩) (writesP t.vals).length cap] W fun e w3=>e=.returned .nilIface∧∃ vs',
            EnAt w3 { L with vs:=vs' } { E with last:=E.last+1,ks:=instP (E.last+1) (writesP t.vals) E.ks }∧KeptO L.own ({ L with vs:=vs' }:EnL).own w w3 from fun W g cap hB hws hg1 hg2=>by
        have hE:=h.below hB
        refine (install_good _ _ g 0 cap _ (E.last+1) _ _ (writesP t.vals) W hE.sto (by have:=hE.sto.lt;omega) hws (fun hr=>by have:=(h.sto.row hr).2;omega) (by have:=h.sto.lt;omega) hg2 (writesP_fine hA.vk hfv) (by omega) (by omega) (by omega) hf.len).mono ?_
        rintro e w3 ⟨rfl,vs',hS,hK⟩
        obtain⟨h3,k3⟩:=hE.setSto hS hK
        exact⟨rfl,vs',h3,KeptO.below_l hB k3⟩)
      have hi64:I64 (E.last+1):=by unfold I64;omega
      have HIX:=hid hi64
      obtain⟨lz,hlz⟩:∃ lz,E.last=lz:=⟨_,rfl⟩
      rw [hlz] at HIN HIX gw HL ⊢
      clear h hf hl ht hA hI hk0 hW hm hlast hwn hi64 hlz
      go_enter Tryz.func104,Tryz.ntmps104
      go_wp2_with fail
      refine HL.out.mono ?_
      rintro e w1 ⟨rfl,hw1⟩
      rw [hw1]
      clear hw1 w1
      go_wp2
      go_region_held3 (fun W=>True)
        (first | go_keep | trivial)
        (first | (go_at_call 94
                  refine HW.out.mono ?_
                  rintro e w2 ⟨g,cap,rfl,hB2,hws,hg1,hg2⟩
                  have HB2:=hid (And.intro hB2 (And.intro hws (And.intro hg1 hg2)))
                  clear hB2 hws hg1 hg2)
               | (go_at_call 76
                  refine (HIN.out w2 g cap HB2.out.1 HB2.out.2.1 HB2.out.2.2.1 HB2.out.2.2.2).mono ?_
                  rintro e w3 ⟨rfl,vs',hE3,hK3⟩
                  have HE3:=hid (And.intro hE3 hK3)
                  clear hE3 hK3))
      have hE3:=HE3.out.1
      have c15:=hE3.c15
      have hA3:=hE3.txs (L:={ L with vs:=vs' }) i l t HLL.out HT.out
      have c0:=hA3.c0
      obtain⟨w4,hr,hE4,hK4⟩:=(hE3.below (w':=w3.drew) (below_drewN (Below.refl _ w3) 1)).setWr (x:=(i:Int)+1) HIX.out hnw
      have d15:=hE4.c15
      have hA4:=hE4.txs (L:={ L with vs:=vs' }) i l t HLL.out HT.out
      have d0:=hA4.c0
      have HP:=hid (show EnPost L _ w w4 from ⟨{ L with vs:=vs' },hE4,HE3.out.2.trans (KeptO.below_l (below_drewN (Below.refl _ w3) 1) hK4),rfl,rfl⟩)
      clear hE3 hA3 hE4 hK4 hA4
      go_wp2
      go_region_held3 (fun W=>W.cell? ⟨L.s,15,none⟩=some (.map (some L.wb))∧W.cell? ⟨l.b,0,none⟩=some (.int .i64 ((i:Int)+1)))
        (first | go_keep | exact⟨d15,d0⟩)
        (fail)
      go_wp2
      refine bodyPost_end (results_none rfl _ _ _) rfl ?_
      exact⟨rfl,HP.out⟩
end Go.Proofs.YtjefgmeejhakbaaGreatDoor
/- engine.Commit, Ready, Writes. -/
namespace Go.Proofs.YtjefgmeejhakbaaGreatDoor
open Go.RowKit
variable {w w':World} {L:EnL} {E:Eng}
set_option maxRecDepth 100000 in
set_option maxHeartbeats 1000000 in
theorem writesE_ok (h:EnAt w L E) {i:Nat} {t:Tx} (ht:E.txs[i]?=some t) :
  Calls Tryz.prog 28 #[.pointer (some ⟨L.s,0,none⟩),.int .i64 ((i:Int)+1)] w fun e w'=>∃ v,e=.returned (.tuple #[v,.nilIface])∧w'.ownsRow w.heap.size 78 2 v (writesP t.vals).length (vrow (writesP t.vals))∧Below w.heap.size w w':=by
 obtain⟨l,hl,hA⟩:=h.get ht
 have HO:=hid (find_ok h hl)
 have HW:=hid (writes_any hA)
 clear h ht hl hA
 go_enter Tryz.func28,Tryz.ntmps28
 go_wp2_with fail
 refine HO.out.mono ?_
 rintro e w1 ⟨rfl,hw1⟩
 rw [hw1]
 clear hw1 w1
 go_wp2_with fail
 refine HW.out.mono ?_
 rintro e w1 ⟨v,rfl,ho,hB⟩
 have HF:=hid (And.intro ho hB)
 clear ho hB HW
 go_wp2
 go_ret2
 exact⟨v,rfl,HF.out⟩
set_option maxRecDepth 100000 in
set_option maxHeartbeats 1000000 in
theorem writesE_err (h:EnAt w L E) {n:Int} (hn:n<1∨(E.txs.length:Int)<n) :
  Calls Tryz.prog 28 #[.pointer (some ⟨L.s,0,none⟩),.int .i64 n] w fun e w'=>e=.returned (.tuple #[.slice none 0 0,errV 7])∧w'=w:=by
 have HO:=hid (find_err h hn)
 rw [show errV 7=Value.iface 24 (.int .i64 7) from rfl] at HO ⊢
 clear h hn
 go_enter Tryz.func28,Tryz.ntmps28
 go_wp2_with fail
 refine HO.out.mono ?_
 rintro e w1 ⟨rfl,rfl⟩
 go_wp2
 go_ret2
 exact⟨rfl,rfl⟩
theorem installE_rest (E:Eng) (i:Nat):(installE E i).txs=E.txs∧(installE E i).com=E.com∧(installE E i).T=E.T:=by
 unfold installE
 split
 ·split<;>exact⟨rfl,rfl,rfl⟩
 ·exact⟨rfl,rfl,rfl⟩
set_option maxRecDepth 100000 in
set_option maxHeartbeats 1000000 in
theorem commit_shut (h:EnAt w L E) {n c:Int} (hc:(c=7∧(n<1∨(E.txs.length:Int)<n))∨(c=6∧∃ (i:Nat) (t:Tx),n=(i:Int)+1∧E.txs[i]?=some t∧t.state≠0)) :
  Calls Tryz.prog 37 #[.pointer (some ⟨L.s,0,none⟩),.int .i64 n] w fun e w'=>e=.returned (errV c)∧w'=w:=by
 have HO:Hid (Calls Tryz.prog 102 #[.pointer (some ⟨L.s,0,none⟩),.int .i64 n] w fun e w'=>e=.returned (.tuple #[.pointer none,errV c])∧w'=w):=by
  rcases hc with ⟨rfl,hn⟩ | ⟨rfl,i,t,rfl,ht,hs⟩
  ·exact open_err h hn
  ·obtain⟨l,hl,_⟩:=h.get ht
   exact open_state h hl ht hs
 have h0:c≠0:=by rcases hc with ⟨rfl,_⟩ | ⟨rfl,_⟩<;>decide
 rw [show errV c=Value.iface 24 (.int .i64 c) from if_neg h0] at HO ⊢
 clear h hc h0
 go_enter Tryz.func37,Tryz.ntmps37
 go_wp2_with fail
 refine HO.out.mono ?_
 rintro e w1 ⟨rfl,rfl⟩
 go_wp2
 go_ret
 exact⟨rfl,rfl⟩
set_option maxRecDepth 100000 in
set_option maxHeartbeats 4000000 in
theorem commit_main (h:EnAt w L E) (hf:Fits E) {f:Nat} {i:Nat} {t:Tx} (ht:E.txs[i]?=some t) (hs:t.state=0) (hfv:FineV t) (hlast:0≤E.last∧E.last≤1099511627776) (hnw:E.nw≤1000000000) (hcom:E.com.length≤1000000000)
    (hks:∀ l∈(installE E i).ks,l.length≤100000) {R:Int × Eng} (hR:commitE f E i=some R) :
    Calls Tryz.prog 37 #[.pointer (some ⟨L.s,0,none⟩),.int .i64 ((i:Int)+1)] w fun e w'=>e=.returned (errV R.1)∧EnPost L R.2 w w':=by
  obtain⟨i0,hi0,hz0,hz1,hz2⟩:=info_parts info179
  obtain⟨l,hl,hA⟩:=h.get ht
  have HO:=hid (open_ok h hl ht hs)
  have HB:=hid (between_any l.b l.ab l.hb 201 201 t.ahead t.behind w hA.c20 hA.c21 hA.ah hA.be)
  unfold commitE at hR
  rw [ht] at hR
  simp only at hR
  have HL:=hid hl
  have hbi:=bs_get hl
  cases hb:betB t.ahead t.behind with
  | true =>
    rw [hb] at HB hR
    rw [if_pos rfl] at hR
    obtain⟨E9,hE9,hR2⟩:∃ E9,endF f (loseE E i 13) i 3=some E9∧R=(13,E9):=by
      cases he:endF f (loseE E i 13) i 3 with
      | none=>rw [he] at hR;cases hR
      | some E9=>rw [he] at hR;simp at hR;exact⟨E9,rfl,hR.symm⟩
    have HC:=hid (lose_any (end_ok f) h hl ht 13 hf.len hE9)
    have HR2:=hid hR2
    clear h hf ht hs hfv hks hR hA hl hb hE9 hR2 hbi
    go_enter Tryz.func37,Tryz.ntmps37
    go_wp2_with fail
    refine HO.out.mono ?_
    rintro e w1 ⟨rfl,hw1⟩
    rw [hw1]
    clear hw1 w1
    go_wp2_with fail
    refine HB.out.mono ?_
    rintro e w1 ⟨rfl,hw1⟩
    rw [hw1]
    clear hw1 w1
    go_wp2_with fail
    refine HC.out.mono ?_
    rintro e w1 ⟨rfl,hP⟩
    have HP:=hid hP
    clear hP HC
    go_wp2
    go_ret
    rw [HR2.out]
    exact⟨rfl,HP.out⟩
  | false =>
    rw [hb] at HB hR
    rw [if_neg (by simp)] at hR
    obtain⟨E9,hE9,hR2⟩:∃ E9,endF f { (installE E i) with com:=E.com++[i] } i 2=some E9∧R=(0,E9):=by
      cases he:endF f { (installE E i) with com:=E.com++[i] } i 2 with
      | none=>rw [he] at hR;cases hR
      | some E9=>rw [he] at hR;simp at hR;exact⟨E9,rfl,hR.symm⟩
    have HI:=hid (install_any h hf hl ht hfv hlast hnw)
    have HR2:=hid hR2
    have hir:=installE_rest E i
    have HE9:=hid hE9
    have HKS:=hid hks
    have hlb:l.b=l.b:=rfl
    clear h hf ht hs hfv hks hR hA hl hb hE9 hR2
    go_enter Tryz.func37,Tryz.ntmps37
    go_wp2_with fail
    refine HO.out.mono ?_
    rintro e w1 ⟨rfl,hw1⟩
    rw [hw1]
    clear hw1 w1
    go_wp2_with fail
    refine HB.out.mono ?_
    rintro e w1 ⟨rfl,hw1⟩
    rw [hw1]
    clear hw1 w1
    go_wp2_with fail
    refine HI.out.mono ?_
    rintro e w1 ⟨rfl,L1,hE1,hK1,hs1,hb1⟩
    obtain⟨l1,hl1,hlb1⟩:∃ l1,L1.txs[i]?=some l1∧l1.b=l.b:=by
      have:L1.bs[i]?=some l.b:=by rw [hb1];exact hbi
      simp only [EnL.bs,List.getElem?_map,Option.map_eq_some_iff] at this
      exact this
    have c16:=hE1.c16
    have hf16:w1.frozen? ⟨L1.s,16,none⟩=false:=hE1.sto.free 16
    have hrow:=hE1.com
    obtain⟨ad,cap,hcv⟩:=row_form hrow
    obtain⟨m,hm⟩:∃ m,(installE E i).com.length=m:=⟨_,rfl⟩
    have hm2:m≤1000000000:=by rw [← hm,hir.2.1];exact hcom
    rw [hm] at hrow hcv
    rw [hcv] at c16
    rw [hs1] at c16 hf16
    have hsl:L.s<w1.heap.size:=by have:=hE1.sto.lt;rw [hs1] at this;exact this
    have hcs:L1.cv.ownBlock≠some L.s:=fun e=>by
      obtain⟨ρ,T⟩:=hE1.tag
      have h1:=T.com _ e
      have h2:=T.eng
      rw [hs1] at h2
      rw [h2] at h1;cases h1
    have HE1:=hid hE1
    have HK1:=hid hK1
    have HL1:=hid (And.intro hl1 hlb1)
    have HM:=hid hm
    have HCV:=hid hcv
    have HSB:=hid (And.intro hs1 hb1)
    have HCS:=hid hcs
    rw [hcv] at hrow hcs
    have HROW:=hid hrow
    have HCS2:=hid hcs
    clear hE1 hK1 hl1 hlb1 hrow hm hcv hs1 hb1 hcs HI
    go_wp2_with (at_builtin;refine wpList_append_lies _ rfl _ _ _ rfl 0 179 i0 _ 1 8 Tryz.underlying160 hi0 hz0 hz1 hz2 rfl (by omega) (.slice ad m cap) _ _ rfl (HROW.out.alloc _) ⟨w1.heap.size,0,none⟩ 1 1 [.pointer (some ⟨l.b,0,none⟩)] rfl rfl (World.news_of_block (cs:=#[.pointer (some ⟨l.b,0,none⟩)]) (t:=179) (fr:=(0,0)) (heap_alloc_new w1 _)) (by simp [Value.oneCell']) (by omega) (by unfold maxLen;omega) (by omega) (by simp) (w1.heap.size+1) (by simp) ?_;intro gg cap' w2 ho hgrow hat hlt2;have hsb:w2.heap[L.s]?=w1.heap[L.s]?:=(hgrow.block L.s (by simp;omega) (fun e=>HCS2.out e.symm)).trans (Below.heap_alloc w1 _ L.s hsl);have d16:=(World.cell?_of_block (a:=⟨L.s,16,none⟩) hsb).trans c16;have e16:=(World.frozen?_of_block (a:=⟨L.s,16,none⟩) hsb).trans hf16;clear hsb)
    have hcb:L1.cv.ownBlock=(Value.slice ad m cap).ownBlock:=by rw [HCV.out]
    obtain⟨h3,k3⟩:=HE1.out.addCom HL1.out.1 HM.out (w1:=w2) (gg:=gg) (cap:=cap') (by rw [HL1.out.2];exact ho) ⟨hgrow.os,hgrow.tape,hgrow.output⟩ (by have:=hgrow.size;simp at this;omega)
      (fun g hg hne=>(hgrow.block g (by simp;omega) (fun e=>hne (by rw [hcb];exact e.symm))).trans (Below.heap_alloc w1 _ g hg)) (by
        rcases hat with h1 | h1
        · exact .inl (by rw [hcb];exact h1)
        · exact .inr (by omega))
    rw [show ({ (installE E i) with com:=(installE E i).com++[i] }:Eng)={ (installE E i) with com:=E.com++[i] } from by rw [hir.2.1]] at h3
    have hend:=end_ok f _ _ _ E9 i l.b 2 h3 (by show L1.bs[i]?=some l.b;rw [HSB.out.2];exact hbi) HKS.out HE9.out
    rw [show ({ L1 with cv:=.slice (some ⟨gg,0,none⟩) (m+1) cap' }:EnL).s=L.s from HSB.out.1] at hend
    rw [HSB.out.1] at k3
    have HC:=hid hend
    have HK3:=hid (HK1.out.trans k3)
    clear h3 k3 hend hcb ho hgrow hat
    go_wp2_with fail
    refine HC.out.mono ?_
    rintro e w4 ⟨rfl,L4,hE4,hK4,hs4,hb4⟩
    have HP:=hid (show EnPost L E9 w w4 from ⟨L4,hE4,HK3.out.trans hK4,hs4,hb4.trans HSB.out.2⟩)
    clear hE4 hK4 hs4 hb4 HC
    go_wp2
    go_ret
    rw [HR2.out]
    exact⟨rfl,HP.out⟩
end Go.Proofs.YtjefgmeejhakbaaGreatDoor
/- base's isWhole: whether bytes are all those of a commit. -/
namespace Go.Proofs.YtjefgmeejhakbaaGreatDoor
open Go.RowKit
def wholeP (l:List Int):Bool:=match l with
 | []=>false
 | x::_=>decide ((l.length:Int)=x*9+9)&&((numN (l.drop (l.length-8)) 8:Nat):Int)==sumP (l.take (l.length-8))
theorem BytesAt.drop {w:World} {g off:Nat} {l:List Int} (h:BytesAt w (some ⟨g,off,none⟩) l) (d:Nat):BytesAt w (some ⟨g,off+d,none⟩) (l.drop d):=fun i x hx=>by
 rw [List.getElem?_drop] at hx
 obtain⟨h1,g',off',e,hc⟩:=h (d+i) x hx
 cases e
 exact⟨h1,g,off+d,rfl,by rw [Nat.add_assoc];exact hc⟩
theorem BytesAt.take {w:World} {ad:Option Addr} {l:List Int} (h:BytesAt w ad l) (d:Nat):BytesAt w ad (l.take d):=fun i x hx=>by
 rw [List.getElem?_take] at hx
 split at hx
 ·exact h i x hx
 ·cases hx
theorem BytesAt.same {w w':World} {ad:Option Addr} {l:List Int} (h:BytesAt w ad l) (hs:∀ a:Addr,ad.map (·.block)=some a.block→w'.cell? a=w.cell? a):BytesAt w' ad l:=fun i x hx=>by
 obtain⟨h1,g,off,e,hc⟩:=h i x hx
 exact⟨h1,g,off,e,(hs ⟨g,off+i,none⟩ (by rw [e];rfl)).trans hc⟩
set_option maxRecDepth 100000 in
set_option maxHeartbeats 1000000 in
theorem whole_any (ad:Option Addr) (cap:Nat) (l:List Int) (w:World) (hn:l.length≤10000) (hcap:l.length≤cap) (hA:BytesAt w ad l) :
  Calls Tryz.prog 208 #[.slice ad l.length cap] w fun e w'=>e=.returned (.bool (wholeP l))∧∃ q,w'=w.drewN q:=by
 cases hl:l with
 | nil =>
  clear hA
  go_enter Tryz.func208,Tryz.ntmps208
  go_wp2
  go_ret
  exact⟨rfl,0,rfl⟩
 | cons x r =>
  rw [← hl]
  obtain⟨hx,g,off,rfl,c0⟩:=hA 0 x (by rw [hl];rfl)
  rw [Nat.add_zero] at c0
  have hw0:wholeP l=(decide ((l.length:Int)=x*9+9)&&((numN (l.drop (l.length-8)) 8:Nat):Int)==sumP (l.take (l.length-8))):=by rw [hl];rfl
  have hpos:0<l.length:=by rw [hl];simp
  have gm:IntKind.i64.wrap (x*9)=x*9:=IntWalk.i64_in _ (by omega)
  have gm2:IntKind.i64.wrap (1+x*9)=1+x*9:=IntWalk.i64_in _ (by omega)
  have gm3:IntKind.i64.wrap (1+x*9+8)=1+x*9+8:=IntWalk.i64_in _ (by omega)
  by_cases hlen:(l.length:Int)=x*9+9
  ·have ge:IntKind.i64.wrap ((l.length:Int)-8)=((l.length-8:Nat):Int):=by rw [show (l.length:Int)-8=((l.length-8:Nat):Int) by omega];exact IntWalk.i64_in _ (by omega)
   obtain⟨d,hd⟩:∃ d,l.length-8=d:=⟨_,rfl⟩
   have hdl:l.length=d+8:=by omega
   rw [hd] at ge
   have HN:=hid (fun q=>bnumber_any (some ⟨g,off+d,none⟩) 8 (cap-d) (l.drop d) (w.drewN q) (Nat.le_refl _) ((hA.drop d).same (fun a _=>by simp)) (by rw [List.length_drop];omega))
   have HS:=hid (fun q=>bsum_any (some ⟨g,off,none⟩) cap (l.take d) (w.drewN q) (by rw [List.length_take];omega) ((hA.take d).same (fun a _=>by simp)))
   have hw:wholeP l=(((numN (l.drop d) 8:Nat):Int)==sumP (l.take d)):=by
    rw [hw0,hd,decide_eq_true hlen,Bool.true_and]
   rw [List.length_take,Nat.min_eq_left (by omega)] at HS
   rw [hw]
   obtain⟨nn,hnn⟩:∃ nn:Int,((numN (l.drop d) 8:Nat):Int)=nn:=⟨_,rfl⟩
   obtain⟨ss,hss⟩:∃ ss,sumP (l.take d)=ss:=⟨_,rfl⟩
   rw [hnn] at HN
   rw [hss] at HS
   rw [hnn,hss]
   obtain⟨len,hle⟩:∃ len,l.length=len:=⟨_,rfl⟩
   rw [hle] at ge hdl hcap hn hlen
   rw [hle]
   clear hA hw hw0 hnn hss hd hl hpos hle
   subst hdl
   have g0:((d:Int)+8==0)=false:=by simp;omega
   have gne:((d:Int)+8 != 1+x*9+8)=false:=by simp;omega
   have gl0:(0:Int)<(d:Int)+8:=by omega
   have ge2:IntKind.i64.wrap ((d:Int)+8-8)=(d:Int):=by rw [show (d:Int)+8-8=(d:Int) by omega];exact IntWalk.i64_in _ (by omega)
   clear hlen
   go_enter Tryz.func208,Tryz.ntmps208
   go_wp2
   go_quiet (first | (go_at_call 209;refine Calls.quiet_of_same (HN.out _)) | (go_at_call 158;refine Calls.quiet_of_same (HS.out _)))
   go_wp2
   go_ret
   exact⟨rfl,_,rfl⟩
  ·have gne:((l.length:Int) != 1+x*9+8)=true:=by simp;omega
   have g0:((l.length:Int)==0)=false:=beq_false_of_ne (by omega)
   have gl0:(0:Int)<(l.length:Int):=by omega
   have hw:wholeP l=false:=by
    rw [hw0,decide_eq_false hlen,Bool.false_and]
   rw [hw]
   clear hA hw hl hw0
   go_enter Tryz.func208,Tryz.ntmps208
   go_wp2
   go_ret
   exact⟨rfl,0,rfl⟩
end Go.Proofs.YtjefgmeejhakbaaGreatDoor
/- base's writesOf: what a commit wrote, of its bytes. -/
namespace Go.Proofs.YtjefgmeejhakbaaGreatDoor
open Go.RowKit
theorem split_at {α:Type} {l:List α} {i:Nat} {p:α} (h:l[i]?=some p):l=l.take i++p::l.drop (i+1):=by
 obtain⟨h1,h2⟩:=List.getElem?_eq_some_iff.1 h
 rw [← h2,List.getElem_cons_drop,List.take_append_drop]
theorem rec_drop {ws:List (Int × Int)} {i:Nat} {a x:Int} (h:ws[i]?=some (a,x)):∃ r,(recP ws).drop (1+9*i)=a::(bytesN (valN x) 8++r):=by
 have hi:=(List.getElem?_eq_some_iff.1 h).1
 have hl:((ws.take i).flatMap wrB).length=9*i:=by rw [flat_len9,List.length_take];omega
 refine⟨(ws.drop (i+1)).flatMap wrB++bytesN (sumN (headP ws)) 8,?_⟩
 obtain⟨s,hs⟩:∃ s,bytesN (sumN (headP ws)) 8=s:=⟨_,rfl⟩
 unfold recP
 rw [hs]
 unfold headP
 rw [List.cons_append,Nat.add_comm,List.drop_succ_cons]
 conv=>lhs;rw [split_at h]
 rw [List.flatMap_append,List.flatMap_cons,List.append_assoc,List.drop_append_of_le_length (by omega),List.drop_of_length_le (by omega),List.nil_append]
 unfold wrB
 simp
theorem rec_key {ws:List (Int × Int)} {i:Nat} {a x:Int} (h:ws[i]?=some (a,x)):(recP ws)[1+9*i]?=some a:=by
 obtain⟨r,hr⟩:=rec_drop h
 have:=List.getElem?_drop (xs:=recP ws) (i:=1+9*i) (j:=0)
 rw [hr] at this
 simpa using this.symm
theorem rec_num {ws:List (Int × Int)} {i:Nat} {a x:Int} (h:ws[i]?=some (a,x)):numN ((recP ws).drop (1+9*i+1)) 8=valN x:=by
 obtain⟨r,hr⟩:=rec_drop h
 have:(recP ws).drop (1+9*i+1)=bytesN (valN x) 8++r:=by
  rw [← List.drop_drop,hr]
  rfl
 rw [this]
 exact number_bytes (valN_lt x) r
theorem val_back {x:Int} (h:I64 x):IntKind.i64.wrap ((valN x:Nat):Int)=x:=by
 unfold I64 at h
 unfold valN
 rw [IntKind.wrap_i64]
 have h1:=Int.emod_nonneg x (show (18446744073709551616:Int)≠0 by decide)
 omega
set_option maxRecDepth 100000 in
set_option maxHeartbeats 1000000 in
theorem writesOf_any (g off cap:Nat) (ws:List (Int × Int)) (w:World) (hn:ws.length≤10) (hx:∀ p∈ws,I64 p.2) (hcap:(recP ws).length≤cap) (hg:g<w.heap.size) (hA:BytesAt w (some ⟨g,off,none⟩) (recP ws)) :
    Calls Tryz.prog 155 #[.slice (some ⟨g,off,none⟩) (recP ws).length cap] w fun e w'=>∃ v',e=.returned v'∧w'.ownsRow w.heap.size 78 2 v' ws.length (vrow ws)∧Below w.heap.size w w':=by
  obtain⟨i0,hi0,hz0,hz1,hz2⟩:=info_parts info78
  have HA:=hid hA
  have HX:=hid hx
  rw [recP_len] at hcap ⊢
  obtain⟨m,hm⟩:∃ m,ws.length=m:=⟨_,rfl⟩
  have c0:w.cell? ⟨g,off,none⟩=some (.int .u8 (m:Int)):=by
    obtain⟨_,g',off',e,hc⟩:=hA 0 (m:Int) (by rw [← hm];rfl)
    cases e
    rw [Nat.add_zero] at hc
    exact hc
  have HM:=hid hm
  rw [hm] at hn hcap ⊢
  have gl0:(0:Int)<((9+9*m:Nat):Int):=by omega
  clear hA hx hm
  go_enter Tryz.func155,Tryz.ntmps155
  go_wp2
  go_loopw [3,10] (fun tv iv wr=>∃ i:Nat,iv=.int .i64 i∧i≤m∧Hid (wr.ownsRow w.heap.size 78 2 tv i (vrow (ws.take i))∧Below w.heap.size w wr)) (fun _ iv _=>m-(intOf iv).toNat)
  case atStart=>exact⟨0,rfl,Nat.zero_le _,by simpa [vrow] using World.ownsRow_nil w w.heap.size 78 2,Below.refl _ _⟩
  case round =>
    obtain⟨i,rfl,hi,HI⟩:=hrel
    by_cases hlt:i<m
    · obtain⟨⟨a,x⟩,hax⟩:∃ p,ws[i]?=some p:=⟨_,List.getElem?_eq_getElem (by have:=HM.out;omega)⟩
      have hB:=HI.out.2
      have hbs:=hB.size
      have hAr:BytesAt wr (some ⟨g,off,none⟩) (recP ws):=HA.out.same (fun ad hd=>hB.cell (show ad.block<w.heap.size by
        have h5:g=ad.block:=by simpa using hd
        rw [← h5]
        exact hg))
      obtain⟨hb,g',off',e,hck⟩:=hAr _ _ (rec_key hax)
      cases e
      have hvx:=val_back (HX.out _ (List.mem_of_getElem? hax))
      have hck':wr.cell? ⟨g,off+(1+i*9),none⟩=some (.int .u8 a):=by rw [Nat.mul_comm i 9];exact hck
      have hdr:BytesAt wr.drew (some ⟨g,off+(1+i*9)+1,none⟩) ((recP ws).drop (1+9*i+1)):=by
        rw [Nat.mul_comm i 9,Nat.add_assoc]
        exact (hAr.drop (1+9*i+1)).same (fun _ _=>rfl)
      have hln:9≤9+9*m-(1+i*9):=by omega
      have hln2:9+9*m-(1+i*9)≤cap-(1+i*9):=by omega
      have gm:IntKind.i64.wrap ((i:Int)*9)=(i:Int)*9:=IntWalk.i64_in _ (by omega)
      have gm2:IntKind.i64.wrap (1+(i:Int)*9)=1+(i:Int)*9:=IntWalk.i64_in _ (by omega)
      have gi1:(i:Int)<(m:Int):=by omega
      have hnum:=rec_num hax
      have hdl:8≤((recP ws).drop (1+9*i+1)).length:=by rw [List.length_drop,recP_len];have:=HM.out;omega
      have HR:=hid HI.out.1
      have HB:=hid hB
      have HAX:=hid hax
      simp only at hvx
      clear hck hAr hax hB
      go_wp2
      obtain⟨pp,hpp⟩:∃ pp,off+(1+i*9)=pp:=⟨_,rfl⟩
      obtain⟨LL,hLL⟩:∃ LL,9+9*m-(1+i*9)=LL+9:=⟨9+9*m-(1+i*9)-9,by omega⟩
      obtain⟨CC,hCC⟩:∃ CC,cap-(1+i*9)=LL+9+CC:=⟨cap-(1+i*9)-(LL+9),by omega⟩
      rw [hpp] at hck' hdr
      rw [hpp,hLL,hCC]
      have HN:=hid (fun (nn cc:Nat) (h8:8≤nn)=>bnumber_any (some ⟨g,pp+1,none⟩) nn cc ((recP ws).drop (1+9*i+1)) wr.drew h8 hdr hdl)
      rw [hnum] at HN
      have hfar:some g≠u3.ownBlock:=fun e=>by have:=(HR.out.lt g e.symm).1;omega
      have HFAR:=hid hfar
      have hgr:g<wr.heap.size:=by omega
      obtain⟨vn,hvn⟩:∃ vn:Int,((valN x:Nat):Int)=vn:=⟨_,rfl⟩
      rw [hvn] at HN hvx
      clear hpp hLL hCC hdr hnum hdl gm gm2 hfar hvn hln hln2
      have gL0:(0:Int)<(LL:Int)+9:=by omega
      have gL1:(1:Int)≤(LL:Int)+9:=by omega
      have gL2:(LL:Int)+9≤(LL:Int)+9+(CC:Int):=by omega
      have gL3:1≤LL+9:=by omega
      have gka:IntKind.i64.wrap a=a:=IntWalk.i64_in _ (by omega)
      have gL4:¬ (LL+9+CC=1):=by omega
      go_region_held3 (fun W=>W.cell? ⟨g,pp,none⟩=some (.int .u8 a))
        (first | go_keep | exact y0)
        (first
          | (go_at_call 209
             refine (HN.out _ _ (by omega)).mono ?_
             rintro e w4 ⟨rfl,rfl⟩
             have y0:=hck')
          | (refine step_append_lies _ (by rfl) (.tmp 18) (.tmp 28) 23 (by rfl) w.heap.size 78 i0 _ 2 16 Tryz.underlying23 hi0 hz0 hz1 hz2 rfl (by omega) u3 i (vrow (ws.take i)) (by rfl) ((HR.out.alloc _).drew) ⟨wr.heap.size,0,none⟩ 1 1 [.int .i64 a,.int .i64 x] (by rfl) (by rfl) (World.news_of_block (cs:=#[.int .i64 a,.int .i64 x]) (t:=78) (fr:=(0,0)) (heap_alloc_new wr _)) (by simp [Value.oneCell']) (by omega) (by unfold maxLen;omega) (by omega) (by simp;omega) (wr.heap.size+1) (by simp) ?_
             intro gg cap' w5 hown5 hgrow hat hlt5
             have y0:w5.cell? ⟨g,pp,none⟩=some (.int .u8 a):=(World.cell?_of_block (a:=⟨g,pp,none⟩) ((hgrow.block g (by simp;omega) HFAR.out).trans (Below.heap_alloc wr _ g hgr))).trans hck')
          | fail)
      have HF:=hid (And.intro (show w5.ownsRow w.heap.size 78 2 (.slice (some ⟨gg,0,none⟩) (i+1) cap') (i+1) (vrow (ws.take (i+1))) by
        rw [List.take_add_one,HAX.out]
        simp only [Option.toList_some]
        rw [vrow_append]
        exact hown5) (HB.out.trans ((((Below.refl _ wr).alloc (Nat.le_refl _) _).drew.mono hbs).grown hgrow (by simp;omega) (fun q e=>(HR.out.lt q e).1))))
      clear hown5 hgrow hat y0
      go_wp2
      go_roundw
      case rel=>exact⟨i+1,by go_num,by omega,HF.out⟩
      case measure=>simp [intOf];omega
    · obtain rfl:i=m:=by omega
      have gi1:¬ (i:Int)<(i:Int):=by omega
      have h1:=HI.out
      rw [List.take_of_length_le (by have:=HM.out;omega)] at h1
      have HF:=hid h1
      clear h1
      go_wp2
      go_ret
      exact⟨_,rfl,HF.out⟩
end Go.Proofs.YtjefgmeejhakbaaGreatDoor
