/- DkMap DkHelp BsBw BsCommit BsCommitW BsCr DkNum DkBnd BpStop BpDsk: put together for a claim. -/
import Derived.Test.YtjefgmeejhakbabGreatDoorMgAM
import Derived.Maps.OwnSet
import Derived.Sort.KeysCollected
import Derived.Test.YtjefgmeejhakbabGreatDoorDkIter
import Derived.Test.YtjefgmeejhakbabGreatDoorMgAO
import Derived.Test.YtjefgmeejhakbabGreatDoorEnHist
import Derived.Test.YtjefgmeejhakbabGreatDoorMgAU
import Derived.Test.YtjefgmeejhakbabGreatDoorMgAJ
namespace Go.Proofs.YtjefgmeejhakbabGreatDoor
open Go.RowKit
open Go.Maps (Keyed)
structure Cmd where
 word:List UInt8
 many:Nat
 fn:Nat
def cmds:List Cmd:=[
 ⟨[119,114,105,116,101],3,47⟩,
 ⟨[119,97,105,116,115],1,46⟩,
 ⟨[115,119,101,101,112],0,45⟩,
 ⟨[115,116,97,116,101],1,44⟩,
 ⟨[114,101,97,100],2,43⟩,
 ⟨[111,112,101,110],0,42⟩,
 ⟨[110,111,119],0,41⟩,
 ⟨[108,105,110,101],0,40⟩,
 ⟨[104,105,115,116,111,114,121],0,39⟩,
 ⟨[104,101,108,112],0,38⟩,
 ⟨[99,117,116],2,37⟩,
 ⟨[99,111,109,109,105,116],1,36⟩,
 ⟨[98,101,103,105,110],1,35⟩,
 ⟨[97,108,108],0,34⟩,
 ⟨[97,98,111,114,116],1,33⟩]
def cmdV (S:Nat) (c:Cmd):Value:=.agg #[.int .i64 (c.many:Int),.func (.func c.fn) #[.pointer (some ⟨S,0,none⟩)] #[]]
def cmdD (S:Nat):List Cmd→DataW Value
 | []=>.map []
 | c::r=>(cmdD S r).put (.string c.word) (.held (cmdV S c))
def cmdOf (l:List Cmd) (a:List UInt8):Option Cmd:=l.find? (fun c=>c.word==a)
def CMap (w:World) (b S:Nat) (l:List Cmd):Prop:=w.ownsMap Tryz.prog 9 anyElem b l.length (cmdD S l)
theorem lawS:Keyed Tryz.prog 9:=Maps.string_keyed Tryz.underlying9
theorem keyS {a:List UInt8} (h:a.length≤1000000000):keyOf Tryz.prog 9 (txt a)=some (.string a):=by
 have:(⟨a.toArray⟩:ByteArray).size≤maxLen:=by unfold maxLen;simp [ByteArray.size];omega
 simp [keyOf,Tryz.underlying9,mapKey,this]
theorem strNe {a b:List UInt8} (h:a≠b):Lit.string a≠Lit.string b:=fun e=>h (by injection e)
section
variable {w w':World} {b S:Nat} {l:List Cmd}
theorem CMap.lt (h:CMap w b S l):b<w.heap.size:=World.ownsMap.lt h
theorem CMap.same (h:CMap w b S l) (hs:w'.heap[b]?=w.heap[b]?):CMap w' b S l:=by
 obtain⟨es,clock,hb,r⟩:=h
 exact⟨es,clock,hs.trans hb,r⟩
theorem CMap.ne (h:CMap w b S l) {g:Nat} {cs:Array Value} {t:TypeId} {fr:Nat × Nat} (hg:w.heap[g]?=some (.cells cs t fr)):b≠g:=by
 rintro rfl
 obtain⟨es,clock,hb,r⟩:=h
 rw [hb] at hg
 cases hg
theorem CMap.made (w:World) (S:Nat):CMap (w.alloc (.map #[] 0)) w.heap.size S []:=World.ownsMap_made w _ _ _
theorem CMap.store (h:CMap w b S l) (hn:l.length<100) (c:Cmd) (hc:c.word.length≤1000000000) :
  ∃ w',(Instr.mapUpdate 86 (.map (some b)) (txt c.word) (cmdV S c)).run Tryz.prog w=.ok () w'∧CMap w' b S (c::l)∧w.grownBy w' (some b):=by
 obtain⟨w',hr,h3,h4⟩:=World.ownsMap.update h lawS Tryz.underlying86 (by unfold maxLen;omega) (keyS hc) (val:=cmdV S c) (d:=.held (cmdV S c)) (ps:=[]) rfl
 exact⟨w',hr,h3,h4⟩
theorem isKeyS (a:List UInt8):WideAt.IsKeyLit (.string a):=trivial
theorem cmdD_map (S:Nat):∀ l,∃ es,cmdD S l=.map es
 | []=>⟨_,rfl⟩
 | c::r=>by
  obtain⟨es,h⟩:=cmdD_map S r
  exact⟨_,by unfold cmdD;rw [h];rfl⟩
theorem CMap.at (S:Nat):∀ (l:List Cmd) (a:List UInt8),Maps.has (cmdD S l) (.string a)=(cmdOf l a).isSome∧∀ z,(cmdD S l).atKey (.string a) z=match cmdOf l a with
  | some c=>.held (cmdV S c)
  | none=>z
 | [],a=>⟨rfl,fun z=>rfl⟩
 | c::r,a=>by
  have ih:=CMap.at S r a
  have hm:=cmdD_map S r
  unfold cmdD
  by_cases e:c.word=a
  ·have e1:cmdOf (c::r) a=some c:=by unfold cmdOf;rw [List.find?_cons_of_pos (by simp [e])]
   rw [e1,← e]
   exact⟨Maps.has_put_same hm (isKeyS _) _,fun z=>Maps.atKey_put_same hm (isKeyS _) _ z⟩
  ·have e1:cmdOf (c::r) a=cmdOf r a:=by unfold cmdOf;rw [List.find?_cons_of_neg (by simp [e])]
   rw [e1]
   exact⟨(Maps.has_put_other (strNe (fun e'=>e e'.symm)) _).trans ih.1,fun z=>(Maps.atKey_put_other (strNe (fun e'=>e e'.symm)) _ z).trans (ih.2 z)⟩
def cmdZ:Value:=.agg #[.int .i64 0,.nilFunc]
theorem CMap.look (h:CMap w b S l) {a:List UInt8} (ha:a.length≤1000000000) :
  (Instr.lookup 86 (.map (some b)) (txt a) true).run Tryz.prog w=.ok (.tuple #[((cmdOf l a).map (cmdV S)).getD cmdZ,.bool (cmdOf l a).isSome]) w:=by
 obtain⟨v,ps,hr,hv⟩:=World.ownsMap.look_ok h lawS Tryz.underlying86 (z:=cmdZ) (by kernel_rfl) (zd:=.held cmdZ) (zp:=[]) rfl (keyS ha)
 obtain⟨h1,h2⟩:=CMap.at S l a
 rw [hr,h1]
 rw [h2] at hv
 simp only [anyElem,Option.some.injEq,Prod.mk.injEq] at hv
 have e:v=((cmdOf l a).map (cmdV S)).getD cmdZ:=by
  cases hf:cmdOf l a with
  | none=>rw [hf] at hv;injection hv.1
  | some c=>rw [hf] at hv;injection hv.1
 rw [e]
end
end Go.Proofs.YtjefgmeejhakbabGreatDoor
namespace Go.Proofs.YtjefgmeejhakbabGreatDoor
open Go.RowKit Go.Maps Go.Sort Go.Shelf
theorem sortsS (m:Nat):AnyZ.SortsIn Tryz.prog Tryz.kSorted_ren Fence.wide m :=
  ⟨fun blk off cap ss W hH hblk hsz=>callsIn_wide.2 (AnyM.slices_Sort_string Tryz.kSort blk off cap ss W hH hblk hsz),
   fun p cap W=>callsIn_wide.2 (AnyM.slices_Sort_string_none Tryz.kSort p cap W)⟩
theorem keysS_any (mb:Option Nat) (W:World):Calls Tryz.prog 106 #[.map mb] W fun e w'=>e=.returned (.func (.func 183) #[] #[.pointer (some ⟨W.heap.size,0,none⟩)])∧w'=W.alloc (.cells #[.map mb] 86) :=
 callsIn_wide.1 (AnyZ.keys_in Tryz.kKeys Fence.wide 5 trivial rfl mb W)
set_option maxHeartbeats 1000000 in
theorem sortedS_any {H:Type} (b nn:Nat) (D0:DataW H) (R:Value→Option (DataW H × List MemPlace)) (w:World) (hown:w.ownsMap Tryz.prog 9 R b nn D0) (hmax:Maps.size D0≤maxLen) (hbytes:Maps.size D0*16≤140737488355328) :
  Calls Tryz.prog 105 #[.func (.func 183) #[] #[.pointer (some ⟨w.heap.size,0,none⟩)]] (w.alloc (.cells #[.map (some b)] 86)) fun e w'=>∃ (v:Value) (ss:List (List UInt8)),e=.returned v∧ss.Perm (strKeys D0) ∧
   w'.ownsRow (w.alloc (.cells #[.map (some b)] 86)).heap.size 9 1 v ss.length ((ss.mergeSort (fun x y=>decide (x≤y))).map encStr)∧(v=.slice none 0 0↔ss=[])∧Below (w.alloc (.cells #[.map (some b)] 86)).heap.size (w.alloc (.cells #[.map (some b)] 86)) w':=by
 have hbl:=hown.lt
 have hseq:SeqGives Fence.wide 2 Tryz.prog 183 #[.pointer (some ⟨w.heap.size,0,none⟩)] encStr (fun ss=>ss.Perm (strKeys D0)) (Maps.size D0) (w.alloc (.cells #[.map (some b)] 86)) :=
  AnyZ.keys_gives (ρ:=Tryz.kKeys_ren) { Tryz.kKeys with } Fence.wide _ trivial rfl (by omega) w.heap.size b nn D0 _ (by simp) (by simp) (by
   obtain⟨es,clock,hb,Ft,hs,hD⟩:=hown
   exact⟨es,clock,(Below.heap_alloc _ _ b hbl).trans hb,Ft,hs,hD⟩)
 exact callsIn_wide.1 (AnyZ.sorted_in Tryz.kSorted Fence.wide 5 trivial trivial trivial trivial rfl (by omega) (sortsS _) (enters_of Tryz.func182 (by kernel_rfl) rfl) 183 #[.pointer (some ⟨w.heap.size,0,none⟩)] trivial (enters_of Tryz.func183 (by kernel_rfl) rfl) _ _ hmax hbytes _ hseq)
def helpWords:List (List UInt8):=(cmds.map Cmd.word).reverse
theorem cmdD_keys (S:Nat):strKeys (cmdD S cmds)=helpWords:=by kernel_rfl
theorem cmdD_size (S:Nat):Maps.size (cmdD S cmds)=15:=by kernel_rfl
theorem help_pw:helpWords.Pairwise (fun x y=>decide (x≤y)=true):=by decide +kernel
theorem help_sorted {ss:List (List UInt8)} (h:ss.Perm helpWords):ss.mergeSort (fun x y=>decide (x≤y))=helpWords:=by
 rw [show ss.mergeSort (fun x y=>decide (x≤y))=helpWords.mergeSort (fun x y=>decide (x≤y)) from mergeSort_of_perm h]
 exact List.mergeSort_of_pairwise help_pw
def helpT:List UInt8:=Lib.join helpWords [32]
set_option maxRecDepth 100000 in
theorem help_any {w:World} {S mb:Nat} {v:Value} {cs:Array Value} {fr:Nat × Nat} (hs:w.heap[S]?=some (.cells cs 88 fr)) (h2:cs[2]?=some (.map (some mb))) (hm:CMap w mb S cmds) :
  Calls Tryz.prog 38 #[.pointer (some ⟨S,0,none⟩),v] w fun e w'=>e=.returned (txt helpT)∧Below w.heap.size w w':=by
 have c2:=cell_of_row w S 2 cs 88 fr hs
 rw [h2] at c2
 have hK:=keysS_any (some mb) w
 have hS:=sortedS_any mb cmds.length (cmdD S cmds) anyElem w hm (by rw [cmdD_size];decide) (by rw [cmdD_size];decide)
 have HJ:=hid (fun (W:World) (base:Nat) (u:Value) (hr:W.ownsRow base 9 1 u helpWords.length (helpWords.map txt))=>join_row hr [32] (by decide) (by decide +kernel))
 clear hs h2 hm
 go_enter Tryz.func38,Tryz.ntmps38
 go_wp2_with (first
  | (go_at_call 106;refine hK.mono ?_;rintro e w1 ⟨rfl,rfl⟩)
  | (go_at_call 105;refine hS.mono ?_;rintro e w2 ⟨u,ss,rfl,hp,hrow,_,hB⟩;rw [cmdD_keys] at hp;rw [help_sorted hp,hp.length_eq] at hrow)
  | (go_at_call 69;refine (HJ.out _ _ _ hrow).mono ?_;rintro e w3 ⟨rfl,hB3⟩))
 go_ret
 refine⟨rfl,?_⟩
 have hs1:=hB.size
 simp only [World.size_alloc] at hs1
 exact ((Below.refl _ w).alloc (Nat.le_refl _) _).trans ((hB.mono (by simp)).trans (hB3.mono (by omega)))
end Go.Proofs.YtjefgmeejhakbabGreatDoor
namespace Go.Proofs.YtjefgmeejhakbabGreatDoor
open Go.RowKit
structure KeptB (b d:Nat) (w w':World):Prop where
 os:w'.os=w.os
 tape:w'.tape=w.tape
 output:w'.output=w.output
 size:w.heap.size≤w'.heap.size
 block:∀ k,k<w.heap.size→k≠b→k≠d→w'.heap[k]?=w.heap[k]?
theorem recP_in (ws:List (Int × Int)) (hn:ws.length≤10) (hk:∀ p∈ws,0≤p.1∧p.1<10):∀ x∈recP ws,0≤x∧x<256:=fun x hx=>by
 unfold recP at hx
 rcases List.mem_append.1 hx with hx | hx
 ·exact headP_in ws hn hk x hx
 ·exact bytesN_in _ _ x hx
theorem drewN_same (w:World):∀ q,(w.drewN q).os=w.os∧(w.drewN q).tape=w.tape∧(w.drewN q).output=w.output∧(w.drewN q).heap.size=w.heap.size∧∀ k:Nat,(w.drewN q).heap[k]?=w.heap[k]?
 | 0=>⟨rfl,rfl,rfl,rfl,fun _=>rfl⟩
 | q+1=>drewN_same w q
section
variable {w:World} {b d:Nat} {L:EnL} {E:Eng} {dv:List Value} {D:Dsk} {torn:Int} {recs:List (List (Int × Int))} {ws:List (Int × Int)} {g off cap:Nat}
set_option maxRecDepth 100000 in
set_option maxHeartbeats 1000000 in
theorem bwrite_ok (h:BasAt w b d L E dv D recs.length torn false) (hr:Recs D recs) (hw:ws.length≤10) (hA:BytesAt w (some ⟨g,off,none⟩) (recP ws)) (hleft:D.cut=true→I64 (D.left-1)) (hlt:recs.length<250) (hpw:powerB D=true) :
    Calls Tryz.prog 179 #[.pointer (some ⟨b,0,none⟩),.slice (some ⟨g,off,none⟩) (recP ws).length cap] w fun e w'=>e=.returned .nilIface∧∃ dv',BasAt w' b d L E dv' (writeD D recs.length (recP ws) torn) (recs.length+1) torn false∧KeptB b d w w'∧∀ g,dOwn d dv' g→dOwn d dv g∨w.heap.size≤g:=by
  have c0:=h.cell 0
  have c2:=h.cell 2
  have c3:=h.cell 3
  have c4:=h.cell 4
  simp only [basCells,List.getElem?_toArray,List.getElem?_cons_zero,List.getElem?_cons_succ] at c0 c2 c3 c4
  obtain⟨n,hn⟩:∃ n,recs.length=n:=⟨_,rfl⟩
  obtain⟨v0,l0,hv0,hl0,_⟩:=h.dsk.get (i:=n) (by omega)
  have hw0:=hr.end_ l0 (by rw [hn];exact hl0)
  have HI:=hid (fun q=>isWritten_any (h.dsk.below (below_drewN (Below.refl _ w) q)) (i:=n) (by omega) hl0)
  rw [hw0] at HI
  have hlen:=recP_len ws
  have HW:=hid (fun q=>dwrite_power (cap:=cap) (h.dsk.below (below_drewN (Below.refl _ w) (q+1))) (place:=n) (by omega) (l:=recP ws) (by omega) (hA.same (fun _ _=>by simp)) hleft torn hpw)
  rw [hn] at h c2 ⊢
  have HH:=hid h
  have g250:decide ((n:Int)≥250)=false:=decide_eq_false (by omega)
  have gw:IntKind.i64.wrap ((n:Int)+1)=(n:Int)+1:=IntWalk.i64_in _ (by omega)
  have hbd:b≠d:=fun e=>(h.sepd d (.inl rfl)).2 e.symm
  obtain⟨rl,hrl⟩:∃ rl,(recP ws).length=rl:=⟨_,rfl⟩
  rw [hrl] at HW ⊢
  clear h hr hA hw0 hlen hv0 hl0 hrl
  go_enter Tryz.func179,Tryz.ntmps179
  go_wp2
  go_quiet (first | (go_at_call 232;refine Calls.quiet_of (HI.out _)))
  go_wp2
  obtain⟨w1,hw1⟩:∃ w1,w.drewN nq=w1:=⟨_,rfl⟩
  have HW1:=hid (HW.out nq)
  rw [show w.drewN (nq+1)=w1.drew by rw [← hw1];rfl] at HW1
  have HH1:=hid (show BasAt w1 b d L E dv D n torn false by rw [← hw1];exact HH.out.drewN nq)
  have HK1:=hid (show w1.os=w.os∧w1.tape=w.tape∧w1.output=w.output∧w1.heap.size=w.heap.size∧∀ k,w1.heap[k]?=w.heap[k]? by rw [← hw1];exact drewN_same w nq)
  rw [hw1]
  have d0:=HH1.out.cell 0
  have d2:=HH1.out.cell 2
  have d3:=HH1.out.cell 3
  simp only [basCells,List.getElem?_toArray,List.getElem?_cons_zero,List.getElem?_cons_succ] at d0 d2 d3
  clear hw1 c0 c2 c3 c4 HW HI
  go_region_held3 (fun W=>W.cell? ⟨b,0,none⟩=some (.pointer (some ⟨d,0,none⟩))∧W.cell? ⟨b,2,none⟩=some (.int .i64 (n:Int))∧W.cell? ⟨b,3,none⟩=some (.int .i64 torn))
    (first | go_keep | exact sK)
    (first
      | (go_at_call 233
         refine HW1.out.mono ?_
         rintro e w2 ⟨rfl,⟨dv2,hD2,ho2⟩,⟨hz2,ha2,hb2,hc2⟩,hk2⟩
         have HB2:=hid (HH1.out.setDisk hD2 ho2 hk2)
         have e0:=HB2.out.cell 0
         have e2:=HB2.out.cell 2
         have e3:=HB2.out.cell 3
         simp only [basCells,List.getElem?_toArray,List.getElem?_cons_zero,List.getElem?_cons_succ] at e0 e2 e3
         have sK:w2.cell? ⟨b,0,none⟩=some (.pointer (some ⟨d,0,none⟩))∧w2.cell? ⟨b,2,none⟩=some (.int .i64 (n:Int))∧w2.cell? ⟨b,3,none⟩=some (.int .i64 torn):=⟨e0,e2,e3⟩
         have f2:=HB2.out.free 2
         have HK2:=hid (And.intro hz2 (And.intro ha2 (And.intro hb2 (And.intro hc2 hk2))))
         have HOW2:=hid ho2
         clear hD2 ho2 hz2 ha2 hb2 hc2 hk2 e0 e3)
      | fail)
  have HF:=hid (HB2.out.setOwn (o:=2) (v:=.int .i64 ((n:Int)+1)) (used':=(n:Int)+1) (torn':=torn) (down':=false) rfl)
  clear sK
  go_wp2
  go_ret
  refine⟨rfl,dv2,HF.out,⟨HK2.out.2.1.trans HK1.out.1,HK2.out.2.2.1.trans HK1.out.2.1,HK2.out.2.2.2.1.trans HK1.out.2.2.1,?_,fun k hk hkb hkd=>?_⟩,fun k hk=>(HOW2.out k hk).imp id (fun h5=>by have h6:=HK1.out.2.2.2.1;have h7:w1.drew.heap.size=w1.heap.size:=rfl;omega)⟩
  · have h1:=HK2.out.1
    have h2:=HK1.out.2.2.2.1
    have h3:w1.drew.heap.size=w1.heap.size:=rfl
    simp
    omega
  · rw [heap_setCell_other _ _ _ _ hkb]
    exact (HK2.out.2.2.2.2 k (by show k<w1.heap.size;rw [HK1.out.2.2.2.1];exact hk) hkd).trans (HK1.out.2.2.2.2 k)
set_option maxRecDepth 100000 in
set_option maxHeartbeats 1000000 in
theorem bwrite_off (h:BasAt w b d L E dv D recs.length torn false) (hr:Recs D recs) (hw:ws.length≤10) (hA:BytesAt w (some ⟨g,off,none⟩) (recP ws)) (hcap:(recP ws).length≤cap) (ht:0≤torn) (hlt:recs.length<250) (hpw:powerB D=false) :
    Calls Tryz.prog 179 #[.pointer (some ⟨b,0,none⟩),.slice (some ⟨g,off,none⟩) (recP ws).length cap] w fun e w'=>e=.returned (.iface 33 (.int .i64 14))∧∃ dv',BasAt w' b d L E dv' (writeD D recs.length (recP ws) torn) recs.length torn true∧KeptB b d w w'∧∀ g,dOwn d dv' g→dOwn d dv g∨w.heap.size≤g:=by
  have c0:=h.cell 0
  have c2:=h.cell 2
  have c3:=h.cell 3
  have c4:=h.cell 4
  simp only [basCells,List.getElem?_toArray,List.getElem?_cons_zero,List.getElem?_cons_succ] at c0 c2 c3 c4
  obtain⟨n,hn⟩:∃ n,recs.length=n:=⟨_,rfl⟩
  obtain⟨v0,l0,hv0,hl0,_⟩:=h.dsk.get (i:=n) (by omega)
  have hw0:=hr.end_ l0 (by rw [hn];exact hl0)
  have HI:=hid (fun q=>isWritten_any (h.dsk.below (below_drewN (Below.refl _ w) q)) (i:=n) (by omega) hl0)
  rw [hw0] at HI
  have hlen:=recP_len ws
  have HW:=hid (fun q=>dwrite_off (cap:=cap) (h.dsk.below (below_drewN (Below.refl _ w) (q+1))) (place:=n) (by omega) (l:=recP ws) (by omega) hcap (hA.same (fun _ _=>by simp)) ht hpw)
  rw [hn] at h c2 ⊢
  have HH:=hid h
  have g250:decide ((n:Int)≥250)=false:=decide_eq_false (by omega)
  have hbd:b≠d:=fun e=>(h.sepd d (.inl rfl)).2 e.symm
  obtain⟨rl,hrl⟩:∃ rl,(recP ws).length=rl:=⟨_,rfl⟩
  rw [hrl] at HW ⊢
  clear h hr hA hw0 hlen hv0 hl0 hrl hcap
  go_enter Tryz.func179,Tryz.ntmps179
  go_wp2
  go_quiet (first | (go_at_call 232;refine Calls.quiet_of (HI.out _)))
  go_wp2
  obtain⟨w1,hw1⟩:∃ w1,w.drewN nq=w1:=⟨_,rfl⟩
  have HW1:=hid (HW.out nq)
  rw [show w.drewN (nq+1)=w1.drew by rw [← hw1];rfl] at HW1
  have HH1:=hid (show BasAt w1 b d L E dv D n torn false by rw [← hw1];exact HH.out.drewN nq)
  have HK1:=hid (show w1.os=w.os∧w1.tape=w.tape∧w1.output=w.output∧w1.heap.size=w.heap.size∧∀ k,w1.heap[k]?=w.heap[k]? by rw [← hw1];exact drewN_same w nq)
  rw [hw1]
  have d0:=HH1.out.cell 0
  have d2:=HH1.out.cell 2
  have d3:=HH1.out.cell 3
  simp only [basCells,List.getElem?_toArray,List.getElem?_cons_zero,List.getElem?_cons_succ] at d0 d2 d3
  clear hw1 c0 c2 c3 c4 HW HI
  go_region_held3 (fun W=>W.cell? ⟨b,0,none⟩=some (.pointer (some ⟨d,0,none⟩))∧W.cell? ⟨b,2,none⟩=some (.int .i64 (n:Int))∧W.cell? ⟨b,3,none⟩=some (.int .i64 torn))
    (first | go_keep | exact sK)
    (first
      | (go_at_call 233
         refine HW1.out.mono ?_
         rintro e w2 ⟨rfl,⟨dv2,hD2,ho2⟩,⟨hz2,ha2,hb2,hc2⟩,hk2⟩
         have HB2:=hid (HH1.out.setDisk hD2 ho2 hk2)
         have e0:=HB2.out.cell 0
         have e2:=HB2.out.cell 2
         have e3:=HB2.out.cell 3
         simp only [basCells,List.getElem?_toArray,List.getElem?_cons_zero,List.getElem?_cons_succ] at e0 e2 e3
         have sK:w2.cell? ⟨b,0,none⟩=some (.pointer (some ⟨d,0,none⟩))∧w2.cell? ⟨b,2,none⟩=some (.int .i64 (n:Int))∧w2.cell? ⟨b,3,none⟩=some (.int .i64 torn):=⟨e0,e2,e3⟩
         have f2:=HB2.out.free 4
         have e4:=HB2.out.cell 4
         simp only [basCells,List.getElem?_toArray,List.getElem?_cons_zero,List.getElem?_cons_succ] at e4
         have HK2:=hid (And.intro hz2 (And.intro ha2 (And.intro hb2 (And.intro hc2 hk2))))
         have HOW2:=hid ho2
         clear hD2 ho2 hz2 ha2 hb2 hc2 hk2 e0 e3)
      | fail)
  have HF:=hid (HB2.out.setOwn (o:=4) (v:=.bool true) (used':=(n:Int)) (torn':=torn) (down':=true) rfl)
  clear sK
  go_wp2
  go_ret
  refine⟨rfl,dv2,HF.out,⟨HK2.out.2.1.trans HK1.out.1,HK2.out.2.2.1.trans HK1.out.2.1,HK2.out.2.2.2.1.trans HK1.out.2.2.1,?_,fun k hk hkb hkd=>?_⟩,fun k hk=>(HOW2.out k hk).imp id (fun h5=>by have h6:=HK1.out.2.2.2.1;have h7:w1.drew.heap.size=w1.heap.size:=rfl;omega)⟩
  · have h1:=HK2.out.1
    have h2:=HK1.out.2.2.2.1
    have h3:w1.drew.heap.size=w1.heap.size:=rfl
    simp
    omega
  · rw [heap_setCell_other _ _ _ _ hkb]
    exact (HK2.out.2.2.2.2 k (by show k<w1.heap.size;rw [HK1.out.2.2.2.1];exact hk) hkd).trans (HK1.out.2.2.2.2 k)
end
end Go.Proofs.YtjefgmeejhakbabGreatDoor
namespace Go.Proofs.YtjefgmeejhakbabGreatDoor
open Go.RowKit
structure CmOk (E:Eng) (i:Nat) (t:Tx):Prop where
 fits:Fits E
 fine:FineV t
 last:0≤E.last∧E.last≤1099511627776
 nw:E.nw≤1000000000
 com:E.com.length≤1000000000
 ks:∀ l∈(installE E i).ks,l.length≤100000
 vk:∀ k,t.vals k≠none→0≤k∧k<10
theorem Mid.cm {a0:Int} {K0:Int→Option Int} {E:Eng} {i:Nat} {t:Tx} (h:Mid a0 K0 E.ce noQ) (ht:E.txs[i]?=some t):CmOk E i t :=
 ⟨h.fits,h.fine ht,(by have:=h.last_le;have e:E.ce.last=E.last:=rfl;omega),(by have:=h.com.nwc;have:=h.cw_len;have e:E.ce.nw=E.nw:=rfl;omega),(by have:=h.com_len;have e:E.ce.com=E.com:=rfl;rw [e] at this;omega),h.inst_ks i,(h.reg.fair i _ (cs_get ht)).vk⟩
section
variable {w:World} {b d:Nat} {L:EnL} {E:Eng} {dv:List Value} {D:Dsk} {used torn:Int} {down:Bool}
set_option maxRecDepth 100000 in
set_option maxHeartbeats 1000000 in
theorem bcommit_shut (h:BasAt w b d L E dv D used torn down) {n c:Int} (hc:(c=7∧(n<1∨(E.txs.length:Int)<n))∨(c=6∧∃ (i:Nat) (t:Tx),n=(i:Int)+1∧E.txs[i]?=some t∧t.state≠0)) :
  Calls Tryz.prog 102 #[.pointer (some ⟨b,0,none⟩),.int .i64 n] w fun e w'=>e=.returned (.iface 33 (.int .i64 c))∧Below w.heap.size w w':=by
 have c1:=h.cell 1
 simp only [basCells,List.getElem?_toArray,List.getElem?_cons_zero,List.getElem?_cons_succ] at c1
 have HW:Hid (Calls Tryz.prog 176 #[.pointer (some ⟨L.s,0,none⟩),.int .i64 n] w fun e w'=>∃ ad m cap ev,e=.returned (.tuple #[.slice ad m cap,ev])∧Below w.heap.size w w'):=by
  rcases hc with ⟨rfl,hn⟩ | ⟨rfl,i,t,rfl,ht,hs⟩
  ·refine (writesE_err h.en hn).mono ?_
   rintro e w1 ⟨rfl,rfl⟩
   exact⟨_,_,_,_,rfl,Below.refl _ _⟩
  ·refine (writesE_ok h.en ht).mono ?_
   rintro e w1 ⟨v,rfl,hrow,hB⟩
   obtain⟨ad,cap,rfl⟩:=row_form hrow
   exact⟨_,_,_,_,rfl,hB⟩
 have HH:=hid h
 have HC:=hid hc
 have h0:c≠0:=by rcases hc with ⟨rfl,_⟩ | ⟨rfl,_⟩<;>decide
 have hne:∀ w,(binOp .neq 27 (.iface 33 (.int .i64 c)) .nilIface).run Tryz.prog w=.ok (.bool true) w:=fun _=>by kernel_rfl
 clear h hc
 go_enter Tryz.func102,Tryz.ntmps102
 go_wp2_with fail
 refine HW.out.mono ?_
 rintro e w1 ⟨ad,m,cap,ev,rfl,hB1⟩
 have HH1:=hid (HH.out.below hB1)
 have HB1:=hid hB1
 have d1:=HH1.out.cell 1
 simp only [basCells,List.getElem?_toArray,List.getElem?_cons_zero,List.getElem?_cons_succ] at d1
 have HR:=hid (ready_shut HH1.out.en HC.out)
 have HCM:=hid (commit_shut HH1.out.en HC.out)
 rw [show errV c=Value.iface 33 (.int .i64 c) from if_neg h0] at HCM
 clear hB1 HW c1
 go_wp2_with fail
 refine HR.out.mono ?_
 rintro e w2 ⟨rfl,hw2⟩
 rw [hw2]
 clear hw2 w2 HR
 go_wp2_with fail
 refine HCM.out.mono ?_
 rintro e w2 ⟨rfl,hw2⟩
 rw [hw2]
 clear hw2 w2 HCM
 go_wp2
 go_ret
 exact⟨rfl,HB1.out⟩
set_option maxRecDepth 100000 in
set_option maxHeartbeats 1000000 in
theorem bcommit_plain (h:BasAt w b d L E dv D used torn down) {i:Nat} {t:Tx} (hM:CmOk E i t) (ht:E.txs[i]?=some t) (hs:t.state=0) (hp:betB t.ahead t.behind=true∨writesP t.vals=[]) {R:Int × Eng} (hR:commitE 7 E i=some R) :
  Calls Tryz.prog 102 #[.pointer (some ⟨b,0,none⟩),.int .i64 ((i:Int)+1)] w fun e w'=>e=.returned (errV R.1)∧∃ w1,Below w.heap.size w w1∧EnPost L R.2 w1 w':=by
 have c1:=h.cell 1
 simp only [basCells,List.getElem?_toArray,List.getElem?_cons_zero,List.getElem?_cons_succ] at c1
 have HW:=hid (writesE_ok h.en ht)
 have HH:=hid h
 have HT:=hid (And.intro ht hs)
 have HM:=hid hM
 have HR7:=hid hR
 obtain⟨ws,hws⟩:∃ ws,writesP t.vals=ws:=⟨_,rfl⟩
 rw [hws] at HW hp
 obtain⟨bt,hbt⟩:∃ bt,betB t.ahead t.behind=bt:=⟨_,rfl⟩
 rw [hbt] at hp
 have HBT:=hid hbt
 clear h hM ht hs hR hws hbt
 go_enter Tryz.func102,Tryz.ntmps102
 go_wp2_with fail
 refine HW.out.mono ?_
 rintro e w1 ⟨v,rfl,hrow,hB1⟩
 obtain⟨ad,cap,rfl⟩:=row_form hrow
 have HH1:=hid (HH.out.below hB1)
 have HB1:=hid hB1
 have d1:=HH1.out.cell 1
 simp only [basCells,List.getElem?_toArray,List.getElem?_cons_zero,List.getElem?_cons_succ] at d1
 have hRD:=ready_main HH1.out.en HT.out.1 HT.out.2
 rw [HBT.out] at hRD
 have HRD:=hid hRD
 have HCM:=hid (commit_main HH1.out.en HM.out.fits HT.out.1 HT.out.2 HM.out.fine HM.out.last HM.out.nw HM.out.com HM.out.ks HR7.out)
 clear hrow hB1 HW c1 hRD
 cases bt with
 | true =>
  rw [if_pos rfl] at HRD
  have hne:∀ w,(binOp .neq 27 (.iface 33 (.int .i64 13)) .nilIface).run Tryz.prog w=.ok (.bool true) w:=fun _=>by kernel_rfl
  go_wp2_with fail
  refine HRD.out.mono ?_
  rintro e w2 ⟨rfl,hw2⟩
  rw [hw2]
  clear hw2 w2 HRD
  go_wp2_with fail
  refine HCM.out.mono ?_
  rintro e w2 ⟨rfl,hP⟩
  have HP:=hid hP
  clear hP HCM
  go_wp2
  go_ret
  exact⟨rfl,w1,HB1.out,HP.out⟩
 | false =>
  rw [if_neg (by simp)] at HRD
  have hnil:ws=[]:=hp.resolve_left (by simp)
  subst hnil
  go_wp2_with fail
  refine HRD.out.mono ?_
  rintro e w2 ⟨rfl,hw2⟩
  rw [hw2]
  clear hw2 w2 HRD
  go_wp2_with fail
  refine HCM.out.mono ?_
  rintro e w2 ⟨rfl,hP⟩
  have HP:=hid hP
  clear hP HCM
  go_wp2
  go_ret
  exact⟨rfl,w1,HB1.out,HP.out⟩
end
end Go.Proofs.YtjefgmeejhakbabGreatDoor
namespace Go.Proofs.YtjefgmeejhakbabGreatDoor
open Go.RowKit
structure BPost (b d:Nat) (L L':EnL) (dv dv':List Value) (w w':World):Prop where
 os:w'.os=w.os
 tape:w'.tape=w.tape
 output:w'.output=w.output
 size:w.heap.size≤w'.heap.size
 block:∀ k,k<w.heap.size→k≠b→k≠d→¬ L.own k→w'.heap[k]?=w.heap[k]?
 enw:∀ g,L'.own g→L.own g∨w.heap.size≤g
 dsw:∀ g,dOwn d dv' g→dOwn d dv g∨w.heap.size≤g
section
variable {w w' w1:World} {b d:Nat} {L L' L'':EnL} {E:Eng} {dv dv' dv'':List Value} {D:Dsk} {used torn:Int} {down:Bool}
theorem BPost.of_below (h:Below w.heap.size w w'):BPost b d L L dv dv w w':=⟨h.os,h.tape,h.output,h.size,fun k hk _ _ _=>h.block k hk,fun _ hg=>.inl hg,fun _ hg=>.inl hg⟩
theorem BPost.trans (h:BPost b d L L' dv dv' w w1) (k:BPost b d L' L'' dv' dv'' w1 w'):BPost b d L L'' dv dv'' w w' :=
 ⟨k.os.trans h.os,k.tape.trans h.tape,k.output.trans h.output,Nat.le_trans h.size k.size,fun i hi h1 h2 h3=>(k.block i (Nat.lt_of_lt_of_le hi h.size) h1 h2 (fun ho=>(h.enw i ho).elim h3 (fun e=>by omega))).trans (h.block i hi h1 h2 h3),
  fun g hg=>(k.enw g hg).elim (fun h1=>h.enw g h1) (fun h1=>.inr (Nat.le_trans h.size h1)),fun g hg=>(k.dsw g hg).elim (fun h1=>h.dsw g h1) (fun h1=>.inr (Nat.le_trans h.size h1))⟩
theorem BPost.of_engine (h:KeptO L.own L'.own w w'):BPost b d L L' dv dv w w':=⟨h.os,h.tape,h.output,h.size,fun k hk _ _ h3=>h.block k hk h3,h.sub,fun _ hg=>.inl hg⟩
variable {recs:List (List (Int × Int))}
set_option maxRecDepth 100000 in
set_option maxHeartbeats 2000000 in
theorem bcommit_ok (h:BasAt w b d L E dv D recs.length torn false) (hr:Recs D recs) {i:Nat} {t:Tx} (hM:CmOk E i t) (ht:E.txs[i]?=some t) (hs:t.state=0) (hb:betB t.ahead t.behind=false) (hne:writesP t.vals≠[]) (hleft:D.cut=true→I64 (D.left-1)) (hlt:recs.length<250) (hpw:powerB D=true) {R:Int × Eng} (hR:commitE 7 E i=some R) :
  Calls Tryz.prog 102 #[.pointer (some ⟨b,0,none⟩),.int .i64 ((i:Int)+1)] w fun e w'=>e=.returned (errV R.1)∧∃ L' dv',BasAt w' b d L' R.2 dv' (writeD D recs.length (recP (writesP t.vals)) torn) (recs.length+1) torn false∧BPost b d L L' dv dv' w w'∧L'.s=L.s:=by
 have c1:=h.cell 1
 simp only [basCells,List.getElem?_toArray,List.getElem?_cons_zero,List.getElem?_cons_succ] at c1
 have HW:=hid (writesE_ok h.en ht)
 have HH:=hid h
 have HT:=hid (And.intro ht hs)
 have HM:=hid hM
 have HR7:=hid hR
 have HRC:=hid hr
 have HBT:=hid hb
 have hwl:=writesP_len t.vals
 have hfv:=hM.fine
 have hvk:=hM.vk
 have HWF:=hid (show ∀ p∈writesP t.vals,Fine p from writesP_fine hvk hfv)
 obtain⟨ws,hws⟩:∃ ws,writesP t.vals=ws:=⟨_,rfl⟩
 rw [hws] at HW hne hwl HWF ⊢
 have gw0:((ws.length:Int)==0)=false:=beq_false_of_ne (fun e=>hne (List.eq_nil_of_length_eq_zero (by omega)))
 clear h hM ht hs hR hws hb hr hfv hvk
 go_enter Tryz.func102,Tryz.ntmps102
 go_wp2_with fail
 refine HW.out.mono ?_
 rintro e w1 ⟨v,rfl,hrow,hB1⟩
 rcases row_slice hrow with ⟨_,e0⟩ | ⟨g,cap,rfl,hg,hc⟩
 ·exact (hne (List.eq_nil_of_length_eq_zero e0)).elim
 have HH1:=hid (HH.out.below hB1)
 have HB1:=hid hB1
 have d1:=HH1.out.cell 1
 simp only [basCells,List.getElem?_toArray,List.getElem?_cons_zero,List.getElem?_cons_succ] at d1
 have hRD:=ready_main HH1.out.en HT.out.1 HT.out.2
 rw [HBT.out,if_neg (by simp)] at hRD
 have HRD:=hid hRD
 have HREC:=hid (record_any (some ⟨g,0,none⟩) cap ws w1 hwl (fun p hp=>fine_key (HWF.out p hp)) (fun j a x hax=>⟨g,0,rfl,hg,by rw [Nat.zero_add];exact hc _ _ (vrow_get ws j a x hax).1,by rw [Nat.zero_add];exact hc _ _ (vrow_get ws j a x hax).2⟩))
 clear hrow hB1 HW c1 hRD hc
 go_wp2_with fail
 refine HRD.out.mono ?_
 rintro e w2 ⟨rfl,hw2⟩
 rw [hw2]
 clear hw2 w2 HRD
 go_wp2_with fail
 refine HREC.out.mono ?_
 rintro e w2 ⟨rv,rfl,hrow2,hB2⟩
 have hrec10:(recP ws).length=9+9*ws.length:=recP_len ws
 rcases row_slice hrow2 with ⟨_,e0⟩ | ⟨g2,cap2,rfl,hg2,hc2⟩
 ·omega
 have HH2:=hid (HH1.out.below hB2)
 have HB2:=hid hB2
 have hin:=recP_in ws hwl (fun p hp=>fine_key (HWF.out p hp))
 have HBW:=hid (bwrite_ok (g:=g2) (off:=0) (cap:=cap2) HH2.out HRC.out hwl (fun j x hx=>⟨hin x (List.mem_of_getElem? hx),g2,0,rfl,by rw [Nat.zero_add];exact hc2 _ _ (u8V_get hx)⟩) hleft hlt hpw)
 clear hrow2 hB2 HREC hc2 hin hrec10
 go_wp2_with fail
 refine HBW.out.mono ?_
 rintro e w3 ⟨rfl,dv3,hB3,hK3,hO3⟩
 have HB3:=hid hB3
 have HP3:=hid (show BPost b d L L dv dv3 w w3 from ((BPost.of_below HB1.out).trans (BPost.of_below HB2.out)).trans ⟨hK3.os,hK3.tape,hK3.output,hK3.size,fun k hk h1 h2 _=>hK3.block k hk h1 h2,fun _ hg=>.inl hg,hO3⟩)
 have e1:=hB3.cell 1
 simp only [basCells,List.getElem?_toArray,List.getElem?_cons_zero,List.getElem?_cons_succ] at e1
 have HCM:=hid (commit_main hB3.en HM.out.fits HT.out.1 HT.out.2 HM.out.fine HM.out.last HM.out.nw HM.out.com HM.out.ks HR7.out)
 clear hB3 hK3 hO3 HBW
 go_wp2_with fail
 refine HCM.out.mono ?_
 rintro e w4 ⟨rfl,hP⟩
 obtain⟨L4,hB4,hK4,hs4⟩:=HB3.out.post hP
 have HF:=hid (And.intro hB4 (And.intro (HP3.out.trans (BPost.of_engine hK4)) hs4))
 clear hP hB4 hK4 hs4 HCM
 go_wp2
 go_ret
 exact⟨rfl,L4,dv3,HF.out⟩
set_option maxRecDepth 100000 in
set_option maxHeartbeats 2000000 in
theorem bcommit_down (h:BasAt w b d L E dv D recs.length torn false) (hr:Recs D recs) {i:Nat} {t:Tx} (hM:CmOk E i t) (ht:E.txs[i]?=some t) (hs:t.state=0) (hb:betB t.ahead t.behind=false) (hne:writesP t.vals≠[]) (htn:0≤torn) (hlt:recs.length<250) (hpw:powerB D=false) :
  Calls Tryz.prog 102 #[.pointer (some ⟨b,0,none⟩),.int .i64 ((i:Int)+1)] w fun e w'=>e=.returned (.iface 33 (.int .i64 14))∧∃ dv',BasAt w' b d L E dv' (writeD D recs.length (recP (writesP t.vals)) torn) recs.length torn true∧BPost b d L L dv dv' w w':=by
 have c1:=h.cell 1
 simp only [basCells,List.getElem?_toArray,List.getElem?_cons_zero,List.getElem?_cons_succ] at c1
 have HW:=hid (writesE_ok h.en ht)
 have HH:=hid h
 have HT:=hid (And.intro ht hs)
 have HRC:=hid hr
 have HBT:=hid hb
 have hwl:=writesP_len t.vals
 have hfv:=hM.fine
 have hvk:=hM.vk
 have HWF:=hid (show ∀ p∈writesP t.vals,Fine p from writesP_fine hvk hfv)
 obtain⟨ws,hws⟩:∃ ws,writesP t.vals=ws:=⟨_,rfl⟩
 rw [hws] at HW hne hwl HWF ⊢
 have gw0:((ws.length:Int)==0)=false:=beq_false_of_ne (fun e=>hne (List.eq_nil_of_length_eq_zero (by omega)))
 have hne14:∀ w,(binOp .neq 27 (.iface 33 (.int .i64 14)) .nilIface).run Tryz.prog w=.ok (.bool true) w:=fun _=>by kernel_rfl
 clear h hM ht hs hws hb hr hfv hvk
 go_enter Tryz.func102,Tryz.ntmps102
 go_wp2_with fail
 refine HW.out.mono ?_
 rintro e w1 ⟨v,rfl,hrow,hB1⟩
 rcases row_slice hrow with ⟨_,e0⟩ | ⟨g,cap,rfl,hg,hc⟩
 ·exact (hne (List.eq_nil_of_length_eq_zero e0)).elim
 have HH1:=hid (HH.out.below hB1)
 have HB1:=hid hB1
 have d1:=HH1.out.cell 1
 simp only [basCells,List.getElem?_toArray,List.getElem?_cons_zero,List.getElem?_cons_succ] at d1
 have hRD:=ready_main HH1.out.en HT.out.1 HT.out.2
 rw [HBT.out,if_neg (by simp)] at hRD
 have HRD:=hid hRD
 have HREC:=hid (record_any (some ⟨g,0,none⟩) cap ws w1 hwl (fun p hp=>fine_key (HWF.out p hp)) (fun j a x hax=>⟨g,0,rfl,hg,by rw [Nat.zero_add];exact hc _ _ (vrow_get ws j a x hax).1,by rw [Nat.zero_add];exact hc _ _ (vrow_get ws j a x hax).2⟩))
 clear hrow hB1 HW c1 hRD hc
 go_wp2_with fail
 refine HRD.out.mono ?_
 rintro e w2 ⟨rfl,hw2⟩
 rw [hw2]
 clear hw2 w2 HRD
 go_wp2_with fail
 refine HREC.out.mono ?_
 rintro e w2 ⟨rv,rfl,hrow2,hB2⟩
 have hrec10:(recP ws).length=9+9*ws.length:=recP_len ws
 obtain⟨_,rad,rcap,erv,hcap2,hx2⟩:=bytesV_own hrow2
 rcases row_slice hrow2 with ⟨_,e0⟩ | ⟨g2,cap2,rfl,hg2,hc2⟩
 ·omega
 have hcap3:(recP ws).length≤cap2:=by injection erv with _ _ e3;omega
 have HH2:=hid (HH1.out.below hB2)
 have HB2:=hid hB2
 have hin:=recP_in ws hwl (fun p hp=>fine_key (HWF.out p hp))
 have HBW:=hid (bwrite_off (g:=g2) (off:=0) (cap:=cap2) HH2.out HRC.out hwl (fun j x hx=>⟨hin x (List.mem_of_getElem? hx),g2,0,rfl,by rw [Nat.zero_add];exact hc2 _ _ (u8V_get hx)⟩) hcap3 htn hlt hpw)
 clear hrow2 hB2 HREC hc2 hin hrec10 erv hcap2 hx2
 go_wp2_with fail
 refine HBW.out.mono ?_
 rintro e w3 ⟨rfl,dv3,hB3,hK3,hO3⟩
 have HF:=hid (And.intro hB3 (show BPost b d L L dv dv3 w w3 from ((BPost.of_below HB1.out).trans (BPost.of_below HB2.out)).trans ⟨hK3.os,hK3.tape,hK3.output,hK3.size,fun k hk h1 h2 _=>hK3.block k hk h1 h2,fun _ hg=>.inl hg,hO3⟩))
 clear hB3 hK3 hO3 HBW
 go_wp2
 go_ret
 exact⟨rfl,dv3,HF.out⟩
end
end Go.Proofs.YtjefgmeejhakbabGreatDoor
namespace Go.Proofs.YtjefgmeejhakbabGreatDoor
open Go.RowKit
def dsk0:Dsk:=⟨List.replicate 250 [],false,0⟩
def dv0:List Value:=List.replicate 250 (.slice none 0 0)
theorem zero_disk:Tryz.zeroCells84=(dv0++[Value.bool false,Value.int .i64 0]).toArray:=by kernel_rfl
theorem disk0 (w:World):DiskAt (w.alloc (.cells Tryz.zeroCells84 84)) w.heap.size dv0 dsk0:=by
 refine⟨by rw [zero_disk];exact heap_alloc_new w _,List.length_replicate,List.length_replicate,fun i v l hv hl=>?_,fun l hl=>?_⟩
 ·have e1:v=.slice none 0 0:=List.eq_of_mem_replicate (List.mem_of_getElem? hv)
  have e2:l=[]:=List.eq_of_mem_replicate (List.mem_of_getElem? (show (List.replicate 250 [])[i]?=some l from hl))
  subst e1 e2
  exact⟨fun g hg=>(by cases hg),none,0,rfl,Nat.le_refl _,fun i x hx=>(by cases hx)⟩
 ·have e2:l=[]:=List.eq_of_mem_replicate (show l∈List.replicate 250 [] from hl)
  subst e2
  exact⟨Nat.zero_le _,fun x hx=>(by cases hx)⟩
theorem dOwn0 {d g:Nat} (h:dOwn d dv0 g):g=d:=by
 rcases h with h | ⟨i,v,hv,hg⟩
 ·exact h
 ·have e1:v=.slice none 0 0:=List.eq_of_mem_replicate (List.mem_of_getElem? hv)
  subst e1
  cases hg
theorem dskOk0:DskOk dsk0 []:=by
 have hn:∀ (j:Nat) (l:List Int),dsk0.pl[j]?=some l→wholeP l=false:=fun j l hl=>by
  have e2:l=[]:=List.eq_of_mem_replicate (List.mem_of_getElem? (show (List.replicate 250 [])[j]?=some l from hl))
  subst e2
  rfl
 exact⟨⟨fun j ws h=>(by cases h),fun ws h=>(by cases h),fun ws h=>(by cases h),fun ws h=>(by cases h),by simp,fun l hl=>hn _ l hl⟩,List.length_replicate,fun j l _ hl=>hn j l hl,by decide⟩
section
variable {w0 w w':World} {b d:Nat} {L L':EnL} {E E':Eng} {dv dv':List Value} {D D':Dsk} {used torn used' torn':Int} {down down':Bool}
end
end Go.Proofs.YtjefgmeejhakbabGreatDoor
namespace Go.Proofs.YtjefgmeejhakbabGreatDoor
structure Nx (u u':Tx):Prop where
 len:u'.reads.length≤u.reads.length
 mem:∀ p∈u'.reads,p∈u.reads
 why:u'.why=u.why∨(0≤u'.why∧u'.why≤100)
theorem Nx.refl (u:Tx):Nx u u:=⟨Nat.le_refl _,fun _ h=>h,.inl rfl⟩
theorem Nx.trans {u v x:Tx} (h:Nx u v) (k:Nx v x):Nx u x:=⟨Nat.le_trans k.len h.len,fun p hp=>h.mem p (k.mem p hp),k.why.elim (fun e=>by rw [e];exact h.why) .inr⟩
def NxLe (E E':Eng):Prop:=∀ u'∈E'.txs,∃ u∈E.txs,Nx u u'
theorem NxLe.refl (E:Eng):NxLe E E:=fun u hu=>⟨u,hu,Nx.refl _⟩
theorem NxLe.trans {A B C:Eng} (h:NxLe A B) (k:NxLe B C):NxLe A C:=fun u hu=>by
 obtain⟨v,hv,h1⟩:=k u hu
 obtain⟨w,hw,h2⟩:=h v hv
 exact⟨w,hw,h2.trans h1⟩
theorem NxLe.set {E:Eng} {i:Nat} {t t':Tx} (ht:E.txs[i]?=some t) (h:Nx t t'):NxLe E (E.setTx i t'):=fun u hu=>by
 rcases List.mem_or_eq_of_mem_set hu with hu | rfl
 ·exact⟨u,hu,Nx.refl _⟩
 ·exact⟨t,List.mem_of_getElem? ht,h⟩
theorem NxLe.of_txs {E E':Eng} (h:E'.txs=E.txs):NxLe E E':=fun u hu=>⟨u,by rw [← h];exact hu,Nx.refl _⟩
theorem nx_putAhead (E:Eng) (i j:Nat):NxLe E (putAheadP E i j).2:=by
 unfold putAheadP
 split
 ·rename_i t u ht hu
  intro v hv
  simp only [Eng.setTx] at hv
  rcases List.mem_or_eq_of_mem_set hv with hv | rfl
  ·rcases List.mem_or_eq_of_mem_set hv with hv | rfl
   ·exact⟨v,hv,Nx.refl _⟩
   ·exact⟨t,List.mem_of_getElem? ht,⟨Nat.le_refl _,fun _ h=>h,.inl rfl⟩⟩
  ·exact⟨u,List.mem_of_getElem? hu,⟨Nat.le_refl _,fun _ h=>h,.inl rfl⟩⟩
 ·exact NxLe.refl E
theorem nx_aheadAll (f:Nat→Nat × Nat):∀ (js:List Nat) (E:Eng),NxLe E (aheadAll f js E).2
 | [],E=>NxLe.refl E
 | j::r,E=>by
  have h1:=nx_putAhead E (f j).1 (f j).2
  unfold aheadAll
  rcases hp:putAheadP E (f j).1 (f j).2 with ⟨b,E'⟩
  rw [hp] at h1
  cases b with
  | true=>exact h1.trans (nx_aheadAll f r E')
  | false=>exact h1
theorem nx_aheadEach (i:Nat):∀ (js:List Nat) (E:Eng),NxLe E (aheadEach i js E)
 | [],E=>NxLe.refl E
 | j::r,E=>by
  unfold aheadEach
  exact (nx_putAhead E i j).trans (nx_aheadEach i r _)
theorem nx_aheadTimes (i:Nat):∀ (ts:List Int) (E:Eng),NxLe E (aheadTimes i ts E).2
 | [],E=>NxLe.refl E
 | a::r,E=>by
  unfold aheadTimes
  split
  ·rename_i j _
   have h1:=nx_putAhead E i j
   rcases hp:putAheadP E i j with ⟨b,E'⟩
   rw [hp] at h1
   cases b with
   | true=>exact h1.trans (nx_aheadTimes i r E')
   | false=>exact h1
  ·exact nx_aheadTimes i r E
theorem nx_aow (E:Eng) (i:Nat) (key:Int):NxLe E (aowP E i key).2:=by
 unfold aowP
 split
 ·rename_i t _
  have h1:=nx_aheadTimes i (newerP E key t.start) E
  rcases hp:aheadTimes i (newerP E key t.start) E with ⟨b,E'⟩
  rw [hp] at h1
  cases b with
  | true=>exact h1.trans (nx_aheadEach i _ E')
  | false=>exact h1
 ·exact NxLe.refl E
theorem nx_put (E:Eng) (j:Nat):NxLe E (putE E j).2:=by
 unfold putE
 split
 ·rename_i t ht
  split
  ·exact NxLe.refl E
  ·have h1:NxLe E (E.setTx j { t with vals:=updT t.vals t.wk (some t.wv) }):=NxLe.set ht ⟨Nat.le_refl _,fun _ h=>h,.inl rfl⟩
   simp only
   split
   ·have h2:=nx_aheadAll (fun m=>(m,j)) (thoseP (E.setTx j { t with vals:=updT t.vals t.wk (some t.wv) }) (hasReadB t.wk j)) (E.setTx j { t with vals:=updT t.vals t.wk (some t.wv) })
    rcases hb:behindP (E.setTx j { t with vals:=updT t.vals t.wk (some t.wv) }) j t.wk with ⟨b,E3⟩
    unfold behindP at hb
    rw [hb] at h2
    cases b<;>exact h1.trans h2
   ·exact h1
 ·exact NxLe.refl E
theorem nx_upd (E:Eng) (i:Nat) (f:Tx→Tx) (hf:∀ t,Nx t (f t)):NxLe E (E.upd i f):=by
 unfold Eng.upd
 split
 ·rename_i t ht
  exact NxLe.set ht (hf t)
 ·exact NxLe.refl E
theorem nx_over (E:Eng) (i:Nat) (st:Int):NxLe E (overE E i st):=(nx_upd E i (fun t=>{ t with state:=st,bae:=E.txs.length }) (fun _=>⟨Nat.le_refl _,fun _ h=>h,.inl rfl⟩)).trans (NxLe.of_txs rfl)
theorem nx_lose (E:Eng) (i:Nat) {why:Int} (hw:0≤why∧why≤100):NxLe E (loseE E i why):=by
 unfold loseE
 split
 ·rename_i t ht
  refine NxLe.trans (B:={ E with txs:=(E.txs.set i { t with why:=why }).map (freeOf ((i:Int)+1)) }) ?_ (nx_upd _ i _ (fun _=>⟨Nat.zero_le _,fun p hp=>(by cases hp),.inl rfl⟩))
  intro u hu
  obtain⟨v,hv,rfl⟩:=List.mem_map.1 hu
  rcases List.mem_or_eq_of_mem_set hv with hv | rfl
  ·exact⟨v,hv,⟨Nat.le_refl _,fun _ h=>h,.inl rfl⟩⟩
  ·exact⟨t,List.mem_of_getElem? ht,⟨Nat.le_refl _,fun _ h=>h,.inr hw⟩⟩
 ·exact NxLe.refl E
theorem nx_wake (E:Eng) (j:Nat):NxLe E (wakeE E j):=nx_upd E j _ (fun _=>⟨Nat.le_refl _,fun _ h=>h,.inl rfl⟩)
theorem goes_nx (a0:Int) (K0:Int→Option Int) (E0:Eng):Goes a0 K0 (fun E _=>NxLe E0 E):=by
 refine⟨fun E Q j E2 _ hP _ hp=>?_,fun E Q j why E2 _ hP _ hp hwy=>?_⟩
 ·have:=nx_put (wakeE E j) j
  rw [hp] at this
  exact hP.trans ((nx_wake E j).trans this)
 ·have:=nx_put (wakeE E j) j
  rw [hp] at this
  exact (hP.trans ((nx_wake E j).trans this)).trans ((nx_lose E2 j (by omega)).trans (nx_over _ j 3))
def NumOk (E:Eng) (n:Nat):Prop:=∀ u∈E.txs,u.reads.length≤n∧(∀ p∈u.reads,(0≤p.1∧p.1<10)∧0≤p.2∧p.2≤200)∧0≤u.why∧u.why≤100
theorem nx_of {E E':Eng} {n:Nat} (h:NxLe E E') (hn:NumOk E n):NumOk E' n:=fun v hv=>by
 obtain⟨u,hu,hx⟩:=h v hv
 obtain⟨h1,h2,h3⟩:=hn u hu
 exact⟨Nat.le_trans hx.len h1,fun p hp=>h2 p (hx.mem p hp),hx.why.elim (fun e=>by rw [e];exact h3) id⟩
theorem wr_range {a0:Int} {K0:Int→Option Int} {E:Eng} {Q:Nat→Prop} (hM:Mid a0 K0 E.ce Q) {c y:Int} (h:E.wr c=some y):1≤y∧y≤200:=by
 have h1:E.ce.wr c=some y:=h
 rw [hM.com.wrc] at h1
 split at h1
 ·obtain⟨m,hm,rfl⟩:=Option.map_eq_some_iff.1 h1
  obtain⟨t,ht,_⟩:=(hM.com.coms m).1 (List.mem_filter.1 (List.mem_of_getElem? hm)).1
  have h2:=(List.getElem?_eq_some_iff.1 ht).1
  have h3:=hM.reg.len
  omega
 ·cases h1
theorem nx_want {E:Eng} {i:Nat} {u:Tx} (hu:E.txs[i]?=some u) (key val:Int) (T:Tab):NxLe E (wantE E i u key val T):=by
 intro v hv
 rcases List.mem_or_eq_of_mem_set hv with hv | rfl
 ·exact⟨v,hv,Nx.refl _⟩
 ·exact⟨u,List.mem_of_getElem? hu,⟨Nat.le_refl _,fun _ h=>h,.inl rfl⟩⟩
section
variable {a0:Int} {K0:Int→Option Int} {E:Eng} {i:Nat} {u:Tx} {n:Nat}
theorem n_commit (hM:Mid a0 K0 E.ce noQ) (hn:NumOk E n) (hu:E.txs[i]?=some u) (hs:u.state=0):∃ R,commitE 7 E i=some R∧Mid a0 K0 R.2.ce noQ∧NumOk R.2 n∧(betB u.ahead u.behind=false→R.1=0)∧(betB u.ahead u.behind=true→R.1=13):=by
 have hl:liveB u.state=true:=live_iff.2 (.inl hs)
 by_cases hb:Between u.ahead u.behind
 ·obtain⟨E',h1,h2,h3,_⟩:=commit_bad (goes_nx a0 K0 E) hM hu hl hb ((nx_lose E i (why:=13) (by decide)).trans (nx_over _ i 3))
  exact⟨_,h1,h2,nx_of h3 hn,fun h=>(by rw [betB_true.2 hb] at h;cases h),fun _=>rfl⟩
 ·obtain⟨E',h1,h2,h3,_⟩:=commit_ok (goes_nx a0 K0 E) hM hu hl hb ((NxLe.of_txs (E':={ (installE E i) with com:=E.com++[i] }) (inst_txs E i)).trans (nx_over _ i 2))
  exact⟨_,h1,h2,nx_of h3 hn,fun _=>rfl,fun h=>(hb (betB_true.1 h)).elim⟩
theorem n_abort (hM:Mid a0 K0 E.ce noQ) (hn:NumOk E n) (hu:E.txs[i]?=some u) (hl:liveB u.state=true):∃ E',endF 7 (loseE E i 0) i 3=some E'∧Mid a0 K0 E'.ce noQ∧NumOk E' n:=by
 obtain⟨E2,h1,h2,h3,_⟩:=lose_ok (goes_nx a0 K0 E) hM hu hl (why:=0) ((nx_lose E i (why:=0) (by decide)).trans (nx_over _ i 3))
 exact⟨E2,h1,h2,nx_of h3 hn⟩
theorem n_read (hM:Mid a0 K0 E.ce noQ) (hn:NumOk E n) (hu:E.txs[i]?=some u) (hs:u.state=0) {key:Int} (hk:0≤key∧key<10) (hv:u.vals key=none):∃ R,readE 7 E i key=some R∧Mid a0 K0 R.2.ce noQ∧NumOk R.2 (n+1):=by
 have hnote:NumOk (noteE E i u key) (n+1):=fun v hv=>by
  rcases List.mem_or_eq_of_mem_set hv with hv | rfl
  ·obtain⟨h1,h2⟩:=hn v hv
   exact⟨by omega,h2⟩
  ·obtain⟨h1,h2,h3⟩:=hn u (List.mem_of_getElem? hu)
   refine⟨?_,fun p hp=>?_,h3⟩
   ·show (u.reads++[_]).length≤n+1
    simp
    omega
   ·rcases List.mem_append.1 (show p∈u.reads++[_] from hp) with hp | hp
    ·exact h2 p hp
    ·rw [List.mem_singleton.1 hp]
     refine⟨hk,?_⟩
     cases hw:E.wr (verP E key (seesP E u)).1.1 with
     | none=>simp
     | some y =>
      have:=wr_range hM hw
      simp only [Option.getD_some]
      omega
 obtain⟨R',h1,h2,h3,_⟩:=read_ok (goes_nx a0 K0 (noteE E i u key)) hM hu hs hk hv (fun _=>NxLe.refl _) (fun E2 _ ha=>by
   have h5:=nx_aow (noteE E i u key) i key
   rw [ha] at h5
   exact h5) (fun E2 _ ha=>by
   have h5:=nx_aow (noteE E i u key) i key
   rw [ha] at h5
   exact h5.trans ((nx_lose E2 i (why:=13) (by decide)).trans (nx_over _ i 3)))
 exact⟨R',h1,h2,nx_of h3 hnote⟩
theorem n_write (hM:Mid a0 K0 E.ce noQ) (hn:NumOk E n) (hu:E.txs[i]?=some u) (hs:u.state=0) {key val:Int} (hk:0≤key∧key<10) (hv:-1099511627776≤val∧val≤1099511627776) {q:Int→Nat} (hq:Ranked E.T q):∃ R,writeE 7 q E i key val=some R∧Mid a0 K0 R.2.ce noQ∧NumOk R.2 n:=by
  obtain⟨R',h1,h2,h3,_⟩:=write_ok (goes_nx a0 K0 E) hM hu hs hk hv hq
    ((nx_want hu key val E.T).trans ((nx_lose _ i (why:=11) (by decide)).trans (nx_over _ i 3)))
    ((nx_want hu key val _).trans (NxLe.set (want_get (key:=key) (val:=val) hu _) ⟨Nat.le_refl _,fun _ h=>h,.inl rfl⟩))
    (fun T' E2 _ hp=>by
      have h5:=nx_put (wantE E i u key val T') i
      rw [hp] at h5
      exact (nx_want hu key val T').trans h5)
    (fun T' why E2 _ _ hp=>by
      have h5:=nx_put (wantE E i u key val T') i
      rw [hp] at h5
      exact ((nx_want hu key val T').trans h5).trans ((nx_lose E2 i (by omega)).trans (nx_over _ i 3)))
  exact⟨R',h1,h2,nx_of h3 hn⟩
theorem n_begin (hM:Mid a0 K0 E.ce noQ) (hn:NumOk E n) {level:Int} (hlv:level=0∨level=1∨level=2) (hl:E.txs.length<200) (ho:(liveOnes E).length<6):Mid a0 K0 ({ E with txs:=E.txs++[newTx level E.last] }:Eng).ce noQ∧NumOk { E with txs:=E.txs++[newTx level E.last] } n:=by
 refine⟨hM.begin hlv hl (by rw [← live_len];exact ho),fun v hv=>?_⟩
 rcases List.mem_append.1 (show v∈E.txs++[newTx level E.last] from hv) with h | h
 ·exact hn v h
 ·rw [List.mem_singleton.1 h]
  exact⟨Nat.zero_le _,fun p hp=>(by cases hp),by simp [newTx]⟩
end
section
variable {a0:Int} {K0:Int→Option Int} {E:Eng} {n:Nat} {Q:Nat→Prop}
def Bnd (v:Int):Prop:=-1099511627776≤v∧v≤1099511627776
theorem Bnd.i64 {v:Int} (h:Bnd v):I64 v:=by unfold Bnd at h;unfold I64;omega
theorem mem_fullFrom {V:Nat→Int→Option Int} {a:Int}:∀ (l:List Nat) (c:Int) (p:Int × Int),p∈fullFrom V a c l→∃ i∈l,V i a=some p.2
 | [],_,_,h=>by cases h
 | i::r,c,p,h=>by
  rcases List.mem_append.1 h with h | h
  ·cases hv:V i a with
   | none=>rw [hv] at h;cases h
   | some x =>
    rw [hv] at h
    rw [List.mem_singleton.1 h]
    exact⟨i,List.mem_cons_self ..,hv⟩
  ·obtain⟨j,hj,h2⟩:=mem_fullFrom r (c+1) p h
   exact⟨j,List.mem_cons_of_mem _ hj,h2⟩
theorem ks_bnd (hM:Mid a0 K0 E.ce Q) (hK:∀ k v,K0 k=some v→Bnd v) {a:Nat} {l:List (Int × Int)} (hl:E.ks[a]?=some l) {p:Int × Int} (hp:p∈l):Bnd p.2:=by
 have ha:a<10:=by
  have h1:=(List.getElem?_eq_some_iff.1 hl).1
  have h2:E.ks.length=10:=hM.com.ksl
  omega
 obtain⟨d,_,h2,_⟩:=hM.com.kss a ha
 have h3:E.ks[a]?=some ((full a0 K0 E.ce a).drop d):=h2
 rw [hl] at h3
 injection h3 with h3
 rw [h3] at hp
 have hp:=List.mem_of_mem_drop hp
 rcases List.mem_append.1 hp with h | h
 ·cases hv:K0 a with
  | none=>rw [hv] at h;cases h
  | some x =>
   rw [hv] at h
   rw [List.mem_singleton.1 h]
   exact hK _ _ hv
 ·obtain⟨i,hi,hv⟩:=mem_fullFrom _ _ _ h
  obtain⟨t,ht,_⟩:=(hM.com.coms i).1 (List.mem_filter.1 hi).1
  rw [CE.v_some ht] at hv
  exact (hM.reg.fair i t ht).fin _ _ hv
end
end Go.Proofs.YtjefgmeejhakbabGreatDoor
namespace Go.Proofs.YtjefgmeejhakbabGreatDoor
section
variable {a0:Int} {K0:Int→Option Int} {E:Eng} {n:Nat} {Q:Nat→Prop}
theorem rdP_mem' {t:Int} {l:List (Int × Int)} {q:Int × Int} (h:rdP t l=some q):q∈l:=by
 unfold rdP at h
 split at h
 ·exact List.mem_of_getElem? h
 ·cases h
theorem getD_mem {l:List (List (Int × Int))} {k:Nat} {p:Int × Int} (h:p∈l[k]?.getD []):∃ m,l[k]?=some m∧p∈m:=by
 cases hl:l[k]? with
 | none=>rw [hl] at h;cases h
 | some m=>rw [hl] at h;exact⟨m,rfl,h⟩
theorem rd_bnd (hM:Mid a0 K0 E.ce Q) (hK:∀ k v,K0 k=some v→Bnd v) {k:Nat} {t:Int} {q:Int × Int} (h:rdP t (E.ks[k]?.getD [])=some q):Bnd q.2:=by
 obtain⟨m,hm,hp⟩:=getD_mem (rdP_mem' h)
 exact ks_bnd hM hK hm hp
theorem ver_bnd (hM:Mid a0 K0 E.ce Q) (hK:∀ k v,K0 k=some v→Bnd v) (key t:Int):Bnd (verP E key t).1.2∧(0≤(verP E key t).2∧(verP E key t).2≤100):=by
 unfold verP
 cases h:rdP t (E.ks[key.toNat]?.getD []) with
 | none=>exact⟨by simp [Bnd],by simp⟩
 | some p=>exact⟨rd_bnd hM hK h,by simp⟩
theorem read_bnd (hM:Mid a0 K0 E.ce Q) (hK:∀ k v,K0 k=some v→Bnd v) {f i:Nat} {key:Int} {R:(Int × Int) × Eng} (hR:readE f E i key=some R):Bnd R.1.1∧0≤R.1.2∧R.1.2≤100:=by
 unfold readE at hR
 split at hR
 ·rename_i t ht
  split at hR
  ·rename_i v hv
   cases hR
   exact⟨(hM.reg.fair i _ (cs_get ht)).fin _ _ hv,by simp⟩
  ·split at hR
   ·cases hR
    exact⟨by simp [Bnd],by simp⟩
   ·have hv:=ver_bnd hM hK key (seesP E t)
    split at hR
    ·split at hR
     ·cases hR
      exact hv
     ·obtain⟨E3,_,rfl⟩:=Option.map_eq_some_iff.1 hR
      exact⟨by simp [Bnd],by simp⟩
    ·cases hR
     exact hv
 ·cases hR
theorem mem_allK' (f:Nat→Option (Int × Int)) (p:Int × Int):∀ n,p∈allK f n→∃ k,k<n∧∃ q,f k=some q∧p=((k:Int),q.2)
 | 0,h=>by cases h
 | n+1,h=>by
  rcases List.mem_append.1 h with h | h
  ·obtain⟨k,hk,r⟩:=mem_allK' f p n h
   exact⟨k,by omega,r⟩
  ·cases hf:f n with
   | none=>rw [hf] at h;cases h
   | some q =>
    rw [hf] at h
    exact⟨n,by omega,q,hf,List.mem_singleton.1 h⟩
theorem all_bnd (hM:Mid a0 K0 E.ce Q) (hK:∀ k v,K0 k=some v→Bnd v):(∀ p∈allE E,I64 p.1∧I64 p.2)∧(allE E).length≤10:=by
 refine⟨fun p hp=>?_,allK_length _ 10⟩
 obtain⟨k,hk,q,hq,rfl⟩:=mem_allK' _ p 10 hp
 exact⟨by unfold I64;simp only;omega,(rd_bnd hM hK hq).i64⟩
theorem com_len (hM:Mid a0 K0 E.ce Q):E.com.length≤200:=by
 have h1:∀ i∈E.com,i<200:=fun i hi=>by
  obtain⟨t,ht,_⟩:=(hM.com.coms i).1 hi
  have h2:=(List.getElem?_eq_some_iff.1 ht).1
  have h3:=hM.reg.len
  omega
 have h4:E.com.Nodup:=hM.com.comn
 exact nodup_lt 200 E.com h4 h1
theorem hist_bnd (hM:Mid a0 K0 E.ce Q) (hN:NumOk E n):∀ o∈histP E,(1≤o.1∧o.1≤200)∧(0≤o.2.1∧o.2.1<10)∧0≤o.2.2.2∧o.2.2.2≤200:=by
 intro o h
 unfold histP histTo at h
 obtain⟨i,hi,h⟩:=List.mem_flatMap.1 h
 have hi200:i<200:=by
  obtain⟨t,ht,_⟩:=(hM.com.coms i).1 (List.mem_of_mem_take hi)
  have h2:=(List.getElem?_eq_some_iff.1 ht).1
  have h3:=hM.reg.len
  omega
 cases ht:E.txs[i]? with
 | none=>rw [ht] at h;cases h
 | some t =>
  rw [ht] at h
  rcases List.mem_append.1 h with h | h
  ·unfold readOps at h
   obtain⟨p,hp,rfl⟩:=List.mem_map.1 h
   have:=(hN t (List.mem_of_getElem? ht)).2.1 p hp
   simp only
   omega
  ·obtain⟨p,hp,rfl⟩:=List.mem_map.1 h
   unfold writesP at hp
   obtain⟨k,hk,rfl⟩:=List.mem_map.1 hp
   have:=mem_keysP.1 (List.mem_filter.1 hk).1
   simp only
   omega
theorem hist_len (hM:Mid a0 K0 E.ce Q) (hN:NumOk E n) (hn:n≤4000):(histP E).length≤1000000:=by
 have h1:=histTo_lenM n (fun i _ t ht=>(hN t (List.mem_of_getElem? ht)).1) E.com.length
 have h2:=com_len hM
 have h3:E.com.length*(n+10)≤200*4010:=Nat.mul_le_mul h2 (by omega)
 unfold histP
 omega
theorem last_bnd (hM:Mid a0 K0 E.ce Q):I64 E.last:=by
 have h1:E.last=a0+E.ce.cw.length:=hM.com.lastc
 have h2:=hM.com.zero
 have h3:E.ce.cw.length≤E.com.length:=List.length_filter_le _ _
 have h4:=com_len hM
 unfold I64
 omega
theorem waits_bnd (hM:Mid a0 K0 E.ce Q) (m:Int):I64 (waitsE E m):=by
 unfold waitsE holdsP
 cases h:E.T (waitsP E.T m) with
 | nil=>simp [I64]
 | cons x r =>
  obtain⟨i,t,rfl,ht,_⟩:=hM.loc.mem _ x (show x∈E.ce.T _ from by show x∈E.T _;rw [h];exact List.mem_cons_self ..)
  have h2:=(List.getElem?_eq_some_iff.1 ht).1
  have h3:=hM.reg.len
  unfold I64
  simp only [List.headD_cons]
  omega
theorem many_bnd (hM:Mid a0 K0 E.ce Q):I64 (manyP E.ks:Nat)∧∀ t,I64 (sweepN t E.ks:Nat):=by
 have h0:E.ks.length=10:=hM.com.ksl
 have h1:=manyP_bound E.ks 100000 hM.fits.len
 refine⟨by unfold I64;omega,fun t=>?_⟩
 have h2:=sweepN_bound t E.ks 100000 hM.fits.len
 unfold I64
 omega
theorem tx_bnd (hM:Mid a0 K0 E.ce Q) (hN:NumOk E n) {i:Nat} {t:Tx} (ht:E.txs[i]?=some t):I64 t.state∧I64 t.why:=by
 have h1:=(hM.reg.fair i _ (cs_get ht)).sta
 have h2:=(hN t (List.mem_of_getElem? ht)).2.2
 unfold I64
 simp only [cor] at h1
 omega
end
end Go.Proofs.YtjefgmeejhakbabGreatDoor
namespace Go.Proofs.YtjefgmeejhakbabGreatDoor
open Go.RowKit
section
variable {w w':World} {b d:Nat} {L:EnL} {E:Eng} {dv:List Value} {D:Dsk} {used torn:Int} {down:Bool}
set_option maxRecDepth 100000 in
set_option maxHeartbeats 1000000 in
theorem bwrite_stop {lv:Value} (h:BasAt w b d L E dv D used torn down) {rc:Int} (hst:(rc=6∧down=true)∨(rc=4∧down=false∧250≤used)) :
  Calls Tryz.prog 179 #[.pointer (some ⟨b,0,none⟩),lv] w fun e w'=>e=.returned (.iface 33 (.int .i64 rc))∧w'=w:=by
 have c2:=h.cell 2
 have c4:=h.cell 4
 simp only [basCells,List.getElem?_toArray,List.getElem?_cons_zero,List.getElem?_cons_succ] at c2 c4
 clear h
 rcases hst with ⟨rfl,rfl⟩ | ⟨rfl,rfl,hu⟩
 ·go_enter Tryz.func179,Tryz.ntmps179
  go_wp2
  go_ret
  exact⟨rfl,rfl⟩
 ·have gu:decide (used≥250)=true:=decide_eq_true hu
  go_enter Tryz.func179,Tryz.ntmps179
  go_wp2
  go_ret
  exact⟨rfl,rfl⟩
set_option maxRecDepth 100000 in
set_option maxHeartbeats 1000000 in
theorem bcommit_stop (h:BasAt w b d L E dv D used torn down) {i:Nat} {t:Tx} (hM:CmOk E i t) (ht:E.txs[i]?=some t) (hs:t.state=0) (hb:betB t.ahead t.behind=false) (hne:writesP t.vals≠[]) {rc:Int} (hst:(rc=6∧down=true)∨(rc=4∧down=false∧250≤used)) :
  Calls Tryz.prog 102 #[.pointer (some ⟨b,0,none⟩),.int .i64 ((i:Int)+1)] w fun e w'=>e=.returned (.iface 33 (.int .i64 rc))∧Below w.heap.size w w':=by
 have c1:=h.cell 1
 simp only [basCells,List.getElem?_toArray,List.getElem?_cons_zero,List.getElem?_cons_succ] at c1
 have HW:=hid (writesE_ok h.en ht)
 have HH:=hid h
 have HT:=hid (And.intro ht hs)
 have HBT:=hid hb
 have hwl:=writesP_len t.vals
 have hfv:=hM.fine
 have hvk:=hM.vk
 have HWF:=hid (show ∀ p∈writesP t.vals,Fine p from writesP_fine hvk hfv)
 obtain⟨ws,hws⟩:∃ ws,writesP t.vals=ws:=⟨_,rfl⟩
 rw [hws] at HW hne hwl HWF
 have gw0:((ws.length:Int)==0)=false:=beq_false_of_ne (fun e=>hne (List.eq_nil_of_length_eq_zero (by omega)))
 have hne14:∀ w,(binOp .neq 27 (.iface 33 (.int .i64 rc)) .nilIface).run Tryz.prog w=.ok (.bool true) w:=fun _=>by rcases hst with ⟨rfl,_⟩ | ⟨rfl,_⟩<;>kernel_rfl
 clear h hM ht hs hws hb hfv hvk
 go_enter Tryz.func102,Tryz.ntmps102
 go_wp2_with fail
 refine HW.out.mono ?_
 rintro e w1 ⟨v,rfl,hrow,hB1⟩
 rcases row_slice hrow with ⟨_,e0⟩ | ⟨g,cap,rfl,hg,hc⟩
 ·exact (hne (List.eq_nil_of_length_eq_zero e0)).elim
 have HH1:=hid (HH.out.below hB1)
 have HB1:=hid hB1
 have d1:=HH1.out.cell 1
 simp only [basCells,List.getElem?_toArray,List.getElem?_cons_zero,List.getElem?_cons_succ] at d1
 have hRD:=ready_main HH1.out.en HT.out.1 HT.out.2
 rw [HBT.out,if_neg (by simp)] at hRD
 have HRD:=hid hRD
 have HREC:=hid (record_any (some ⟨g,0,none⟩) cap ws w1 hwl (fun p hp=>fine_key (HWF.out p hp)) (fun j a x hax=>⟨g,0,rfl,hg,by rw [Nat.zero_add];exact hc _ _ (vrow_get ws j a x hax).1,by rw [Nat.zero_add];exact hc _ _ (vrow_get ws j a x hax).2⟩))
 clear hrow hB1 HW c1 hRD hc
 go_wp2_with fail
 refine HRD.out.mono ?_
 rintro e w2 ⟨rfl,hw2⟩
 rw [hw2]
 clear hw2 w2 HRD
 go_wp2_with fail
 refine HREC.out.mono ?_
 rintro e w2 ⟨rv,rfl,hrow2,hB2⟩
 have hrec10:(recP ws).length=9+9*ws.length:=recP_len ws
 obtain⟨_,rad,rcap,erv,hcap2,hx2⟩:=bytesV_own hrow2
 rcases row_slice hrow2 with ⟨_,e0⟩ | ⟨g2,cap2,rfl,hg2,hc2⟩
 ·omega
 have HH2:=hid (HH1.out.below hB2)
 have HB2:=hid hB2
 have HBW:=hid (bwrite_stop (lv:=.slice (some ⟨g2,0,none⟩) (recP ws).length cap2) HH2.out hst)
 clear hrow2 hB2 HREC hc2 hrec10 erv hcap2 hx2
 go_wp2_with fail
 refine HBW.out.mono ?_
 rintro e w3 ⟨rfl,hw3⟩
 rw [hw3]
 clear hw3 w3
 go_wp2
 go_ret
 exact⟨rfl,HB1.out.trans (HB2.out.mono HB1.out.size)⟩
end
end Go.Proofs.YtjefgmeejhakbabGreatDoor
namespace Go.Proofs.YtjefgmeejhakbabGreatDoor
open Go.RowKit
def DskG (D:Dsk) (recs:List (List (Int × Int))):Prop:=Recs D recs∧D.pl.length=250∧(∀ (j:Nat) (l:List Int),recs.length≤j→D.pl[j]?=some l→wholeP l=false)
theorem dskG0:DskG dsk0 []:=⟨dskOk0.1,dskOk0.2.1,dskOk0.2.2.1⟩
theorem DskG.write {D:Dsk} {recs:List (List (Int × Int))} (h:DskG D recs) {ws:List (Int × Int)} (hw:ws.length≤10) (hf:∀ p∈ws,Fine p) (hne:ws≠[]) (hl:recs.length<250) (torn:Int) (hp:powerB D=true):DskG (writeD D recs.length (recP ws) torn) (recs++[ws]):=by
 obtain⟨h1,h2,h3⟩:=h
 have hw0:writeD D recs.length (recP ws) torn={ pl:=D.pl.set recs.length (recP ws),cut:=D.cut,left:=if D.cut=true then D.left-1 else D.left }:=by unfold writeD;rw [if_pos hp]
 rw [hw0]
 refine⟨⟨fun j vs hj=>?_,fun vs hv=>?_,fun vs hv=>?_,fun vs hv=>?_,by simp;omega,fun l hl2=>?_⟩,by simp [h2],fun j l hj hl2=>?_⟩
 ·show (D.pl.set recs.length (recP ws))[j]?=_
  rcases Nat.lt_or_ge j recs.length with hlt | hge
  ·rw [List.getElem?_append_left hlt] at hj
   rw [List.getElem?_set_ne (by omega)]
   exact h1.at_ j vs hj
  ·have hj2:=(List.getElem?_eq_some_iff.1 hj).1
   simp at hj2
   obtain rfl:j=recs.length:=by omega
   rw [List.getElem?_append_right (Nat.le_refl _)] at hj
   simp at hj
   rw [List.getElem?_set_self (by omega),hj]
 ·rcases List.mem_append.1 hv with h | h
  ·exact h1.len vs h
  ·rw [List.mem_singleton.1 h];exact hw
 ·rcases List.mem_append.1 hv with h | h
  ·exact h1.fine vs h
  ·rw [List.mem_singleton.1 h];exact hf
 ·rcases List.mem_append.1 hv with h | h
  ·exact h1.ne vs h
  ·rw [List.mem_singleton.1 h];exact hne
 ·have hl2:(D.pl.set recs.length (recP ws))[(recs++[ws]).length]?=some l:=hl2
  simp only [List.length_append,List.length_singleton] at hl2
  rw [List.getElem?_set_ne (by omega)] at hl2
  exact h3 _ l (by omega) hl2
 ·have hl2:(D.pl.set recs.length (recP ws))[j]?=some l:=hl2
  simp only [List.length_append,List.length_singleton] at hj
  rw [List.getElem?_set_ne (by omega)] at hl2
  exact h3 j l (by omega) hl2
theorem DskG.off {D:Dsk} {recs:List (List (Int × Int))} (h:DskG D recs) (ws:List (Int × Int)) (torn:Int) (hlt:recs.length<250) (hp:powerB D=false):DskG (writeD D recs.length (recP ws) torn) recs:=by
 obtain⟨h1,h2,h3⟩:=h
 have hl:=recP_len ws
 have hw0:writeD D recs.length (recP ws) torn={ D with pl:=D.pl.set recs.length ((recP ws).take (min torn ((recP ws).length-1)).toNat) }:=by unfold writeD;rw [if_neg (by rw [hp];simp)]
 rw [hw0]
 have hnw:wholeP ((recP ws).take (min torn ((recP ws).length-1)).toNat)=false:=whole_torn ws (by omega)
 have hall:∀ (j:Nat) (l:List Int),recs.length≤j→(D.pl.set recs.length ((recP ws).take (min torn ((recP ws).length-1)).toNat))[j]?=some l→wholeP l=false:=fun j l hj hl2=>by
  by_cases e:j=recs.length
  ·subst e
   rw [List.getElem?_set_self (by omega)] at hl2
   cases hl2
   exact hnw
  ·rw [List.getElem?_set_ne (fun h=>e h.symm)] at hl2
   exact h3 j l hj hl2
 refine⟨⟨fun j vs hj=>?_,h1.len,h1.fine,h1.ne,h1.lt,fun l hl2=>hall _ l (Nat.le_refl _) hl2⟩,by simp [h2],hall⟩
 have hj2:=(List.getElem?_eq_some_iff.1 hj).1
 show (D.pl.set recs.length _)[j]?=_
 rw [List.getElem?_set_ne (by omega)]
 exact h1.at_ j vs hj
theorem DskG.cut {D:Dsk} {recs:List (List (Int × Int))} (h:DskG D recs) (b:Bool) (n:Int):DskG { D with cut:=b,left:=n } recs:=⟨⟨h.1.at_,h.1.len,h.1.fine,h.1.ne,h.1.lt,h.1.end_⟩,h.2.1,h.2.2⟩
end Go.Proofs.YtjefgmeejhakbabGreatDoor
