/- DkTell EnCommit OrKeys OrAdd: put together for a claim. -/
import Derived.Test.YtjefgmeejhakbabGreatDoorMgAD
import Derived.Test.YtjefgmeejhakbabGreatDoorMgAU
import Derived.Test.YtjefgmeejhakbabGreatDoorMgAS
namespace Go.Proofs.YtjefgmeejhakbabGreatDoor
open Go.RowKit
theorem infoStr:(Tryz.prog.info? 9).map (fun i=>(i.zero,i.size,i.bytes))=some (some (.string .empty),1,16):=by kernel_rfl
theorem infoInt:(Tryz.prog.info? 3).map (fun i=>(i.zero,i.size,i.bytes))=some (some (.int .i64 0),1,8):=by kernel_rfl
def NumsAt (w:World) (v:Value) (l:List Int):Prop:=∃ (ad:Option Addr) (g o cap:Nat),v=.slice ad l.length cap∧(0<l.length→ad=some ⟨g,o,none⟩)∧l.length≤cap∧∀ (j:Nat) x,l[j]?=some x→w.cell? ⟨g,o+j,none⟩=some (.int .i64 x)
theorem join_row {w:World} {base:Nat} {v:Value} {xs:List (List UInt8)} (h:w.ownsRow base 9 1 v xs.length (xs.map txt)) (sep:List UInt8) (hN:xs.length≤1000000000) (hlen:(Lib.join xs sep).length≤140737488355328) :
  Calls Tryz.prog 69 #[v,.string ⟨sep.toArray⟩] w fun e w'=>e=.returned (txt (Lib.join xs sep))∧Below w.heap.size w w':=by
 rcases row_slice h with ⟨rfl,hn⟩ | ⟨g,c,rfl,hc⟩
 ·have hx:xs=[]:=List.eq_nil_of_length_eq_zero hn
  subst hx
  refine (Tryz.strings_Join_none none 0 _ w).mono ?_
  rintro e w' ⟨rfl,rfl⟩
  exact⟨rfl,Below.refl _ _⟩
 ·have hcap:xs.length≤c:=by
   rcases h.2 with ⟨e1,_⟩ | ⟨g',cap,cur,e1,_,_,hn,_⟩
   ·cases e1
   ·cases e1;exact hn
  have e2:xs.map (fun x=>(⟨x.toArray⟩:ByteArray).data.toList)=xs:=by simp
  have:=Tryz.strings_Join g 0 c (xs.map (fun x=>(⟨x.toArray⟩:ByteArray))) ⟨sep.toArray⟩ w (fun j x hx=>by
   rw [List.getElem?_map] at hx
   obtain⟨y,hy,rfl⟩:=Option.map_eq_some_iff.1 hx
   rw [Nat.zero_add]
   exact hc.2 j _ (by rw [List.getElem?_map,hy];rfl)) hc.1 (by simp;omega) (by simpa using hcap) (by rw [List.map_map,show ((fun x:ByteArray=>x.data.toList)∘fun x:List UInt8=>(⟨x.toArray⟩:ByteArray))=id by funext x;simp];simpa using hlen)
  rw [List.length_map] at this
  refine this.mono ?_
  rintro e w' ⟨rfl,hB⟩
  refine⟨?_,hB⟩
  rw [List.map_map,show ((fun x:ByteArray=>x.data.toList)∘fun x:List UInt8=>(⟨x.toArray⟩:ByteArray))=id by funext x;simp]
  simp [txt]
theorem numsT_len {l:List Int} (h:∀ x∈l,I64 x):(numsT l).length≤22*l.length:=by
 have:=join_len [32] 21 (l.map Lib.itoa) (fun x hx=>by
  obtain⟨y,hy,rfl⟩:=List.mem_map.1 hx
  exact itoa_len (h y hy))
 simpa [numsT] using this
theorem wpList_app_txt {w:World} {ops:Array Oper} {rest:List Oper} {o:Oper} {a:Act} {Q:Exit→Act→World→Prop} (hgd:o.guard=none) (s x:Operand)
  (ho:o.op=.call { callee:=.builtin .append,args:=#[s,x],argTypes:=#[25,25] }) (base:Nat) (v:Value) (n:Nat) (xs:List Value) (hs:a.eval s=v) (hown:w.ownsRow base 9 1 v n xs)
  (k:Nat) (u:Value) (hx:a.eval x=.slice (some ⟨k,0,none⟩) 1 1) (hk:w.heap[k]?=some (.cells #[u] 9 (0,0))) (h1:u.oneCell'=true) (hn:n+1≤4000000000000) (hbase:base≤w.heap.size)
  (h:∀ ad cap w',w'.ownsRow base 9 1 (.slice ad (n+1) cap) (n+1) (xs++[u])→Below base w w'→wpList Tryz.prog ops Q rest (a.put o.dst (.slice ad (n+1) cap)) w'):wpList Tryz.prog ops Q (o::rest) a w:=by
 obtain⟨i0,hi0,hz0,hz1,hz2⟩:=info_parts infoStr
 refine wpList_append_lies w hgd s x _ ho base 9 i0 _ 1 16 Tryz.underlying25 hi0 hz0 hz1 hz2 rfl (by omega) v n xs hs hown ⟨k,0,none⟩ 1 1 [u] hx rfl (World.news_of_block (cs:=#[u]) (t:=9) (fr:=(0,0)) hk) (by simpa using h1) (by omega) (by unfold maxLen;omega) (by omega) (by omega) w.heap.size rfl ?_
 intro g' cap' w2 ho2 hgrow _ _
 refine h _ cap' w2 ho2 ((Below.refl _ w).mono hbase |>.grown hgrow hbase (fun j e=>(hown.lt j e).1))
theorem owns_below {w w':World} {base:Nat} {e:TypeId} {size:Nat} {v:Value} {n:Nat} {xs:List Value} (h:w.ownsRow base e size v n xs) (hB:Below w.heap.size w w'):w'.ownsRow base e size v n xs:=owns_same h (fun g hg=>hB.block g (h.lt g hg).2)
theorem take_snoc {α:Type} {l:List α} {j:Nat} {x:α} (h:l[j]?=some x):l.take (j+1)=l.take j++[x]:=by
 rw [List.take_add_one,h];rfl
set_option maxRecDepth 100000 in
set_option maxHeartbeats 2000000 in
theorem tellNumbers_any {w:World} (hg:LibAt w) {v:Value} {l:List Int} (hv:NumsAt w v l) (hl:∀ x∈l,I64 x) (hn:l.length≤1000000) :
  Calls Tryz.prog 99 #[v] w fun e w'=>e=.returned (txt (numsT l))∧Below w.heap.size w w':=by
 obtain⟨i0,hi0,hz0,hz1,hz2⟩:=info_parts infoStr
 obtain⟨ad,g,o,cap,rfl,had,hcap,hcells⟩:=hv
 have hcut:=hid hcells
 have HA:=hid had
 have HG:=hid hg
 have HL:=hid hl
 clear hcells hg hl had
 go_enter Tryz.func99,Tryz.ntmps99
 go_wp2
 go_loopw [3,8] (fun tv i wr=>∃ j:Nat,j≤l.length∧i=.int .i64 j∧wr.ownsRow w.heap.size 9 1 tv j ((l.take j).map (fun x=>txt (Lib.itoa x)))∧Below w.heap.size w wr) (fun _ i _=>l.length-(intOf i).toNat)
 case atStart=>exact⟨0,by omega,rfl,by simpa using World.ownsRow_nil w w.heap.size 9 1,Below.refl _ _⟩
 case round =>
  obtain⟨j,hj,rfl,hown,hB⟩:=hrel
  have hBs:=hB.size
  by_cases hlt:j<l.length
  ·obtain⟨x,hx⟩:∃ x,l[j]?=some x:=⟨_,List.getElem?_eq_getElem hlt⟩
   have hc:=hcut.out j x hx
   have hgl:g<w.heap.size:=World.block_lt_of_cell? _ _ hc
   have hc2:=(hB.cell (p:=⟨g,o+j,none⟩) hgl).trans hc
   have hxx:=HL.out x (List.mem_of_getElem? hx)
   have HI:=hid (fun (W:World) (hW:LibAt W)=>itoa_any hW hxx)
   have HGr:=hid (HG.out.below hB HG.out.room)
   have HO:=hid hown
   have HX:=hid hx
   have hae:=HA.out (by omega)
   subst hae
   clear hc hx hown HG hcut HL HA
   go_wp2_with (first | (go_at_call 31;refine (HI.out _ HGr.out).mono ?_;rintro e w1 ⟨rfl,hB1⟩) | (at_builtin;refine wpList_app_txt (by rfl) _ _ (by rfl) w.heap.size u3 j _ (by rfl) ((owns_below HO.out hB1).alloc _) w1.heap.size _ (by rfl) (heap_alloc_new _ _) (by rfl) (by omega) (by have:=hB1.size;simp;omega) ?_;intro ad2 cap2 w2 ho2 hB2))
   go_roundw
   case rel =>
    have hs1:=hB1.size
    refine⟨j+1,by omega,by go_num,?_,hB.trans ((hB1.mono hBs).trans (((Below.refl _ w1).alloc (Nat.le_refl _) _ |>.mono (by omega)).trans hB2))⟩
    rw [take_snoc HX.out,List.map_append]
    exact ho2
   case measure=>simp [intOf];omega
  ·have hjj:j=l.length:=by omega
   subst hjj
   rw [List.take_length] at hown
   have hown2:wr.ownsRow w.heap.size 9 1 u3 (l.map Lib.itoa).length ((l.map Lib.itoa).map txt):=by rw [List.length_map,List.map_map];exact hown
   have hlen:=numsT_len HL.out
   have HJ:=hid (join_row hown2 [32] (by rw [List.length_map];omega) (by unfold numsT at hlen;omega))
   clear hown hown2 hlen
   go_wp2_with (go_at_call 69;refine HJ.out.mono ?_;rintro e w1 ⟨rfl,hB1⟩)
   go_ret
   exact⟨rfl,hB.trans (hB1.mono hBs)⟩
end Go.Proofs.YtjefgmeejhakbabGreatDoor
namespace Go.Proofs.YtjefgmeejhakbabGreatDoor
open Go.RowKit
variable {w w':World} {L:EnL} {E:Eng}
def installE (E:Eng) (i:Nat):Eng:=match E.txs[i]? with
 | some t=>if writesP t.vals=[]∨1099511627776<E.last+1 then E else { E with last:=E.last+1,ks:=instP (E.last+1) (writesP t.vals) E.ks,wr:=updT E.wr (E.last+1) (some ((i:Int)+1)),nw:=E.nw+1 }
 | none=>E
noncomputable def commitE (f:Nat) (E:Eng) (i:Nat):Option (Int × Eng):=match E.txs[i]? with
 | some t=>if betB t.ahead t.behind=true then (endF f (loseE E i 13) i 3).map (fun E'=>(13,E')) else
  (endF f { (installE E i) with com:=E.com++[i] } i 2).map (fun E'=>(0,E'))
 | none=>none
theorem P_set16 (L:EnL) (last:Int) (hlv:L.vs.length=10) (v:Value):(L.P.cells last L.vs).setIfInBounds 16 v=({ L with cv:=v }:EnL).P.cells last L.vs:=by
 unfold Tail.cells
 rw [List.setIfInBounds_toArray,show 16=15+1 from rfl,List.set_cons_succ,List.set_append_right _ _ (by omega),hlv]
 rfl
theorem P_set14 (L:EnL) (last:Int) (hlv:L.vs.length=10) (v:Value):(L.P.cells last L.vs).setIfInBounds 14 v=({ L with av:=v }:EnL).P.cells last L.vs:=by
 unfold Tail.cells
 rw [List.setIfInBounds_toArray,show 14=13+1 from rfl,List.set_cons_succ,List.set_append_right _ _ (by omega),hlv]
 rfl
theorem EnAt.setWr (h:EnAt w L E) {a x:Int} (ha:I64 a) (hn:E.nw≤1000000000) :
  ∃ w',(Instr.mapUpdate 131 (.map (some L.wb)) (.int .i64 a) (.int .i64 x)).run Tryz.prog w=.ok () w'∧EnAt w' L { E with wr:=updT E.wr a (some x),nw:=E.nw+1 }∧KeptO L.own L.own w w':=by
 obtain⟨w',hr,hI,hg⟩:=h.wr.store Tryz.underlying131 (by unfold maxLen;omega) ha (.int .i64 x)
 rw [show updT (fun k=>(E.wr k).map (Value.int .i64)) a (some (.int .i64 x))=fun k=>(updT E.wr a (some x) k).map (Value.int .i64) from (updT_map E.wr a (some x)).symm] at hI
 have hb:∀ g,g<w.heap.size→g≠L.wb→w'.heap[g]?=w.heap[g]?:=fun g hg' hne=>hg.block g hg' (fun e=>hne (by injection e))
 obtain⟨ρ,T⟩:=h.tag
 have hk:∀ g,L.own g→ρ g≠.wr→w'.heap[g]?=w.heap[g]?:=fun g hg' hn=>hb g (h.own_lt hg') (fun e=>hn (by rw [e];exact T.wr))
 refine⟨w',hr,⟨h.sto.kept (hk _ (.inl rfl) (by rw [T.eng];exact nofun)) (fun g hg=>hk g (.inr (.inl hg)) (by rw [T.srow g hg];exact nofun)),
  h.loc.same (fun g hg=>hk g (.inr (.inr (.inl hg))) (by
   by_cases hgs:g=L.s
   ·rw [hgs,T.eng];exact nofun
   ·rw [T.lock g hg hgs];exact nofun)),h.good,h.mem,owns_same h.all (fun g hg=>hk g (.inr (.inr (.inr (.inl hg)))) (by rw [T.all g hg];exact nofun)),h.len,h.le,hI,
  owns_same h.com (fun g hg=>hk g (.inr (.inr (.inr (.inr (.inr (.inl hg)))))) (by rw [T.com g hg];exact nofun)),h.coml,
  fun i l t hl ht=>(h.txs i l t hl ht).same (fun g hg=>hk g (TxL.own_in hl hg) (by rw [T.tx i l g hl hg];exact nofun)),ρ,T⟩,?_⟩
 exact⟨hg.os,hg.tape,hg.output,hg.size,fun g hg' hn=>hb g hg' (fun e=>hn (e▸.inr (.inr (.inr (.inr (.inl rfl)))))),fun g hg=>.inl hg⟩
theorem EnAt.addCom (h:EnAt w L E) {i:Nat} {l:TxL} (hl:L.txs[i]?=some l) {w1:World} {gg cap m:Nat} (hm:E.com.length=m)
  (hown:w1.ownsRow 0 239 1 (.slice (some ⟨gg,0,none⟩) (m+1) cap) (m+1) ((E.com.map fun i=>ptrV (L.bs[i]?.getD 0))++[.pointer (some ⟨l.b,0,none⟩)]))
  (hos:w1.os=w.os∧w1.tape=w.tape∧w1.output=w.output) (hsz:w.heap.size≤w1.heap.size) (hb:∀ g,g<w.heap.size→L.cv.ownBlock≠some g→w1.heap[g]?=w.heap[g]?) (hat:L.cv.ownBlock=some gg∨w.heap.size≤gg) :
  EnAt (w1.setCell ⟨L.s,16,none⟩ (.slice (some ⟨gg,0,none⟩) (m+1) cap)) { L with cv:=.slice (some ⟨gg,0,none⟩) (m+1) cap } { E with com:=E.com++[i] } ∧
   KeptO L.own ({ L with cv:=.slice (some ⟨gg,0,none⟩) (m+1) cap }:EnL).own w (w1.setCell ⟨L.s,16,none⟩ (.slice (some ⟨gg,0,none⟩) (m+1) cap)):=by
 obtain⟨ρ,T⟩:=h.tag
 have hsl:=h.sto.lt
 have hcs:L.cv.ownBlock≠some L.s:=fun e=>by have h1:=T.com _ e;rw [T.eng] at h1;cases h1
 have hgs:gg≠L.s:=by
  rcases hat with h1 | h1
  ·exact fun e=>hcs (e▸h1)
  ·omega
 have hblk:=setCell_at (o:=16) (v:=.slice (some ⟨gg,0,none⟩) (m+1) cap) ((hb L.s hsl hcs).trans h.sto.blk)
 rw [P_set16 L E.last h.lv] at hblk
 have ho:∀ g,g≠L.s→(w1.setCell ⟨L.s,16,none⟩ (.slice (some ⟨gg,0,none⟩) (m+1) cap)).heap[g]?=w1.heap[g]?:=fun g hg=>heap_setCell_other _ ⟨L.s,16,none⟩ g _ hg
 have hk:∀ g,L.own g→ρ g≠.eng→ρ g≠.com→(w1.setCell ⟨L.s,16,none⟩ (.slice (some ⟨gg,0,none⟩) (m+1) cap)).heap[g]?=w.heap[g]?:=fun g hg h1 h2 =>
  (ho g (fun e=>h1 (by rw [e];exact T.eng))).trans (hb g (h.own_lt hg) (fun e=>h2 (T.com g e)))
 have hi:i<E.txs.length:=by have:=(List.getElem?_eq_some_iff.1 hl).1;have:=h.len;omega
 refine⟨⟨h.sto.reblk hblk (fun g hg=>hk g (.inr (.inl hg)) (by rw [T.srow g hg];exact nofun) (by rw [T.srow g hg];exact nofun)),
  h.loc.reblk (C':=({ L with cv:=.slice (some ⟨gg,0,none⟩) (m+1) cap }:EnL).C E.last) (hblk.trans (by rw [← EnL.cells_eq];rfl)) (fun g hg hne=>hk g (.inr (.inr (.inl hg))) (by rw [T.lock g hg hne];exact nofun) (by rw [T.lock g hg hne];exact nofun)),h.good,h.mem,
  owns_same h.all (fun g hg=>hk g (.inr (.inr (.inr (.inl hg)))) (by rw [T.all g hg];exact nofun) (by rw [T.all g hg];exact nofun)),h.len,h.le,
  h.wr.same (hk _ (.inr (.inr (.inr (.inr (.inl rfl))))) (by rw [T.wr];exact nofun) (by rw [T.wr];exact nofun)),?_,?_,
  fun i l t hl ht=>(h.txs i l t hl ht).same (fun g hg=>hk g (TxL.own_in (L:=L) hl hg) (by rw [T.tx i l g hl hg];exact nofun) (by rw [T.tx i l g hl hg];exact nofun)),fun g=>if g<w.heap.size then ρ g else .com,?_⟩,?_⟩
 ·rw [show (({ E with com:=E.com++[i] }:Eng).com).length=m+1 from by simp [hm],show (({ E with com:=E.com++[i] }:Eng).com.map fun i=>ptrV (({ L with cv:=.slice (some ⟨gg,0,none⟩) (m+1) cap }:EnL).bs[i]?.getD 0))=(E.com.map fun i=>ptrV (L.bs[i]?.getD 0))++[.pointer (some ⟨l.b,0,none⟩)] from by
   show (E.com++[i]).map (fun i=>ptrV (L.bs[i]?.getD 0))=_
   rw [List.map_append,List.map_singleton,bs_get hl]
   rfl]
  exact owns_same hown (fun g hg=>ho g (by
   have:gg=g:=by simpa [Value.ownBlock] using hg
   rw [← this];exact hgs))
 ·intro j hj
  rcases List.mem_append.1 hj with h1 | h1
  ·exact h.coml j h1
  ·rw [List.mem_singleton.1 h1];exact hi
 ·have hlt:∀ g,L.own g→(if g<w.heap.size then ρ g else Tag.com)=ρ g:=fun g hg=>if_pos (h.own_lt hg)
  refine⟨(hlt _ (.inl rfl)).trans T.eng,fun g hg=>(hlt g (.inr (.inl hg))).trans (T.srow g hg),fun g hg hn=>(hlt g (.inr (.inr (.inl hg)))).trans (T.lock g hg hn),fun g hg=>(hlt g (.inr (.inr (.inr (.inl hg))))).trans (T.all g hg),(hlt _ (.inr (.inr (.inr (.inr (.inl rfl)))))).trans T.wr,
   fun g hg=>?_,fun j m g hm hg=>(hlt g (TxL.own_in (L:=L) hm hg)).trans (T.tx j m g hm hg)⟩
  have hgg:gg=g:=by simpa [Value.ownBlock] using hg
  subst hgg
  rcases hat with h1 | h1
  ·exact (hlt gg (.inr (.inr (.inr (.inr (.inr (.inl h1))))))).trans (T.com gg h1)
  ·simp only [if_neg (Nat.not_lt.2 h1)]
 ·refine⟨hos.1,hos.2.1,hos.2.2,by simpa using hsz,fun g hg hn=>(ho g (fun e=>hn (.inl e))).trans (hb g hg (fun e=>hn (.inr (.inr (.inr (.inr (.inr (.inl e)))))))),fun g hg=>?_⟩
  rcases hg with h1 | h1 | h1 | h1 | h1 | h1 | h1
  ·exact .inl (.inl h1)
  ·exact .inl (.inr (.inl h1))
  ·exact .inl (.inr (.inr (.inl h1)))
  ·exact .inl (.inr (.inr (.inr (.inl h1))))
  ·exact .inl (.inr (.inr (.inr (.inr (.inl h1)))))
  ·have hgg:gg=g:=by simpa [Value.ownBlock] using h1
   subst hgg
   rcases hat with h2 | h2
   ·exact .inl (.inr (.inr (.inr (.inr (.inr (.inl h2))))))
   ·exact .inr h2
  ·exact .inl (.inr (.inr (.inr (.inr (.inr (.inr h1))))))
end Go.Proofs.YtjefgmeejhakbabGreatDoor
namespace Go.Proofs.YtjefgmeejhakbabGreatDoor
open Go.RowKit
def updN {α:Type} (f:Nat→α) (k:Nat) (v:α):Nat→α:=fun j=>if j=k then v else f j
theorem updN_same {α:Type} (f:Nat→α) (k:Nat) (v:α):updN f k v k=v:=by simp [updN]
theorem updN_other {α:Type} (f:Nat→α) {k j:Nat} (v:α) (h:j≠k):updN f k v j=f j:=by simp [updN,h]
def keyCells (av:Nat→Value) (mv:Nat→Option Nat):Array Value:=Array.ofFn (n:=20) (fun i=>if i.val%2=0 then av (i.val / 2) else .map (mv (i.val / 2)))
theorem keyCells_size (av:Nat→Value) (mv:Nat→Option Nat):(keyCells av mv).size=20:=by simp [keyCells]
theorem keyCells_even (av:Nat→Value) (mv:Nat→Option Nat) {k:Nat} (hk:k<10):(keyCells av mv)[k*2]?=some (av k):=by
 simp [keyCells,show k*2<20 by omega]
theorem keyCells_odd (av:Nat→Value) (mv:Nat→Option Nat) {k:Nat} (hk:k<10):(keyCells av mv)[k*2+1]?=some (.map (mv k)):=by
 simp [keyCells,show k*2+1<20 by omega,show (k*2+1) / 2=k by omega,show (k*2+1)%2=1 by omega]
theorem keyCells_get (av:Nat→Value) (mv:Nat→Option Nat) (i:Nat):(keyCells av mv)[i]?=if i<20 then some (if i%2=0 then av (i / 2) else .map (mv (i / 2))) else none:=by
 unfold keyCells
 rw [Array.getElem?_ofFn]
 by_cases h:i<20<;>simp [h]
theorem keyCells_setA (av:Nat→Value) (mv:Nat→Option Nat) (k:Nat) (a:Value):(keyCells av mv).setIfInBounds (k*2) a=keyCells (updN av k a) mv:=by
 apply Array.ext_getElem?
 intro i
 rw [Array.getElem?_setIfInBounds,keyCells_get,keyCells_get,keyCells_size]
 unfold updN
 by_cases e:k*2=i
 ·subst e
  by_cases h:k*2<20<;>simp [h]
 ·rw [if_neg e]
  by_cases h:i<20
  ·rw [if_pos h,if_pos h]
   by_cases e2:i%2=0
   ·rw [if_pos e2,if_pos e2,if_neg (by omega)]
   ·rw [if_neg e2,if_neg e2]
  ·rw [if_neg h,if_neg h]
theorem keyCells_setM (av:Nat→Value) (mv:Nat→Option Nat) (k:Nat) (m:Option Nat):(keyCells av mv).setIfInBounds (k*2+1) (.map m)=keyCells av (updN mv k m):=by
 apply Array.ext_getElem?
 intro i
 rw [Array.getElem?_setIfInBounds,keyCells_get,keyCells_get,keyCells_size]
 unfold updN
 by_cases e:k*2+1=i
 ·subst e
  by_cases h:k*2+1<20
  ·rw [if_pos rfl,if_pos h,if_pos h,if_neg (by omega),if_pos (by omega)]
  ·rw [if_pos rfl,if_neg h,if_neg h]
 ·rw [if_neg e]
  by_cases h:i<20
  ·rw [if_pos h,if_pos h]
   by_cases e2:i%2=0
   ·rw [if_pos e2,if_pos e2]
   ·rw [if_neg e2,if_neg e2,if_neg (by omega)]
  ·rw [if_neg h,if_neg h]
structure KeysAt (w:World) (K:Nat) (av:Nat→Value) (mv:Nat→Option Nat) (S:Nat→List Int):Prop where
 blk:w.heap[K]?=some (.cells (keyCells av mv) 339 (0,0))
 row:∀ k,k<10→w.ownsRow 0 3 1 (av k) (S k).length (intsV (S k))
 map:∀ k,k<10→MapIs w (mv k) (S k).length (firstV (S k))
 nil:∀ k,k<10→(mv k=none↔S k=[])
 ap:∀ i j g,i<10→j<10→(av i).ownBlock=some g→(av j).ownBlock=some g→i=j
 am:∀ i j b,i<10→j<10→mv i=some b→mv j=some b→i=j
def keysOwn (K:Nat) (av:Nat→Value) (mv:Nat→Option Nat) (b:Nat):Prop:=b=K∨∃ k,k<10∧((av k).ownBlock=some b∨mv k=some b)
section
variable {w w':World} {K:Nat} {av:Nat→Value} {mv:Nat→Option Nat} {S:Nat→List Int}
theorem KeysAt.lt (h:KeysAt w K av mv S):K<w.heap.size:=(Array.getElem?_eq_some_iff.1 h.blk).1
theorem KeysAt.rowIs (h:KeysAt w K av mv S) {k g:Nat} (hk:k<10) (hg:(av k).ownBlock=some g):∃ cur,w.heap[g]?=some (.cells cur 3 (0,0)):=by
 rcases (h.row k hk).2 with ⟨e,_⟩ | ⟨g',cap,cur,e,_,hc,_⟩
 ·rw [e] at hg;cases hg
 ·rw [e] at hg;cases hg;exact⟨cur,hc⟩
theorem KeysAt.rowNe (h:KeysAt w K av mv S) {k:Nat} (hk:k<10):(av k).ownBlock≠some K:=fun e=>by
 obtain⟨cur,hc⟩:=h.rowIs hk e
 rw [h.blk] at hc
 simp at hc
theorem KeysAt.mapNe (h:KeysAt w K av mv S) {k:Nat} (hk:k<10):mv k≠some K:=(h.map k hk).ne h.blk
theorem KeysAt.mapRow (h:KeysAt w K av mv S) {k j g:Nat} (hk:k<10) (hj:j<10) (hg:(av k).ownBlock=some g):mv j≠some g:=by
 obtain⟨cur,hc⟩:=h.rowIs hk hg
 exact (h.map j hj).ne hc
theorem KeysAt.own_lt (h:KeysAt w K av mv S) {b:Nat} (hb:keysOwn K av mv b):b<w.heap.size:=by
 rcases hb with rfl | ⟨k,hk,e | e⟩
 ·exact h.lt
 ·exact ((h.row k hk).lt b e).2
 ·exact (h.map k hk).lt e
theorem KeysAt.same (h:KeysAt w K av mv S) (hs:∀ b,keysOwn K av mv b→w'.heap[b]?=w.heap[b]?):KeysAt w' K av mv S :=
 ⟨(hs K (.inl rfl)).trans h.blk,fun k hk=>owns_same (h.row k hk) (fun g e=>hs g (.inr ⟨k,hk,.inl e⟩)),fun k hk=>(h.map k hk).same (fun b e=>hs b (.inr ⟨k,hk,.inr e⟩)),h.nil,h.ap,h.am⟩
theorem KeysAt.below (h:KeysAt w K av mv S) (hB:Below w.heap.size w w'):KeysAt w' K av mv S:=h.same (fun b hb=>hB.block b (h.own_lt hb))
theorem KeysAt.c0 (h:KeysAt w K av mv S) {k:Nat} (hk:k<10):w.cell? ⟨K,k*2,none⟩=some (av k):=(cell_of_row w K (k*2) _ _ (0,0) h.blk).trans (keyCells_even av mv hk)
theorem KeysAt.c1 (h:KeysAt w K av mv S) {k:Nat} (hk:k<10):w.cell? ⟨K,k*2+1,none⟩=some (.map (mv k)):=(cell_of_row w K (k*2+1) _ _ (0,0) h.blk).trans (keyCells_odd av mv hk)
theorem KeysAt.free (h:KeysAt w K av mv S) (j:Nat):w.frozen? ⟨K,j,none⟩=false:=by simp [World.frozen?,h.blk]
theorem KeysAt.at (h:KeysAt w K av mv S) {k:Nat} (hk:k<10):WrAt w K (k*2) (av k) (mv k) (S k):=⟨h.c0 hk,h.c1 hk,h.row k hk,h.map k hk⟩
theorem KeysAt.turn (h:KeysAt w K av mv S) {k:Nat} (hk:k<10) {a:Value} {m:Option Nat} {s:List Int} (hb:w'.heap[K]?=some (.cells (keyCells (updN av k a) (updN mv k m)) 339 (0,0)))
  (ho:w'.ownsRow 0 3 1 a s.length (intsV s)) (hm:MapIs w' m s.length (firstV s)) (hn:m=none↔s=[])
  (hf:∀ b,b<w.heap.size→b≠K→(av k).ownBlock≠some b→mv k≠some b→w'.heap[b]?=w.heap[b]?) (hsz:w.heap.size≤w'.heap.size) (hos:w'.os=w.os∧w'.tape=w.tape∧w'.output=w.output)
  (ha:∀ g,a.ownBlock=some g→(av k).ownBlock=some g∨w.heap.size≤g) (hmm:∀ b,m=some b→mv k=some b∨w.heap.size≤b) :
  KeysAt w' K (updN av k a) (updN mv k m) (updN S k s)∧KeptO (keysOwn K av mv) (keysOwn K (updN av k a) (updN mv k m)) w w':=by
 refine⟨⟨hb,fun j hj=>?_,fun j hj=>?_,fun j hj=>?_,fun i j g hi hj h1 h2=>?_,fun i j b hi hj h1 h2=>?_⟩,⟨hos.1,hos.2.1,hos.2.2,hsz,fun b hbl hno=>?_,fun b hb=>?_⟩⟩
 ·by_cases e:j=k
  ·subst e;rw [updN_same,updN_same];exact ho
  ·rw [updN_other _ _ e,updN_other _ _ e]
   refine owns_same (h.row j hj) (fun g hg=>hf g ((h.row j hj).lt g hg).2 (fun e2=>h.rowNe hj (e2▸hg)) (fun e2=>e (h.ap j k g hj hk hg e2)) (h.mapRow hj hk hg))
 ·by_cases e:j=k
  ·subst e;rw [updN_same,updN_same];exact hm
  ·rw [updN_other _ _ e,updN_other _ _ e]
   refine (h.map j hj).same (fun b hb=>hf b ((h.map j hj).lt hb) (fun e2=>h.mapNe hj (e2▸hb)) (fun e2=>h.mapRow hk hj e2 hb) (fun e2=>e (h.am j k b hj hk hb e2)))
 ·by_cases e:j=k
  ·subst e;rw [updN_same,updN_same];exact hn
  ·rw [updN_other _ _ e,updN_other _ _ e];exact h.nil j hj
 ·by_cases e1:i=k
  ·by_cases e2:j=k
   ·omega
   ·subst e1
    rw [updN_same] at h1
    rw [updN_other _ _ e2] at h2
    rcases ha g h1 with h3 | h3
    ·exact (h.ap j i g hj hk h2 h3).symm
    ·have:=((h.row j hj).lt g h2).2;omega
  ·by_cases e2:j=k
   ·subst e2
    rw [updN_same] at h2
    rw [updN_other _ _ e1] at h1
    rcases ha g h2 with h3 | h3
    ·exact h.ap i j g hi hk h1 h3
    ·have:=((h.row i hi).lt g h1).2;omega
   ·rw [updN_other _ _ e1] at h1
    rw [updN_other _ _ e2] at h2
    exact h.ap i j g hi hj h1 h2
 ·by_cases e1:i=k
  ·by_cases e2:j=k
   ·omega
   ·subst e1
    rw [updN_same] at h1
    rw [updN_other _ _ e2] at h2
    rcases hmm b h1 with h3 | h3
    ·exact (h.am j i b hj hk h2 h3).symm
    ·have:=(h.map j hj).lt h2;omega
  ·by_cases e2:j=k
   ·subst e2
    rw [updN_same] at h2
    rw [updN_other _ _ e1] at h1
    rcases hmm b h2 with h3 | h3
    ·exact h.am i j b hi hk h1 h3
    ·have:=(h.map i hi).lt h1;omega
   ·rw [updN_other _ _ e1] at h1
    rw [updN_other _ _ e2] at h2
    exact h.am i j b hi hj h1 h2
 ·exact hf b hbl (fun e=>hno (.inl e)) (fun e=>hno (.inr ⟨k,hk,.inl e⟩)) (fun e=>hno (.inr ⟨k,hk,.inr e⟩))
 ·rcases hb with e | ⟨j,hj,e | e⟩
  ·exact .inl (.inl e)
  ·by_cases ej:j=k
   ·subst ej
    rw [updN_same] at e
    rcases ha b e with e | e
    ·exact .inl (.inr ⟨j,hj,.inl e⟩)
    ·exact .inr e
   ·rw [updN_other _ _ ej] at e
    exact .inl (.inr ⟨j,hj,.inl e⟩)
  ·by_cases ej:j=k
   ·subst ej
    rw [updN_same] at e
    rcases hmm b e with e | e
    ·exact .inl (.inr ⟨j,hj,.inr e⟩)
    ·exact .inr e
   ·rw [updN_other _ _ ej] at e
    exact .inl (.inr ⟨j,hj,.inr e⟩)
end
def wAdd (s:List Int) (x:Int):List Int:=if s.getLast?=some x then s else s++[x]
end Go.Proofs.YtjefgmeejhakbabGreatDoor
namespace Go.Proofs.YtjefgmeejhakbabGreatDoor
open Go.RowKit
theorem firstV_known {s:List Int} {x:Int} {i:Nat} (h:firstAt x s=some i):firstV (s++[x])=firstV s:=by
 funext y
 unfold firstV
 rw [firstAt_append]
 cases hy:firstAt y s with
 | some j=>rfl
 | none =>
  have:x≠y:=fun e=>by subst e;rw [h] at hy;cases hy
  simp [this]
theorem firstV_new {s:List Int} {x:Int} (h:firstAt x s=none):firstV (s++[x])=updT (firstV s) x (some (.int .i64 (s.length:Nat))):=by
 funext y
 by_cases e:y=x
 ·subst e
  rw [updT_same]
  unfold firstV
  rw [firstAt_append,h]
  simp
 ·rw [updT_other _ _ e]
  unfold firstV
  rw [firstAt_append]
  cases hy:firstAt y s with
  | some j=>rfl
  | none=>simp [show x≠y from fun e2=>e e2.symm]
theorem updN_id {α:Type} {f:Nat→α} {k:Nat} {v:α} (h:f k=v):updN f k v=f:=by
 funext j
 by_cases e:j=k
 ·subst e;rw [updN_same,h]
 ·rw [updN_other _ _ e]
theorem firstV_nil:firstV []=fun _=>none:=by funext y;rfl
section
variable {w wz w4:World} {K:Nat} {av:Nat→Value} {mv:Nat→Option Nat} {S:Nat→List Int} {k b:Nat} {x:Int} {a:Value}
structure AddMid (w wz:World) (K:Nat) (av:Nat→Value) (mv:Nat→Option Nat) (S:Nat→List Int) (k b:Nat) (x:Int):Prop where
 blk:wz.heap[K]?=some (.cells (keyCells av (updN mv k (some b))) 339 (0,0))
 keep:∀ c,c<w.heap.size→c≠K→mv k≠some c→wz.heap[c]?=w.heap[c]?
 size:w.heap.size≤wz.heap.size
 oses:wz.os=w.os∧wz.tape=w.tape∧wz.output=w.output
 map:IMap wz b (S k++[x]).length (firstV (S k++[x]))
 old:mv k=some b∨w.heap.size≤b
theorem AddMid.row (m:AddMid w wz K av mv S k b x) (h:KeysAt w K av mv S) (hk:k<10):wz.ownsRow 0 3 1 (av k) (S k).length (intsV (S k)) :=
 owns_same (h.row k hk) (fun g e=>m.keep g ((h.row k hk).lt g e).2 (fun e2=>h.rowNe hk (e2▸e)) (h.mapRow hk hk e))
theorem AddMid.c0 (m:AddMid w wz K av mv S k b x) (hk:k<10):wz.cell? ⟨K,k*2,none⟩=some (av k):=(cell_of_row wz K (k*2) _ _ (0,0) m.blk).trans (keyCells_even av _ hk)
theorem AddMid.app (m:AddMid w wz K av mv S k b x) (h:KeysAt w K av mv S) (hk:k<10) {r:Option Nat} (hr:r=(av k).ownBlock) (hg:(wz.alloc (.cells #[.int .i64 x] 3)).grownBy w4 r) :
  w4.heap[K]?=some (.cells (keyCells av (updN mv k (some b))) 339 (0,0))∧w4.cell? ⟨K,k*2,none⟩=some (av k)∧w4.frozen? ⟨K,k*2,none⟩=false:=by
 subst hr
 have hK:K<wz.heap.size:=(Array.getElem?_eq_some_iff.1 m.blk).1
 have h1:w4.heap[K]?=some (.cells (keyCells av (updN mv k (some b))) 339 (0,0)) :=
  (hg.block K (by simp;omega) (fun e=>h.rowNe hk e.symm)).trans ((Below.heap_alloc _ _ K hK).trans m.blk)
 exact⟨h1,(cell_of_row w4 K (k*2) _ _ (0,0) h1).trans (keyCells_even av _ hk),by simp [World.frozen?,h1]⟩
theorem AddMid.done (m:AddMid w wz K av mv S k b x) (h:KeysAt w K av mv S) (hk:k<10) {r:Option Nat} (hr:r=(av k).ownBlock) (hg:(wz.alloc (.cells #[.int .i64 x] 3)).grownBy w4 r)
  (ho:w4.ownsRow 0 3 1 a (S k++[x]).length (intsV (S k++[x]))) (ha:∀ g,a.ownBlock=some g→(av k).ownBlock=some g∨w.heap.size≤g) :
  KeysAt (w4.setCell ⟨K,k*2,none⟩ a) K (updN av k a) (updN mv k (some b)) (updN S k (S k++[x]))∧KeptO (keysOwn K av mv) (keysOwn K (updN av k a) (updN mv k (some b))) w (w4.setCell ⟨K,k*2,none⟩ a):=by
 subst hr
 obtain⟨h1,_,_⟩:=m.app h hk rfl hg
 have hgs:=hg.size
 have hsz:wz.heap.size≤w4.heap.size:=by simp at hgs;omega
 have hne:∀ g,a.ownBlock=some g→g≠K:=fun g e e2=>by
  rcases ha g e with e3 | e3
  ·exact h.rowNe hk (e2▸e3)
  ·have:=h.lt;omega
 have hbz:b<wz.heap.size:=m.map.lt
 have hbK:b≠K:=m.map.ne m.blk
 have hbr:(av k).ownBlock≠some b:=fun e=>by
  rcases m.row h hk with ⟨_,⟨e2,_⟩ | ⟨g',cap,cur,e2,_,hc,_⟩⟩
  ·rw [e2] at e;cases e
  ·rw [e2] at e;cases e;exact m.map.ne hc rfl
 refine h.turn hk ?_ (owns_same ho (fun g e=>heap_setCell_other w4 ⟨K,k*2,none⟩ g a (hne g e))) (.inr ⟨b,rfl,?_⟩) ⟨fun e=>(by cases e),fun e=>(by simp at e)⟩ ?_ (by simp;have:=m.size;omega) ⟨hg.os.trans m.oses.1,hg.tape.trans m.oses.2.1,hg.output.trans m.oses.2.2⟩ ha (fun c e=>(by cases e;exact m.old))
 ·rw [← keyCells_setA]
  exact heap_setCell_same w4 K (k*2) _ _ a h1
 ·refine m.map.same ?_
  exact (heap_setCell_other w4 ⟨K,k*2,none⟩ b a hbK).trans ((hg.block b (by simp;omega) (fun e=>hbr e.symm)).trans (Below.heap_alloc _ _ b hbz))
 ·intro c hc hcK hcr hcm
  have hcz:c<wz.heap.size:=Nat.lt_of_lt_of_le hc m.size
  exact (heap_setCell_other w4 ⟨K,k*2,none⟩ c a hcK).trans ((hg.block c (by simp;omega) (fun e=>hcr e.symm)).trans ((Below.heap_alloc _ _ c hcz).trans (m.keep c hc hcK hcm)))
end
set_option maxRecDepth 100000 in
set_option maxHeartbeats 1000000 in
theorem add_same (K k:Nat) (av:Nat→Value) (mv:Nat→Option Nat) (S:Nat→List Int) (x:Int) (w:World) (h:KeysAt w K av mv S) (hk:k<10) (hn:(S k).length≤100000000) (hl:(S k).getLast?=some x) :
  Calls Tryz.prog 303 #[.pointer (some ⟨K,k*2,none⟩),.int .i64 x] w fun e w'=>e=.returned (.tuple #[])∧w'=w:=by
 have hne:S k≠[]:=fun e=>by rw [e] at hl;cases hl
 have hpos:0<(S k).length:=List.length_pos_iff.2 hne
 obtain⟨n,hnn⟩:∃ n,(S k).length=n+1:=⟨(S k).length-1,by omega⟩
 have c0:=h.c0 hk
 rcases row_slice (h.row k hk) with ⟨_,e0⟩ | ⟨g,cap,e,_,hc⟩
 ·omega
 ·have cl:=hc n (.int .i64 x) (intsV_get (by rw [List.getLast?_eq_getElem?,hnn] at hl;exact hl))
  rw [e,hnn] at c0
  clear h hc hl e
  go_enter Tryz.func303,Tryz.ntmps303
  go_wp2
  refine bodyPost_ret (results_none rfl _ _ _) rfl ?_
  exact⟨rfl,rfl⟩
set_option maxRecDepth 100000 in
set_option maxHeartbeats 400000 in
theorem add_old (K k b:Nat) (av:Nat→Value) (mv:Nat→Option Nat) (S:Nat→List Int) (x:Int) (w:World) (h:KeysAt w K av mv S) (hk:k<10) (hn:(S k).length≤100000000) (hx:I64 x) (hl:(S k).getLast?≠some x) (hb:mv k=some b) :
  Calls Tryz.prog 303 #[.pointer (some ⟨K,k*2,none⟩),.int .i64 x] w fun e w'=>e=.returned (.tuple #[])∧∃ av' mv',KeysAt w' K av' mv' (updN S k (S k++[x]))∧KeptO (keysOwn K av mv) (keysOwn K av' mv') w w':=by
 obtain⟨i0,hi0,hz0,hz1,hz2⟩:=info_parts info3
 have hne:S k≠[]:=fun e=>by rw [(h.nil k hk).2 e] at hb;cases hb
 have hpos:0<(S k).length:=List.length_pos_iff.2 hne
 obtain⟨n,hnn⟩:∃ n,(S k).length=n+1:=⟨(S k).length-1,by omega⟩
 have c0:=h.c0 hk
 have c1:=h.c1 hk
 have he:=eqlSome b
 have hI:IMap w b (S k).length (firstV (S k)):=MapIs.at (hb▸h.map k hk)
 have hlk:=hI.look Tryz.underlying131 (zeroI w) hx
 obtain⟨y,hy⟩:∃ y,(S k)[n]?=some y:=⟨(S k)[n],List.getElem?_eq_getElem (by omega)⟩
 have hyx:(y==x)=false:=by
  rw [List.getLast?_eq_getElem?,hnn,Nat.add_sub_cancel,hy] at hl
  simpa using hl
 rw [hb] at c1
 rcases row_slice (h.row k hk) with ⟨_,e0⟩ | ⟨g,cap,e,_,hc⟩
 ·omega
 ·have cl:=hc n (.int .i64 y) (intsV_get hy)
  have HE:=hid e
  rw [e,hnn] at c0
  have HH:=hid h
  have HN:=hid hnn
  cases hf:firstAt x (S k) with
  | some i =>
   have hlk2:(Instr.lookup 131 (.map (some b)) (.int .i64 x) true).run Tryz.prog w=.ok (.tuple #[.int .i64 (i:Nat),.bool true]) w:=by rw [hlk];simp [firstV,hf]
   have hm:AddMid w w K av mv S k b x:=⟨by rw [updN_id hb];exact h.blk,fun _ _ _ _=>rfl,Nat.le_refl _,⟨rfl,rfl,rfl⟩,by rw [firstV_known hf];exact hI.mono (by simp),.inl hb⟩
   have HM:=hid hm
   have hro:=hm.row h hk
   rw [e,hnn] at hro
   have HRow:=hid hro
   have hn2:n≤100000000:=by omega
   clear h hc hl hlk hI hm hy hf e hro hnn hpos hn hne
   go_enter Tryz.func303,Tryz.ntmps303
   go_wp2_with (at_builtin;refine wpList_append_lies _ rfl _ _ _ rfl 0 3 i0 _ 1 8 Tryz.underlying54 hi0 hz0 hz1 hz2 rfl (by omega) (.slice (some ⟨g,0,none⟩) (n+1) cap) (n+1) (intsV (S k)) rfl (HRow.out.alloc _) ⟨w.heap.size,0,none⟩ 1 1 [.int .i64 x] rfl rfl (World.news_of_block (cs:=#[.int .i64 x]) (t:=3) (fr:=(0,0)) (heap_alloc_new w _)) (by simp [Value.oneCell']) (by omega) (by unfold maxLen;omega) (by omega) (by simp) (w.heap.size+1) (by simp) ?_;intro g4 cap4 w4 ho4 hgrow4 hat4 hlt4;have hap:=HM.out.app HH.out hk (by rw [HE.out];rfl) hgrow4;have ca:=hap.2.1;have fa:=hap.2.2;rw [HE.out,HN.out] at ca;clear hap)
   refine bodyPost_end (results_none rfl _ _ _) rfl ?_
   have hms:=HM.out.size
   have hd:=HM.out.done HH.out hk (by rw [HE.out];rfl) hgrow4 (a:=.slice (some ⟨g4,0,none⟩) (n+1+1) cap4) (by rw [List.length_append,HN.out,intsV_append];exact ho4) (fun g' e=>(by
    cases e
    rcases hat4 with e | e
    ·exact .inl (by rw [HE.out];exact e)
    ·exact .inr (by show w.heap.size≤g4;omega)))
   exact⟨rfl,_,_,hd⟩
  | none =>
   have hlk2:(Instr.lookup 131 (.map (some b)) (.int .i64 x) true).run Tryz.prog w=.ok (.tuple #[.int .i64 0,.bool false]) w:=by rw [hlk];simp [firstV,hf]
   obtain⟨w1,hrun,hI1,hg1⟩:=hI.store Tryz.underlying131 (by unfold maxLen;omega) hx (.int .i64 ((S k).length:Nat))
   have hkp:∀ c,c<w.heap.size→c≠b→w1.heap[c]?=w.heap[c]?:=fun c hc hne=>hg1.block c hc (fun e=>hne (by cases e;rfl))
   have hm:AddMid w w1 K av mv S k b x:=⟨by
     rw [updN_id hb];exact (hkp K h.lt (fun e=>h.mapNe hk (by rw [hb,e]))).trans h.blk,
    fun c hc _ hcm=>hkp c hc (fun e=>hcm (by rw [hb,e])),hg1.size,⟨hg1.os,hg1.tape,hg1.output⟩,by rw [firstV_new hf];exact hI1.mono (by simp),.inl hb⟩
   have c01:=hm.c0 hk
   rw [e,hnn] at c01
   rw [hnn] at hrun
   have hrun2:(Instr.mapUpdate 131 (.map (some b)) (.int .i64 x) (.int .i64 ((n:Int)+1))).run Tryz.prog w=.ok () w1:=hrun
   have HM:=hid hm
   have hro:=hm.row h hk
   rw [e,hnn] at hro
   have HRow:=hid hro
   have hn2:n≤100000000:=by omega
   clear h hc hl hlk hI hm hy hf e hro hnn hpos hn hne hI1 hg1 hkp hrun
   go_enter Tryz.func303,Tryz.ntmps303
   go_wp2_with (at_builtin;refine wpList_append_lies _ rfl _ _ _ rfl 0 3 i0 _ 1 8 Tryz.underlying54 hi0 hz0 hz1 hz2 rfl (by omega) (.slice (some ⟨g,0,none⟩) (n+1) cap) (n+1) (intsV (S k)) rfl (HRow.out.alloc _) ⟨w1.heap.size,0,none⟩ 1 1 [.int .i64 x] rfl rfl (World.news_of_block (cs:=#[.int .i64 x]) (t:=3) (fr:=(0,0)) (heap_alloc_new w1 _)) (by simp [Value.oneCell']) (by omega) (by unfold maxLen;omega) (by omega) (by simp) (w1.heap.size+1) (by simp) ?_;intro g4 cap4 w4 ho4 hgrow4 hat4 hlt4;have hap:=HM.out.app HH.out hk (by rw [HE.out];rfl) hgrow4;have ca:=hap.2.1;have fa:=hap.2.2;rw [HE.out,HN.out] at ca;clear hap)
   refine bodyPost_end (results_none rfl _ _ _) rfl ?_
   have hms:=HM.out.size
   have hd:=HM.out.done HH.out hk (by rw [HE.out];rfl) hgrow4 (a:=.slice (some ⟨g4,0,none⟩) (n+1+1) cap4) (by rw [List.length_append,HN.out,intsV_append];exact ho4) (fun g' e=>(by
    cases e
    rcases hat4 with e | e
    ·exact .inl (by rw [HE.out];exact e)
    ·exact .inr (by show w.heap.size≤g4;omega)))
   exact⟨rfl,_,_,hd⟩
set_option maxRecDepth 100000 in
set_option maxHeartbeats 400000 in
theorem add_new (K k:Nat) (av:Nat→Value) (mv:Nat→Option Nat) (S:Nat→List Int) (x:Int) (w:World) (h:KeysAt w K av mv S) (hk:k<10) (hx:I64 x) (hb:mv k=none) :
  Calls Tryz.prog 303 #[.pointer (some ⟨K,k*2,none⟩),.int .i64 x] w fun e w'=>e=.returned (.tuple #[])∧∃ av' mv',KeysAt w' K av' mv' (updN S k (S k++[x]))∧KeptO (keysOwn K av mv) (keysOwn K av' mv') w w':=by
 obtain⟨i0,hi0,hz0,hz1,hz2⟩:=info_parts info3
 have hS:S k=[]:=(h.nil k hk).1 hb
 have c0:=h.c0 hk
 have c1:=h.c1 hk
 have f1:=h.free (k*2+1)
 have he:=eqlNil
 rw [hb] at c1
 obtain⟨ad,cap,e⟩:=row_form (h.row k hk)
 rw [hS] at e
 simp only [List.length_nil] at e
 rw [e] at c0
 have HE:=hid e
 have HS:=hid hS
 have HH:=hid h
 have hK:=h.lt
 have hbn:(w.setCell ⟨K,k*2+1,none⟩ (.map (some w.heap.size))).heap.size=w.heap.size:=by simp
 have hI:=IMap.made (w.setCell ⟨K,k*2+1,none⟩ (.map (some w.heap.size)))
 rw [hbn] at hI
 have hlk:=hI.look Tryz.underlying131 (zeroI _) hx
 simp only [Option.getD_none,Option.isSome_none] at hlk
 obtain⟨w1,hrun,hI1,hg1⟩:=hI.store Tryz.underlying131 (by unfold maxLen;omega) hx (.int .i64 0)
 have hkp:∀ c,c<w.heap.size→c≠K→w1.heap[c]?=w.heap[c]?:=fun c hc hne =>
  (hg1.block c (by simp;omega) (fun e=>by cases e;omega)).trans ((Below.heap_alloc _ _ c (by simpa using hc)).trans (heap_setCell_other w ⟨K,k*2+1,none⟩ c _ hne))
 have hmb:w1.heap[K]?=some (.cells (keyCells av (updN mv k (some w.heap.size))) 339 (0,0)):=by
  refine (hg1.block K (by simp;omega) (fun e=>by cases e;omega)).trans ((Below.heap_alloc _ _ K (by simpa using hK)).trans ((heap_setCell_same w K (k*2+1) _ 339 _ h.blk).trans ?_))
  rw [keyCells_setM]
 have hfn:firstV (S k++[x])=updT (fun _=>none) x (some (.int .i64 0)):=by
  rw [firstV_new (by rw [hS];rfl),hS,firstV_nil];rfl
 have hg1s:=hg1.size
 have hm:AddMid w w1 K av mv S k w.heap.size x:=⟨hmb,fun c hc hcK _=>hkp c hc hcK,by simp at hg1s;omega,⟨hg1.os,hg1.tape,hg1.output⟩,by rw [hfn];exact hI1.mono (by simp),.inr (Nat.le_refl _)⟩
 have c01:=hm.c0 hk
 rw [e] at c01
 have HM:=hid hm
 have hro:=hm.row h hk
 rw [e,hS] at hro
 have HRow:=hid hro
 have hmm:=@run_makeMap Tryz.prog
 clear h hI hm e hro hI1 hg1 hkp hmb hfn hS
 go_enter Tryz.func303,Tryz.ntmps303
 go_wp2_with (at_builtin;refine wpList_append_lies _ rfl _ _ _ rfl 0 3 i0 _ 1 8 Tryz.underlying54 hi0 hz0 hz1 hz2 rfl (by omega) (.slice ad 0 cap) 0 (intsV []) rfl (HRow.out.alloc _) ⟨w1.heap.size,0,none⟩ 1 1 [.int .i64 x] rfl rfl (World.news_of_block (cs:=#[.int .i64 x]) (t:=3) (fr:=(0,0)) (heap_alloc_new w1 _)) (by simp [Value.oneCell']) (by omega) (by unfold maxLen;omega) (by omega) (by simp) (w1.heap.size+1) (by simp) ?_;intro g4 cap4 w4 ho4 hgrow4 hat4 hlt4;have hap:=HM.out.app HH.out hk (by rw [HE.out]) hgrow4;have ca:=hap.2.1;have fa:=hap.2.2;rw [HE.out] at ca;clear hap)
 refine bodyPost_end (results_none rfl _ _ _) rfl ?_
 have hms:=HM.out.size
 have hd:=HM.out.done HH.out hk (by rw [HE.out]) hgrow4 (a:=.slice (some ⟨g4,0,none⟩) (0+1) cap4) (by rw [HS.out];exact ho4) (fun g' e=>(by
  cases e
  rcases hat4 with e | e
  ·exact .inl (by rw [HE.out];exact e)
  ·exact .inr (by show w.heap.size≤g4;omega)))
 exact⟨rfl,_,_,hd⟩
theorem add_any (K k:Nat) (av:Nat→Value) (mv:Nat→Option Nat) (S:Nat→List Int) (x:Int) (w:World) (h:KeysAt w K av mv S) (hk:k<10) (hn:(S k).length≤100000000) (hx:I64 x) :
  Calls Tryz.prog 303 #[.pointer (some ⟨K,k*2,none⟩),.int .i64 x] w fun e w'=>e=.returned (.tuple #[])∧∃ av' mv',KeysAt w' K av' mv' (updN S k (wAdd (S k) x))∧KeptO (keysOwn K av mv) (keysOwn K av' mv') w w':=by
 unfold wAdd
 by_cases hl:(S k).getLast?=some x
 ·rw [if_pos hl]
  refine (add_same K k av mv S x w h hk hn hl).mono ?_
  rintro e w' ⟨rfl,rfl⟩
  exact⟨rfl,av,mv,by rw [updN_id rfl];exact h,KeptO.refl _ _⟩
 ·rw [if_neg hl]
  cases hb:mv k with
  | none=>exact add_new K k av mv S x w h hk hx hb
  | some b=>exact add_old K k b av mv S x w h hk hn hx hl hb
end Go.Proofs.YtjefgmeejhakbabGreatDoor
