/- DkWords KtTells KtOk EnMany OrLineW: put together for a claim. -/
import Derived.Test.YtjefgmeejhakbabGreatDoorMgAL
import Derived.Test.YtjefgmeejhakbabGreatDoorMgAK
import Derived.Lib.ConvBytes
import Derived.Test.YtjefgmeejhakbabGreatDoorMgAW
import Derived.Test.YtjefgmeejhakbabGreatDoorMgAU
import Derived.Test.YtjefgmeejhakbabGreatDoorMgAH
import Derived.Test.YtjefgmeejhakbabGreatDoorMgAY
import Derived.Test.YtjefgmeejhakbabGreatDoorOrBin
import Derived.Test.YtjefgmeejhakbabGreatDoorMgAZ
namespace Go.Proofs.YtjefgmeejhakbabGreatDoor
open Go.RowKit Go.Lib
def blankB (r:Nat):Bool:=r==32
theorem blank_any (r:Nat) (w:World):Calls Tryz.prog 131 #[.int .i32 r] w fun e w'=>e=.returned (.bool (blankB r))∧w'=w:=by
 go_enter Tryz.func131,Tryz.ntmps131
 go_wp2
 go_ret
 refine⟨congrArg (fun b=>Ending.returned (.bool b)) ?_,rfl⟩
 unfold blankB
 by_cases h:r=32
 ·subst h;rfl
 ·rw [beq_false_of_ne h,beq_false_of_ne (by omega)]
def wordsP (s:List UInt8):List (List UInt8):=(Lib.goFieldsP blankB ⟨s.toArray⟩).map (fun x=>x.data.toList)
theorem words_any (s:List UInt8) (hs:s.length≤4294967296) (w:World):Calls Tryz.prog 52 #[txt s] w fun e w'=>∃ A,e=.returned (.slice (some ⟨A,0,none⟩) (wordsP s).length (wordsP s).length)∧w.heap.size≤A∧w'.ownsRow w.heap.size 9 1 (.slice (some ⟨A,0,none⟩) (wordsP s).length (wordsP s).length) (wordsP s).length ((wordsP s).map txt)∧Below w.heap.size w w':=by
 have hp:PredAt Tryz.prog 131 #[] encR blankB w:=fun W x _=>(blank_any x W).mono (fun e w' h=>⟨h.1,0,h.2⟩)
 have HF:=hid (Tryz.strings_FieldsFunc 131 #[] (enters_of Tryz.func131 (by kernel_rfl) rfl) blankB ⟨s.toArray⟩ w (by simpa [ByteArray.size] using hs) hp)
 have e1:(Lib.goFieldsP blankB ⟨s.toArray⟩).length=(wordsP s).length:=by simp [wordsP]
 have e2:(Lib.goFieldsP blankB ⟨s.toArray⟩).map Value.string=(wordsP s).map txt:=by simp [wordsP]
 rw [e1,e2] at HF
 clear hp e1 e2
 go_enter Tryz.func52,Tryz.ntmps52
 go_wp2_with (go_at_call 130;refine HF.out.mono ?_;rintro e w1 ⟨A,rfl,hA,hrow,hB⟩)
 go_ret
 exact⟨A,rfl,hA,hrow,hB⟩
theorem atoi_ok {s:List UInt8} {v:Int} (h:Lib.atoiAll s=.ok v) (hs:s.length≤1000000) (w:World):Calls Tryz.prog 132 #[txt s] w fun e w'=>e=.returned (.tuple #[.int .i64 v,.nilIface])∧Below w.heap.size w w':=by
 refine (Tryz.strconv_Atoi_ok ⟨s.toArray⟩ (by simp [ByteArray.size];omega) v (by simpa using h) w).mono ?_
 rintro e w' ⟨rfl,rfl | ⟨t,rfl⟩⟩
 ·exact⟨rfl,Below.refl _ _⟩
 ·exact⟨rfl,Lib.bytesWorld_below _ _ _⟩
theorem atoi_bad {w:World} (hg:LibAt w) {s:List UInt8} (h:∀ v,Lib.atoiAll s≠.ok v) (hs:s.length≤1000000):Calls Tryz.prog 132 #[txt s] w fun e w'=>∃ x N,e=.returned (.tuple #[.int .i64 x,.iface 293 (.pointer (some ⟨N,0,none⟩))])∧Below w.heap.size w w':=by
 cases hx:Lib.atoiAll s with
 | ok v=>exact (h v hx).elim
 | «syntax» =>
  obtain⟨tp,p,hv⟩:=hg.syn
  refine (Tryz.strconv_Atoi_syntax_var ⟨s.toArray⟩ (by simp [ByteArray.size];omega) (by simpa using hx) tp p w hv).mono ?_
  rintro e w' ⟨N,rfl,_,_,hB⟩
  exact⟨_,N,rfl,hB⟩
 | range =>
  obtain⟨tp,p,hv⟩:=hg.rng
  refine (Tryz.strconv_Atoi_range_var ⟨s.toArray⟩ (by simp [ByteArray.size];omega) (by simpa using hx) tp p w hv).mono ?_
  rintro e w' ⟨N,rfl,_,_,hB⟩
  exact⟨_,N,rfl,hB⟩
def numOf (s:List UInt8):Option Int:=match Lib.atoiAll s with
 | .ok v=>if Lib.itoa v=s then some v else none
 | _=>none
theorem numOf_some {s:List UInt8} {v:Int} (h:numOf s=some v):Lib.atoiAll s=.ok v∧Lib.itoa v=s:=by
 unfold numOf at h
 split at h
 ·rename_i v' hv'
  split at h
  ·rename_i he
   cases h
   exact⟨hv',he⟩
  ·cases h
 ·cases h
theorem numOf_none {s:List UInt8} (h:numOf s=none):(∀ v,Lib.atoiAll s≠.ok v)∨∃ v,Lib.atoiAll s=.ok v∧Lib.itoa v≠s:=by
 unfold numOf at h
 split at h
 ·rename_i v' hv'
  split at h
  ·cases h
  ·rename_i he
   exact .inr ⟨v',hv',he⟩
 ·rename_i hx
  exact .inl (fun v hv=>hx v hv)
theorem numOf_i64 {s:List UInt8} {v:Int} (h:numOf s=some v):I64 v:=by
 have:=Lib.atoiAll_bounds (numOf_some h).1
 unfold I64
 omega
def WordsAt (w:World) (v:Value) (l:List (List UInt8)):Prop:=∃ (ad:Option Addr) (g o cap:Nat),v=.slice ad l.length cap∧(0<l.length→ad=some ⟨g,o,none⟩)∧∀ (j:Nat) x,l[j]?=some x→w.cell? ⟨g,o+j,none⟩=some (txt x)
inductive NumsPost (xs:List (List UInt8)) (w:World) (e:Ending) (w':World):Prop where
 | all (ns:List Int) (v:Value) (h:xs.mapM numOf=some ns) (he:e=.returned v) (hr:w'.ownsRow w.heap.size 3 1 v ns.length (ns.map (Value.int .i64))) (hB:Below w.heap.size w w')
 | bad (h:xs.mapM numOf=none) (he:e=thrown 3) (hB:Below w.heap.size w w')
theorem mapM_none {xs:List (List UInt8)} {j:Nat} {x:List UInt8} (h:xs[j]?=some x) (hx:numOf x=none):xs.mapM numOf=none:=by
 induction xs generalizing j with
 | nil=>simp at h
 | cons y r ih =>
  rw [List.mapM_cons]
  cases j with
  | zero =>
   simp at h
   subst h
   rw [hx]
   rfl
  | succ j =>
   rw [ih (by simpa using h)]
   cases numOf y<;>rfl
theorem mapM_take {xs:List (List UInt8)} {j:Nat} {x:List UInt8} {v:Int} {ns:List Int} (h:xs[j]?=some x) (hx:numOf x=some v) (hn:(xs.take j).mapM numOf=some ns):(xs.take (j+1)).mapM numOf=some (ns++[v]):=by
 rw [take_snoc h,List.mapM_append,hn]
 simp [hx]
theorem wpList_app_int {w:World} {ops:Array Oper} {rest:List Oper} {o:Oper} {a:Act} {Q:Exit→Act→World→Prop} (hgd:o.guard=none) (s x:Operand)
  (ho:o.op=.call { callee:=.builtin .append,args:=#[s,x],argTypes:=#[54,54] }) (base:Nat) (v:Value) (n:Nat) (xs:List Value) (hs:a.eval s=v) (hown:w.ownsRow base 3 1 v n xs)
  (k:Nat) (u:Value) (hx:a.eval x=.slice (some ⟨k,0,none⟩) 1 1) (hk:w.heap[k]?=some (.cells #[u] 3 (0,0))) (h1:u.oneCell'=true) (hn:n+1≤4000000000000) (hbase:base≤w.heap.size)
  (h:∀ ad cap w',w'.ownsRow base 3 1 (.slice ad (n+1) cap) (n+1) (xs++[u])→Below base w w'→wpList Tryz.prog ops Q rest (a.put o.dst (.slice ad (n+1) cap)) w'):wpList Tryz.prog ops Q (o::rest) a w:=by
 obtain⟨i0,hi0,hz0,hz1,hz2⟩:=info_parts infoInt
 refine wpList_append_lies w hgd s x _ ho base 3 i0 _ 1 8 Tryz.underlying54 hi0 hz0 hz1 hz2 rfl (by omega) v n xs hs hown ⟨k,0,none⟩ 1 1 [u] hx rfl (World.news_of_block (cs:=#[u]) (t:=3) (fr:=(0,0)) hk) (by simpa using h1) (by omega) (by unfold maxLen;omega) (by omega) (by omega) w.heap.size rfl ?_
 intro g' cap' w2 ho2 hgrow _ _
 refine h _ cap' w2 ho2 ((Below.refl _ w).mono hbase |>.grown hgrow hbase (fun j e=>(hown.lt j e).1))
set_option maxRecDepth 100000 in
set_option maxHeartbeats 2000000 in
theorem numbers_any {w:World} (hg:LibAt w) {v:Value} {l:List (List UInt8)} (hv:WordsAt w v l) (hl:∀ x∈l,x.length≤1000000) (hn:l.length≤1000000) :
  Calls Tryz.prog 54 #[v] w fun e w'=>NumsPost l w e w':=by
 obtain⟨ad,g,o,cap,rfl,had,hcells⟩:=hv
 have hcut:=hid hcells
 have HA:=hid had
 have HG:=hid hg
 have HL:=hid hl
 have hne:∀ (N:Nat) (W:World),(binOp .neq 27 (.iface 293 (.pointer (some ⟨N,0,none⟩))) .nilIface).run Tryz.prog W=.ok (.bool true) W:=fun _ _=>by kernel_rfl
 clear hcells hg hl had
 go_enter Tryz.func54,Tryz.ntmps54
 go_wp2
 go_loopw [3,10] (fun tv i wr=>∃ (j:Nat) (ns:List Int),j≤l.length∧i=.int .i64 j∧(l.take j).mapM numOf=some ns∧ns.length=j∧wr.ownsRow w.heap.size 3 1 tv ns.length (ns.map (Value.int .i64))∧Below w.heap.size w wr) (fun _ i _=>l.length-(intOf i).toNat)
 case atStart=>exact⟨0,[],by omega,rfl,by simp,rfl,by simpa using World.ownsRow_nil w w.heap.size 3 1,Below.refl _ _⟩
 case round =>
  obtain⟨j,ns,hj,rfl,hns,hnl,hown,hB⟩:=hrel
  have hBs:=hB.size
  by_cases hlt:j<l.length
  ·obtain⟨x,hx⟩:∃ x,l[j]?=some x:=⟨_,List.getElem?_eq_getElem hlt⟩
   have hc:=hcut.out j x hx
   have hgl:g<w.heap.size:=World.block_lt_of_cell? _ _ hc
   have hc2:=(hB.cell (p:=⟨g,o+j,none⟩) hgl).trans hc
   have hxx:=HL.out x (List.mem_of_getElem? hx)
   have HGr:=hid (HG.out.below hB HG.out.room)
   have HO:=hid hown
   have HX:=hid hx
   have HN:=hid hns
   have HNL:=hid hnl
   have hae:=HA.out (by omega)
   subst hae
   clear hc hx hown HG hcut HL HA hns hnl
   cases hv:numOf x with
   | some y =>
    obtain⟨h1,h2⟩:=numOf_some hv
    have HA1:=hid (atoi_ok h1 hxx wr)
    have HI:=hid (fun (W:World) (hW:Below wr.heap.size wr W)=>itoa_any (HGr.out.below hW HGr.out.room) (numOf_i64 hv))
    have HV:=hid hv
    rw [h2] at HI
    clear h1 h2 hv
    go_wp2_with (first | (go_at_call 132;refine HA1.out.mono ?_;rintro e w1 ⟨rfl,hB1⟩) | (go_at_call 31;refine (HI.out _ hB1).mono ?_;rintro e w2 ⟨rfl,hB2⟩) | (at_builtin;refine wpList_app_int (by rfl) _ _ (by rfl) w.heap.size u3 _ _ (by rfl) ((owns_below (owns_below HO.out hB1) hB2).alloc _) w2.heap.size _ (by rfl) (heap_alloc_new _ _) (by rfl) (by have:=HNL.out;omega) (by have:=hB1.size;have:=hB2.size;simp;omega) ?_;intro ad2 cap2 w3 ho3 hB3))
    go_roundw
    case rel =>
     have hs1:=hB1.size
     have hs2:=hB2.size
     refine⟨j+1,ns++[y],by omega,by go_num,mapM_take HX.out HV.out HN.out,by simp [HNL.out],?_,hB.trans ((hB1.mono hBs).trans ((hB2.mono (by omega)).trans (((Below.refl _ w2).alloc (Nat.le_refl _) _ |>.mono (by omega)).trans hB3)))⟩
     rw [List.length_append,List.map_append]
     exact ho3
    case measure=>simp [intOf];omega
   | none =>
    have HP:=hid (mapM_none HX.out hv)
    rcases numOf_none hv with h1 | ⟨v',h1,h2⟩
    ·have HA1:=hid (atoi_bad HGr.out h1 hxx)
     clear h1 hv
     go_wp2_with (first | (go_at_call 132;refine HA1.out.mono ?_;rintro e w1 ⟨y,N,rfl,hB1⟩))
     go_wp2_with fail
     refine (throw_errno 3 _).mono ?_
     rintro e w2 ⟨rfl,hw2⟩
     rw [hw2]
     clear hw2 w2
     show bodyPost Tryz.prog Tryz.f54 (fun e w2=>NumsPost l w e w2) (Exit.panic _) _ _
     exact⟨rfl,.bad HP.out rfl (hB.trans (hB1.mono hBs))⟩
    ·have HA1:=hid (atoi_ok h1 hxx wr)
     have hi64:I64 v':=by have:=Lib.atoiAll_bounds h1;unfold I64;omega
     have HI:=hid (fun (W:World) (hW:Below wr.heap.size wr W)=>itoa_any (HGr.out.below hW HGr.out.room) hi64)
     have hns:(Lib.itoa v'==x)=false:=beq_false_of_ne h2
     clear h1 h2 hv hi64
     go_wp2_with (first | (go_at_call 132;refine HA1.out.mono ?_;rintro e w1 ⟨rfl,hB1⟩) | (go_at_call 31;refine (HI.out _ hB1).mono ?_;rintro e w2 ⟨rfl,hB2⟩))
     refine (throw_errno 3 _).mono ?_
     rintro e w3 ⟨rfl,hw3⟩
     rw [hw3]
     clear hw3 w3
     show bodyPost Tryz.prog Tryz.f54 (fun e w2=>NumsPost l w e w2) (Exit.panic _) _ _
     exact⟨rfl,.bad HP.out rfl (hB.trans ((hB1.mono hBs).trans (hB2.mono (Nat.le_trans hBs hB1.size))))⟩
  ·have hjj:j=l.length:=by omega
   subst hjj
   rw [List.take_length] at hns
   have HO:=hid hown
   have HN:=hid hns
   clear hown hns hnl
   go_wp2
   go_ret
   exact .all ns _ HN.out rfl HO.out hB
end Go.Proofs.YtjefgmeejhakbabGreatDoor
namespace Go.Proofs.YtjefgmeejhakbabGreatDoor
abbrev Mid0 (E:Eng):Prop:=Mid 0 (fun _=>none) E.ce noQ
section
variable {E E':Eng}
end
end Go.Proofs.YtjefgmeejhakbabGreatDoor
namespace Go.Proofs.YtjefgmeejhakbabGreatDoor
theorem inst_txs (E:Eng) (i:Nat):(installE E i).txs=E.txs:=by
 unfold installE
 split
 ·split<;>rfl
 ·rfl
section
variable {E E':Eng} {i:Nat} {u:Tx} {n:Nat}
end
end Go.Proofs.YtjefgmeejhakbabGreatDoor
namespace Go.Proofs.YtjefgmeejhakbabGreatDoor
open Go.RowKit
variable {w w':World} {L:EnL} {E:Eng}
set_option maxRecDepth 100000 in
set_option maxHeartbeats 1000000 in
theorem manyE_any (h:EnAt w L E) (hks:∀ l∈E.ks,l.length≤1000000) :
  Calls Tryz.prog 114 #[.pointer (some ⟨L.s,0,none⟩)] w fun e w'=>e=.returned (.int .i64 (manyP E.ks:Nat))∧w'=w:=by
 have HL:=hid (many_any _ _ _ _ _ w h.sto hks)
 clear h
 go_enter Tryz.func114,Tryz.ntmps114
 go_wp2_with fail
 refine HL.out.mono ?_
 rintro e w1 ⟨rfl,rfl⟩
 go_wp2
 go_ret
 exact⟨rfl,rfl⟩
set_option maxRecDepth 100000 in
set_option maxHeartbeats 2000000 in
theorem begin_arg {level:Int} {s:Nat} (h0:level≠0) (h1:level≠1) (h2:level≠2) :
  Calls Tryz.prog 101 #[.pointer (some ⟨s,0,none⟩),.int .i64 level] w fun e w'=>e=.returned (.tuple #[.int .i64 0,errV 1])∧w'=w:=by
 have n0:(level != 0)=true:=by simpa using h0
 have n1:(level != 1)=true:=by simpa using h1
 have n2:(level != 2)=true:=by simpa using h2
 rw [show errV 1=Value.iface 33 (.int .i64 1) from rfl]
 clear h0 h1 h2
 go_enter Tryz.func101,Tryz.ntmps101
 go_wp2
 go_ret2
 exact⟨rfl,rfl⟩
end Go.Proofs.YtjefgmeejhakbabGreatDoor
namespace Go.Proofs.YtjefgmeejhakbabGreatDoor
open Go.RowKit
theorem cnt_all {E:List (Int × Int)} {left:List Int} (h:∀ a b,(a,b)∈E→a∈left) (y:Int):cntP E left y=E.countP (fun e=>e.2==y):=by
 unfold cntP
 refine List.countP_congr (fun e he=>?_)
 have:=h e.1 e.2 he
 simp [this]
theorem KS.start {l:List Opp} {E:List (Int × Int)} (hE:IsEdges l E) {q:List Int} (hq:q.Nodup) (hm:∀ y,y∈q↔y∈txsP l∧E.countP (fun e=>e.2==y)=0) :
  KS E (txsP l) (fun y=>if y∈txsP l then some ((E.countP (fun e=>e.2==y):Nat):Int) else none) q:=by
 have hc:=cnt_all (E:=E) (left:=txsP l) (fun a b hab=>(edges_tx hE hab).1)
 exact⟨fun y=>by rw [hc],fun y=>by rw [hm y,← cnt_free,hc],hq,nodup_txs l,fun a b hab _=>(edges_tx hE hab).2⟩
theorem aMap_txs (l:List Opp) (E:List (Int × Int)):aMap (l.map (fun o=>o.1)) E=fun y=>(if y∈txsP l then some ((E.countP (fun e=>e.2==y):Nat):Int) else none).map (Value.int .i64):=by
 funext y
 unfold aMap
 have:y∈txsP l↔y∈l.map (fun o=>o.1):=by unfold txsP;exact mem_once _
 by_cases h:y∈l.map (fun o=>o.1)
 ·rw [if_pos h,if_pos (this.2 h)];rfl
 ·rw [if_neg h,if_neg (fun h2=>h (this.1 h2))];rfl
theorem nodup_le_of_subset {q s:List Int} (hq:q.Nodup) (h:∀ y∈q,y∈s):q.length≤s.length:=by
 induction q generalizing s with
 | nil=>simp
 | cons a r ih =>
  obtain⟨h1,h2⟩:=List.nodup_cons.1 hq
  have ha:=h a (by simp)
  have:=ih (s:=s.erase a) h2 (fun y hy=>by
   have hya:y≠a:=fun e=>h1 (e▸hy)
   exact (List.mem_erase_of_ne hya).2 (h y (List.mem_cons_of_mem _ hy)))
  rw [List.length_erase_of_mem ha] at this
  have hp:=List.length_pos_of_mem ha
  simp only [List.length_cons]
  omega
theorem imap_len {w:World} {b n:Nat} {f:Int→Option Value} (h:IMap w b n f) (ty:TypeId):∃ k:Nat,(Builtin.len_ #[131] ty #[.map (some b)]).run Tryz.prog w=.ok (.int .i64 k) w∧(k=0↔∀ y,I64 y→f y=none):=by
 obtain⟨D,hD,hf⟩:=h
 refine⟨Maps.size D,hD.len Tryz.underlying131 ty,?_⟩
 obtain⟨w',_,r1,_,_⟩:=hD.range lawI Tryz.underlying131
 rcases r1.next lawI ty with ⟨h0,hl,_⟩ | ⟨key,v,kl,y,w2,cnt2,hkey,hlk,_,_,_,_,hlt,_⟩
 ·constructor
  ·intro _ y _
   have h1:=(hf y).1
   rw [hl] at h1
   cases hh:f y with
   | none=>rfl
   | some u=>rw [hh] at h1;cases h1
  ·intro _;exact h0
 ·obtain⟨x,_,rfl,hwf⟩:=Maps.keyOf_int_inv Tryz.underlying3 hkey
  have h1:=(hf x).1
  rw [hlk] at h1
  constructor
  ·intro h2;omega
  ·intro h2
   have hx:I64 x:=by
    simp [Lit.wf,IntKind.min,IntKind.max,IntKind.signed,IntKind.bits] at hwf
    unfold I64
    omega
   rw [h2 x hx] at h1
   cases h1
structure LSt (w wr:World) (tv:Value) (E:List (Int × Int)) (b nb:Nat) (f:Int→Option Value) (Q:Nat) (qv:Value) (d:Array Int) (ov:Value) (out:List Int):Prop where
 t:wr.ownsRow w.heap.size 122 2 tv E.length (vrow E)
 m:IMap wr b nb f
 q:QAt wr Q qv d
 o:wr.ownsRow w.heap.size 3 1 ov out.length (intsV out)
 hd:∀ g,qv.ownBlock=some g→ov.ownBlock≠some g
 bel:Below w.heap.size w wr
 bb:w.heap.size≤b
 bq:∀ g,qOwn Q qv g→w.heap.size≤g
theorem row_block {w:World} {N:Nat} {e:TypeId} {size:Nat} {v:Value} {n:Nat} {xs:List Value} (h:w.ownsRow N e size v n xs) {g:Nat} (hg:v.ownBlock=some g):∃ cur,w.heap[g]?=some (.cells cur e (0,0)):=by
 rcases h.2 with ⟨e1,_⟩ | ⟨g',cap,cur,e1,_,hc,_⟩
 ·rw [e1] at hg;cases hg
 ·rw [e1] at hg;cases hg;exact⟨cur,hc⟩
section
variable {w wr w':World} {tv:Value} {E:List (Int × Int)} {b nb:Nat} {f:Int→Option Value} {Q:Nat} {qv:Value} {d:Array Int} {ov:Value} {out:List Int}
theorem LSt.tq (h:LSt w wr tv E b nb f Q qv d ov out) {g:Nat} (hg:tv.ownBlock=some g):¬ qOwn Q qv g:=fun hq=>by
 obtain⟨c1,h1⟩:=row_block h.t hg
 rcases hq with rfl | e
 ·rw [h.q.blk] at h1;simp at h1
 ·obtain⟨c2,h2⟩:=row_block h.q.row e
  rw [h1] at h2;simp at h2
theorem LSt.to (h:LSt w wr tv E b nb f Q qv d ov out) {g:Nat} (hg:tv.ownBlock=some g):ov.ownBlock≠some g:=fun e=>by
 obtain⟨c1,h1⟩:=row_block h.t hg
 obtain⟨c2,h2⟩:=row_block h.o e
 rw [h1] at h2;simp at h2
theorem LSt.oq (h:LSt w wr tv E b nb f Q qv d ov out) {g:Nat} (hg:ov.ownBlock=some g):¬ qOwn Q qv g:=fun hq=>by
 obtain⟨c1,h1⟩:=row_block h.o hg
 rcases hq with rfl | e
 ·rw [h.q.blk] at h1;simp at h1
 ·exact h.hd g e hg
theorem LSt.bn (h:LSt w wr tv E b nb f Q qv d ov out):¬ qOwn Q qv b∧tv.ownBlock≠some b∧ov.ownBlock≠some b:=by
 refine⟨fun hq=>?_,fun e=>?_,fun e=>?_⟩
 ·rcases hq with e | e
  ·exact h.m.ne h.q.blk e
  ·obtain⟨c,hc⟩:=row_block h.q.row e
   exact h.m.ne hc rfl
 ·obtain⟨c,hc⟩:=row_block h.t e
  exact h.m.ne hc rfl
 ·obtain⟨c,hc⟩:=row_block h.o e
  exact h.m.ne hc rfl
theorem LSt.below (h:LSt w wr tv E b nb f Q qv d ov out) (hB:Below wr.heap.size wr w'):LSt w w' tv E b nb f Q qv d ov out :=
 ⟨owns_same h.t (fun g e=>hB.block g (h.t.lt g e).2),h.m.same (hB.block b h.m.lt),h.q.below hB,owns_same h.o (fun g e=>hB.block g (h.o.lt g e).2),h.hd,h.bel.trans (hB.mono h.bel.size),h.bb,h.bq⟩
theorem LSt.queue (h:LSt w wr tv E b nb f Q qv d ov out) {qv':Value} {d':Array Int} (hk:KeptO (qOwn Q qv) (qOwn Q qv') wr w') (hq:QAt w' Q qv' d'):LSt w w' tv E b nb f Q qv' d' ov out :=
 ⟨owns_same h.t (fun g e=>hk.block g (h.t.lt g e).2 (h.tq e)),h.m.same (hk.block b h.m.lt h.bn.1),hq,owns_same h.o (fun g e=>hk.block g (h.o.lt g e).2 (h.oq e)),
  fun g e e2=>(hk.sub g (.inr e)).elim (h.oq e2) (fun h3=>by have:=(h.o.lt g e2).2;omega),
  h.bel.trans (hk.below h.bel.size h.bq),h.bb,fun g hg=>(hk.sub g hg).elim (h.bq g) (fun h3=>Nat.le_trans h.bel.size h3)⟩
theorem LSt.map (h:LSt w wr tv E b nb f Q qv d ov out) {nb':Nat} {f':Int→Option Value} (hg:wr.grownBy w' (some b)) (hm:IMap w' b nb' f'):LSt w w' tv E b nb' f' Q qv d ov out:=by
 have hk:∀ g,g<wr.heap.size→g≠b→w'.heap[g]?=wr.heap[g]?:=fun g hl hne=>hg.block g hl (fun e=>hne (by cases e;rfl))
 exact⟨owns_same h.t (fun g e=>hk g (h.t.lt g e).2 (fun e2=>h.bn.2.1 (e2▸e))),hm,h.q.same (fun g e=>hk g (h.q.own_lt e) (fun e2=>h.bn.1 (e2▸e))),owns_same h.o (fun g e=>hk g (h.o.lt g e).2 (fun e2=>h.bn.2.2 (e2▸e))),h.hd,h.bel.grown hg h.bel.size (fun k e=>by cases e;exact h.bb),h.bb,h.bq⟩
theorem LSt.outs (h:LSt w wr tv E b nb f Q qv d ov out) {ov':Value} {out':List Int} (hg:wr.grownBy w' ov.ownBlock) (ho:w'.ownsRow w.heap.size 3 1 ov' out'.length (intsV out')) (hs:∀ g,ov'.ownBlock=some g→ov.ownBlock=some g∨wr.heap.size≤g):LSt w w' tv E b nb f Q qv d ov' out' :=
 ⟨owns_same h.t (fun g e=>hg.block g (h.t.lt g e).2 (fun e2=>h.to e e2.symm)),h.m.same (hg.block b h.m.lt (fun e=>h.bn.2.2 e.symm)),h.q.same (fun g e=>hg.block g (h.q.own_lt e) (fun e2=>h.oq e2.symm e)),ho,
  fun g e e2=>(hs g e2).elim (h.hd g e) (fun h3=>by have:=(h.q.row.lt g e).2;omega),
  h.bel.grown hg h.bel.size (fun k e=>(h.o.lt k e).1),h.bb,h.bq⟩
end
theorem upd_del (M:Int→Option Int) (x:Int):updT (fun y=>(M y).map (Value.int .i64)) x none=fun y=>((fun y=>if y=x then none else M y) y).map (Value.int .i64):=by
 funext y
 by_cases e:y=x
 ·subst e;rw [updT_same];simp
 ·rw [updT_other _ _ e];simp [e]
theorem upd_put (M:Int→Option Int) (x m:Int):updT (fun y=>(M y).map (Value.int .i64)) x (some (.int .i64 m))=fun y=>((fun y=>if y=x then some m else M y) y).map (Value.int .i64):=by
 funext y
 by_cases e:y=x
 ·subst e;rw [updT_same];simp
 ·rw [updT_other _ _ e];simp [e]
end Go.Proofs.YtjefgmeejhakbabGreatDoor
