/- DkLine DkBui: put together for a claim. -/
import Derived.Test.YtjefgmeejhakbabGreatDoorDkAns
import Derived.Lib.Builder
import Derived.Lib.AppendStr
namespace Go.Proofs.YtjefgmeejhakbabGreatDoor
open Go.RowKit
theorem spans_len (p:Nat→Bool) (s:ByteArray):∀ (f pos:Nat) (st:Option Nat) (acc:List (Nat × Nat)),(Lib.spansFromP p s f pos st acc).1.length≤acc.length+f
 | 0,_,_,_=>by simp [Lib.spansFromP]
 | f+1,pos,st,acc=>by
  unfold Lib.spansFromP
  split
  ·split
   ·cases st with
    | some a =>
     have:=spans_len p s f (pos+(Utf8.decode s pos).2) none (acc++[(a,pos)])
     simp only [List.length_append,List.length_singleton] at this
     simp only
     omega
    | none =>
     have:=spans_len p s f (pos+(Utf8.decode s pos).2) none acc
     simp only
     omega
   ·cases st with
    | some a =>
     have:=spans_len p s f (pos+(Utf8.decode s pos).2) (some a) acc
     simp only
     omega
    | none =>
     have:=spans_len p s f (pos+(Utf8.decode s pos).2) (some pos) acc
     simp only
     omega
  ·simp
theorem words_bnd {line:List UInt8} {n:Nat} (hl:line.length≤n):(wordsP line).length≤n+1∧∀ x∈wordsP line,x.length≤n:=by
 have hsz:(⟨line.toArray⟩:ByteArray).size=line.length:=by simp [ByteArray.size]
 refine⟨?_,fun x hx=>?_⟩
 ·unfold wordsP Lib.goFieldsP Lib.spansOfP Lib.closeSpans
  have:=spans_len blankB ⟨line.toArray⟩ (⟨line.toArray⟩:ByteArray).size 0 none []
  rw [List.length_map,List.length_map]
  simp only [List.length_nil] at this
  split<;>simp<;>omega
 ·unfold wordsP Lib.goFieldsP at hx
  obtain⟨y,hy,rfl⟩:=List.mem_map.1 hx
  obtain⟨z,_,rfl⟩:=List.mem_map.1 hy
  have:(((⟨line.toArray⟩:ByteArray).extract z.1 z.2).data.toList).length≤line.length:=by
   rw [show (((⟨line.toArray⟩:ByteArray).extract z.1 z.2).data.toList).length=((⟨line.toArray⟩:ByteArray).extract z.1 z.2).size by simp [ByteArray.size],ByteArray.size_extract]
   omega
  omega
theorem mapM_len {xs:List (List UInt8)}:∀ {ns:List Int},xs.mapM numOf=some ns→ns.length=xs.length∧∀ x∈ns,I64 x:=by
 induction xs with
 | nil=>intro ns h;simp at h;subst h;simp
 | cons y r ih =>
  intro ns h
  rw [List.mapM_cons] at h
  cases hy:numOf y with
  | none=>rw [hy] at h;cases h
  | some v =>
   cases hr:r.mapM numOf with
   | none=>rw [hy,hr] at h;cases h
   | some vs =>
    rw [hy,hr] at h
    have h:v::vs=ns:=by simpa using h
    subst h
    obtain⟨h1,h2⟩:=ih hr
    exact⟨by simp [h1],fun x hx=>by
     rcases List.mem_cons.1 hx with rfl | hx
     ·exact numOf_i64 hy
     ·exact h2 x hx⟩
section
variable {n:Nat} {st:Ses}
theorem cmds_ent {c:Cmd} (h:c∈cmds):∀ args w,(callFunc c.fn args).run Tryz.prog w=.ok (.enter c.fn args) w:=by
 simp only [cmds,List.mem_cons,List.not_mem_nil,or_false] at h
 rcases h with rfl | rfl | rfl | rfl | rfl | rfl | rfl | rfl | rfl | rfl | rfl | rfl | rfl | rfl | rfl
 ·exact enters_of Tryz.func47 (by kernel_rfl) rfl
 ·exact enters_of Tryz.func46 (by kernel_rfl) rfl
 ·exact enters_of Tryz.func45 (by kernel_rfl) rfl
 ·exact enters_of Tryz.func44 (by kernel_rfl) rfl
 ·exact enters_of Tryz.func43 (by kernel_rfl) rfl
 ·exact enters_of Tryz.func42 (by kernel_rfl) rfl
 ·exact enters_of Tryz.func41 (by kernel_rfl) rfl
 ·exact enters_of Tryz.func40 (by kernel_rfl) rfl
 ·exact enters_of Tryz.func39 (by kernel_rfl) rfl
 ·exact enters_of Tryz.func38 (by kernel_rfl) rfl
 ·exact enters_of Tryz.func37 (by kernel_rfl) rfl
 ·exact enters_of Tryz.func36 (by kernel_rfl) rfl
 ·exact enters_of Tryz.func35 (by kernel_rfl) rfl
 ·exact enters_of Tryz.func34 (by kernel_rfl) rfl
 ·exact enters_of Tryz.func33 (by kernel_rfl) rfl
theorem acts_cmd (h:SesOk n st) (hn:n≤4000) {c:Cmd} (hc:c∈cmds) {nums:List Int} (hl:nums.length=c.many) (h64:∀ x∈nums,I64 x):Acts n c.fn nums st:=by
 have l0:nums.length=0→nums=[]:=List.eq_nil_of_length_eq_zero
 have l1:nums.length=1→∃ x,nums=[x]:=List.length_eq_one_iff.1
 have l2:nums.length=2→∃ x y,nums=[x,y]:=fun h=>by
  match nums,h with
  | [x,y],_=>exact⟨x,y,rfl⟩
 have l3:nums.length=3→∃ x y z,nums=[x,y,z]:=fun h=>by
  match nums,h with
  | [x,y,z],_=>exact⟨x,y,z,rfl⟩
 simp only [cmds,List.mem_cons,List.not_mem_nil,or_false] at hc
 rcases hc with rfl | rfl | rfl | rfl | rfl | rfl | rfl | rfl | rfl | rfl | rfl | rfl | rfl | rfl | rfl
 ·obtain⟨x,y,z,rfl⟩:=l3 hl;exact acts_write h x y z
 ·obtain⟨x,rfl⟩:=l1 hl;exact acts_waits h (h64 x (by simp))
 ·obtain rfl:=l0 hl;exact acts_sweep h
 ·obtain⟨x,rfl⟩:=l1 hl;exact acts_state h x
 ·obtain⟨x,y,rfl⟩:=l2 hl;exact acts_read h hn x (h64 y (by simp))
 ·obtain rfl:=l0 hl;exact acts_open h
 ·obtain rfl:=l0 hl;exact acts_now h
 ·obtain rfl:=l0 hl;exact acts_line h hn
 ·obtain rfl:=l0 hl;exact acts_history h hn
 ·obtain rfl:=l0 hl;exact acts_help h
 ·obtain⟨x,y,rfl⟩:=l2 hl;exact acts_cut h (h64 x (by simp))
 ·obtain⟨x,rfl⟩:=l1 hl;exact acts_commit h x
 ·obtain⟨x,rfl⟩:=l1 hl;exact acts_begin h x
 ·obtain rfl:=l0 hl;exact acts_all h
 ·obtain⟨x,rfl⟩:=l1 hl;exact acts_abort h x
theorem outText_len {o:Out} (h:o.Fits):(outText o).length≤10000000000:=by
 cases o with
 | told l=>exact h
 | err c =>
  have:=itoa_len (n:=c) h
  show (errT c).length≤10000000000
  rw [errT,List.length_append]
  simp only [List.length_cons,List.length_nil]
  omega
def Answers (line:List UInt8) (st:Ses) (t:List UInt8) (st':Ses):Prop:=∀ (k:Nat) (w:World) (S mb d b:Nat) (L:EnL) (dv:List Value),SesAt k w S mb d b L dv st →
 Calls Tryz.prog 17 #[.pointer (some ⟨S,0,none⟩),txt line] w fun e w'=>e=.returned (txt t)∧SPost k S mb d b L dv st' w w'
theorem answer_any (h:SesOk n st) (hn:n≤4000) {line:List UInt8} (hl:line.length≤100000):∃ t st',SesOk (n+1) st'∧t.length≤10000000000∧Answers line st t st':=by
 obtain⟨wl,wb⟩:=words_bnd hl
 cases hw:wordsP line with
 | nil=>exact⟨[111,107],st,h.next,by simp,fun k w S mb d b L dv hs=>ans_none hs hl hw⟩
 | cons word rest =>
  rw [hw] at wl wb
  simp only [List.length_cons] at wl
  have hwl:=wb word (by simp)
  by_cases hc:(cmdOf cmds word).all (fun c=>c.many != rest.length)=true
  ·exact⟨_,st,h.next,outText_len (o:=.err 3) (by show I64 3;unfold I64;omega),fun k w S mb d b L dv hs=>ans_form hs hl hw (by omega) (by omega) hc⟩
  ·cases hcm:cmdOf cmds word with
   | none=>rw [hcm] at hc;simp at hc
   | some c =>
    rw [hcm] at hc
    have hcn:c.many=rest.length:=by simpa using hc
    have hmem:c∈cmds:=List.mem_of_find?_eq_some hcm
    cases hm:rest.mapM numOf with
    | none=>exact⟨_,st,h.next,outText_len (o:=.err 3) (by show I64 3;unfold I64;omega),fun k w S mb d b L dv hs=>ans_main hs hl hw (by omega) (by omega) hcm hcn (cmds_ent hmem) (fun x hx=>by have:=wb x (by simp [hx]);omega) (.inl ⟨hm,rfl,rfl⟩)⟩
    | some nums =>
     obtain⟨m1,m2⟩:=mapM_len hm
     obtain⟨o,st',h1,h2,h3⟩:=acts_cmd h hn hmem (nums:=nums) (by omega) m2
     exact⟨outText o,st',h1,outText_len h2,fun k w S mb d b L dv hs=>ans_main hs hl hw (by omega) (by omega) hcm hcn (cmds_ent hmem) (fun x hx=>by have:=wb x (by simp [hx]);omega) (.inr ⟨nums,o,hm,h3,fun c e=>(by subst e;exact h2),rfl⟩)⟩
end
end Go.Proofs.YtjefgmeejhakbabGreatDoor
namespace Go.Proofs.YtjefgmeejhakbabGreatDoor
open Go.RowKit
def bOwn (b:Nat) (v:Value) (g:Nat):Prop:=g=b∨v.ownBlock=some g
structure BuiAt (w:World) (B b:Nat) (v:Value) (l:List UInt8):Prop where
 le:B≤b
 blk:∃ p,(p=.pointer none∨p=.pointer (some ⟨b,0,none⟩))∧w.heap[b]?=some (.cells #[p,v] 41 (0,0))
 own:w.ownsRow B 5 1 v l.length (Lib.byteCells l)
 ne:v.ownBlock≠some b
section
variable {w w':World} {B b:Nat} {v:Value} {l:List UInt8}
theorem BuiAt.lt (h:BuiAt w B b v l):b<w.heap.size:=by
 obtain⟨p,_,hb⟩:=h.blk
 exact (Array.getElem?_eq_some_iff.1 hb).1
theorem BuiAt.own_lt (h:BuiAt w B b v l) {g:Nat} (hg:bOwn b v g):B≤g∧g<w.heap.size:=by
 rcases hg with rfl | hg
 ·exact⟨h.le,h.lt⟩
 ·exact h.own.lt g hg
theorem BuiAt.same (h:BuiAt w B b v l) (hs:∀ g,bOwn b v g→w'.heap[g]?=w.heap[g]?):BuiAt w' B b v l:=by
 obtain⟨p,hp,hb⟩:=h.blk
 refine⟨h.le,⟨p,hp,(hs b (.inl rfl)).trans hb⟩,?_,h.ne⟩
 refine⟨h.own.1,?_⟩
 rcases h.own.2 with ho | ⟨g,cap,cur,hv,hg,hc,r⟩
 ·exact .inl ho
 ·exact .inr ⟨g,cap,cur,hv,hg,(hs g (.inr (by rw [hv];rfl))).trans hc,r⟩
theorem BuiAt.is (h:BuiAt w B b v l):Lib.IsBuilder 41 5 B b (Lib.byteCells l) w:=by
 obtain⟨p,hp,hb⟩:=h.blk
 have hA:Lib.BuilderAt 41 5 B b p (Lib.byteCells l) w:=⟨h.le,v,hb,by rw [Lib.byteCells_length];exact h.own,h.ne⟩
 rcases hp with rfl | rfl
 ·exact .inl hA
 ·exact .inr hA
end
set_option maxRecDepth 100000 in
set_option maxHeartbeats 2000000 in
theorem copyUsed (b:Nat) (w:World) (h0:w.cell? ⟨b,0,none⟩=some (.pointer (some ⟨b,0,none⟩))) :
  Calls Tryz.prog 50 #[.pointer (some ⟨b,0,none⟩)] w fun e w'=>e=.returned (.tuple #[])∧w'=w:=by
 obtain⟨j,hj,_⟩:=Option.map_eq_some_iff.1 (show (Tryz.prog.info? 41).map (·.size)=some 2 by kernel_rfl)
 go_enter Tryz.func50,Tryz.ntmps50
 go_wp2
 rw [Lib.run_neq_ptr_same w _ Tryz.underlying38 hj]
 go_wp2
 go_end0
 exact⟨rfl,rfl⟩
set_option maxRecDepth 100000 in
set_option maxHeartbeats 2000000 in
theorem copyFresh (b:Nat) (w:World) (h0:w.cell? ⟨b,0,none⟩=some (.pointer none)) (hsh:w.shape? b=some (41,2)) (hfz:w.frozen? ⟨b,0,none⟩=false) :
  Calls Tryz.prog 50 #[.pointer (some ⟨b,0,none⟩)] w fun e w'=>e=.returned (.tuple #[])∧w'=w.setCell ⟨b,0,none⟩ (.pointer (some ⟨b,0,none⟩)):=by
 obtain⟨j,hj,hjs⟩:=Option.map_eq_some_iff.1 (show (Tryz.prog.info? 41).map (·.size)=some 2 by kernel_rfl)
 go_enter Tryz.func50,Tryz.ntmps50
 go_wp2
 rw [Lib.run_to_unsafe w ⟨b,0,none⟩ Tryz.underlying38 Tryz.underlying143 hj (by rw [hjs];decide) hsh (Nat.zero_lt_succ 1)]
 simp only [Result.andThen]
 rw [Oper.upon_value]
 go_wp2
 rw [run_callFunc_extern Tryz.func129 (by kernel_rfl) (by kernel_rfl) (by kernel_rfl) (e:=Extern.AbiNoEscape.same) (by kernel_rfl)]
 rw [Lib.run_noEscape]
 simp only [Result.andThen]
 rw [Oper.upon_value]
 go_wp2
 rw [Lib.run_from_unsafe w ⟨b,0,none⟩ Tryz.underlying143 Tryz.underlying38 hj hsh (by kernel_rfl)]
 simp only [Result.andThen]
 rw [Oper.upon_value]
 go_wp2
 go_end0
 exact⟨rfl,rfl⟩
section
variable {w w':World} {B b:Nat} {v:Value} {l:List UInt8}
theorem copy_any (h:BuiAt w B b v l):Calls Tryz.prog 50 #[.pointer (some ⟨b,0,none⟩)] w fun e w'=>e=.returned (.tuple #[])∧w'.heap[b]?=some (.cells #[.pointer (some ⟨b,0,none⟩),v] 41 (0,0))∧KeptO (bOwn b v) (bOwn b v) w w'∧w'.heap.size=w.heap.size∧∀ g,g≠b→w'.heap[g]?=w.heap[g]?:=by
 obtain⟨p,hp,hb⟩:=h.blk
 have hlt:=h.lt
 rcases hp with rfl | rfl
 ·refine (copyFresh b w (by rw [Lib.cell_of_heap hb];rfl) (by simp [World.shape?,hb]) (Lib.frozen_of_heap hb 0)).mono ?_
  rintro e w' ⟨rfl,rfl⟩
  have hz:(w.setCell ⟨b,0,none⟩ (.pointer (some ⟨b,0,none⟩))).heap.size=w.heap.size:=by simp
  refine⟨rfl,?_,⟨rfl,rfl,rfl,by omega,fun g hg hn=>Below.heap_setCell w _ _ g (fun e=>hn (.inl e)),fun g hg=>.inl hg⟩,hz,fun g hg=>Below.heap_setCell w _ _ g hg⟩
  rw [heap_setCell_same w b 0 _ _ _ hb]
  rfl
 ·refine (copyUsed b w (by rw [Lib.cell_of_heap hb];rfl)).mono ?_
  rintro e w' ⟨rfl,rfl⟩
  exact⟨rfl,hb,KeptO.refl _ _,rfl,fun _ _=>rfl⟩
end
theorem run_app_str (w:World) (base:Nat) (ty:TypeId) (v:Value) (n:Nat) (xs:List Value) (hown:w.ownsRow base 5 1 v n xs) (s:ByteArray) (hn:n+s.size≤140737488355328) (hbase:base≤w.heap.size) :
  ∃ v' w',(Builtin.append_ #[39,9] ty #[v,.string s]).run Tryz.prog w=.ok v' w'∧w'.ownsRow base 5 1 v' (n+s.size) (xs++Lib.strCells s)∧w.grownBy w' v.ownBlock∧∀ g,v'.ownBlock=some g→v.ownBlock=some g∨w.heap.size≤g:=by
 obtain⟨i0,hi,hz0,hz1,hz2⟩:=info_parts (show (Tryz.prog.info? 5).map (fun i=>(i.zero,i.size,i.bytes))=some (some (.int .u8 0),1,1) by kernel_rfl)
 have hm:n+s.size≤maxLen:=by unfold maxLen;omega
 obtain⟨v',w',hr,ho,hg,_⟩:=Lib.run_append_own_string (P:=Tryz.prog) w base 39 9 ty 5 i0 Tryz.underlying39 Tryz.underlying9 hi hz0 hz1 hz2 v n xs hown s hm hn hbase
 refine⟨v',w',hr,ho,hg,?_⟩
 have hxl:xs.length=n:=by simpa using hown.1
 rcases hown.2 with ⟨rfl,rfl⟩ | ⟨g,cap,cur,rfl,hbg,hgc,hnc,hcm,hcs,htake⟩
 ·have hx:xs=[]:=List.eq_nil_of_length_eq_zero hxl
  subst hx
  obtain⟨v2,w2,hr2,ho2,_,_⟩:=Lib.run_append_own_string (P:=Tryz.prog) w w.heap.size 39 9 ty 5 i0 Tryz.underlying39 Tryz.underlying9 hi hz0 hz1 hz2 _ 0 [] (World.ownsRow_nil w _ _ _) s hm hn (Nat.le_refl _)
  rw [hr] at hr2
  injection hr2 with e1 e2
  subst e1 e2
  exact fun g hg=>.inr (ho2.lt g hg).1
 ·by_cases hroom:n+s.size≤cap
  ·have hr2:=Lib.run_append_room_string (P:=Tryz.prog) w 39 9 ty 5 i0 Tryz.underlying39 Tryz.underlying9 hi hz1 g n cap cur hgc s hroom (by omega)
   rw [hr] at hr2
   injection hr2 with e1 e2
   subst e1
   exact fun g' hg'=>.inl hg'
  ·have holds:∀ j u,xs[j]?=some u→w.cell? ((⟨g,0,none⟩:Addr).add j)=some u:=hown.cells (g:=g) rfl
   have hr2:=Lib.run_append_grow_string (P:=Tryz.prog) w 39 9 ty 5 i0 (.int .u8 0) Tryz.underlying39 Tryz.underlying9 hi hz0 ⟨g,0,none⟩ n cap xs (by rw [hz1];simpa using hxl) holds s (by omega) (by omega) (by rw [hz2];exact growslice_fits (by omega) (by omega))
   rw [hr] at hr2
   injection hr2 with e1 e2
   subst e1
   intro g' hg'
   injection hg' with e
   subst e
   exact .inr (Nat.le_refl _)
theorem wpList_app_str {w:World} {ops:Array Oper} {rest:List Oper} {o:Oper} {a:Act} {Q:Exit→Act→World→Prop} (hgd:o.guard=none) (sl x:Operand)
  (ho:o.op=.call { callee:=.builtin .append,args:=#[sl,x],argTypes:=#[39,9] }) (base:Nat)
  (v:Value) (n:Nat) (xs:List Value) (hs:a.eval sl=v) (hown:w.ownsRow base 5 1 v n xs) (s:ByteArray) (hx:a.eval x=.string s) (hn:n+s.size≤140737488355328) (hbase:base≤w.heap.size)
  (h:∀ v' w',w'.ownsRow base 5 1 v' (n+s.size) (xs++Lib.strCells s)→w.grownBy w' v.ownBlock→(∀ g,v'.ownBlock=some g→v.ownBlock=some g∨w.heap.size≤g)→wpList Tryz.prog ops Q rest (a.put o.dst v') w'):wpList Tryz.prog ops Q (o::rest) a w:=by
 refine wpList_plain hgd fun K hK=>?_
 obtain⟨v',w',hr,h2,h3,h4⟩:=run_app_str w base o.type v n xs hown s hn hbase
 unfold Oper.wp execOp
 simp only [ho,resolve,invoke,builtin,Sem.run_bind,Sem.run_pure,Result.andThen_ok,List.map_toArray,List.map_cons,List.map_nil,hs,hx,hr]
 exact hK _ _ (h v' w' h2 h3 h4)
section
variable {w w':World} {B b:Nat} {v:Value} {l:List UInt8}
set_option maxRecDepth 100000 in
set_option maxHeartbeats 2000000 in
theorem writeString_any (h:BuiAt w B b v l) (s:List UInt8) (hlen:l.length+s.length≤140737488355328) (hBw:B≤w.heap.size):Calls Tryz.prog 16 #[.pointer (some ⟨b,0,none⟩),txt s] w fun e w'=>e=.returned (.tuple #[.int .i64 s.length,.nilIface])∧∃ v',BuiAt w' B b v' (l++s)∧KeptO (bOwn b v) (bOwn b v') w w':=by
 obtain⟨i0,hi,hz0,hz1,hz2⟩:=info_parts (show (Tryz.prog.info? 5).map (fun i=>(i.zero,i.size,i.bytes))=some (some (.int .u8 0),1,1) by kernel_rfl)
 have CC:=hid (copy_any h)
 have hB:=h.le
 have hne:=h.ne
 have hH:=hid h
 have hblt:=h.lt
 clear h
 go_enter Tryz.func16,Tryz.ntmps16
 go_wp2_with (go_at_call 50;refine CC.out.mono ?_)
 rintro e w1 ⟨rfl,hbk,hK1,hz,hoth⟩
 have hlt:b<w1.heap.size:=by omega
 have hown:w1.ownsRow B 5 1 v l.length (Lib.byteCells l):=by
  refine⟨hH.out.own.1,?_⟩
  rcases hH.out.own.2 with ho | ⟨g,cap,cur,hv,hg,hc,r⟩
  ·exact .inl ho
  ·exact .inr ⟨g,cap,cur,hv,hg,(hoth g (fun e=>hne (by rw [hv,e];rfl))).trans hc,r⟩
 have c0:w1.cell? ⟨b,0,none⟩=some (.pointer (some ⟨b,0,none⟩)):=by rw [Lib.cell_of_heap hbk];rfl
 have c1:w1.cell? ⟨b,1,none⟩=some v:=by rw [Lib.cell_of_heap hbk];rfl
 have hss:(⟨s.toArray⟩:ByteArray).size=s.length:=by simp [ByteArray.size]
 go_wp2_with (at_builtin;refine wpList_app_str (by rfl) _ _ (by rfl) B v l.length (Lib.byteCells l) (by rfl) hown ⟨s.toArray⟩ (by rfl) ?c4 ?c5 ?_)
 case c4=>rw [hss];omega
 case c5=>omega
 intro v' w2 hown' hgrow hnew
 have hb2:w2.heap[b]?=some (.cells #[.pointer (some ⟨b,0,none⟩),v] 41 (0,0)):=by
  rw [hgrow.block b hlt (fun e=>hne e.symm)]
  exact hbk
 have d0:w2.cell? ⟨b,0,none⟩=some (.pointer (some ⟨b,0,none⟩)):=by rw [Lib.cell_of_heap hb2];rfl
 have d1:w2.cell? ⟨b,1,none⟩=some v:=by rw [Lib.cell_of_heap hb2];rfl
 have f1:w2.frozen? ⟨b,1,none⟩=false:=Lib.frozen_of_heap hb2 1
 obtain⟨ao,n',cap,rfl⟩:∃ ao n' cap,v'=.slice ao n' cap:=by
  rcases hown'.2 with ⟨hv,_⟩ | ⟨g,cap,cur,hv,_⟩
  ·exact⟨_,_,_,hv⟩
  ·exact⟨_,_,_,hv⟩
 have hvb:(Value.slice ao n' cap).ownBlock≠some b:=fun e=>by
  rcases hnew b e with h1 | h1
  ·exact hne h1
  ·omega
 go_wp2
 go_ret2
 refine⟨rfl,.slice ao n' cap,⟨hB,⟨_,.inr rfl,?_⟩,?_,?_⟩,?_⟩
 ·rw [heap_setCell_same w2 b 1 _ _ _ hb2]
  rfl
 ·have h1:w2.ownsRow B 5 1 (.slice ao n' cap) (l++s).length (Lib.byteCells (l++s)):=by
   rw [List.length_append,show Lib.byteCells (l++s)=Lib.byteCells l++Lib.strCells ⟨s.toArray⟩ from by simp [Lib.byteCells,Lib.strCells]]
   exact hown'
  exact owns_same h1 (fun g hg=>Below.heap_setCell w2 _ _ g (fun e=>hvb (by rw [hg];exact congrArg some e)))
 ·exact hvb
 ·refine hK1.trans ⟨hgrow.os,hgrow.tape,hgrow.output,by simpa using hgrow.size,fun g hg hn=>?_,fun g hg=>?_⟩
  ·rw [Below.heap_setCell w2 _ _ g (fun e=>hn (.inl e))]
   exact hgrow.block g hg (fun e=>hn (.inr e.symm))
  ·rcases hg with hg | hg
   ·exact .inl (.inl hg)
   ·exact (hnew g hg).imp .inr (fun h1=>by omega)
end
end Go.Proofs.YtjefgmeejhakbabGreatDoor
