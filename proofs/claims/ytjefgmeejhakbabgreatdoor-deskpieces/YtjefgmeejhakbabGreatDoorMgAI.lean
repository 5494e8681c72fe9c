/- EsInstErr EsAll: put together for a claim. -/
import Derived.Test.YtjefgmeejhakbabGreatDoorEsNewer
namespace Go.Proofs.YtjefgmeejhakbabGreatDoor
open Go.RowKit
variable {P:Tail}
set_option maxRecDepth 100000 in
set_option maxHeartbeats 2000000 in
theorem install_order (base s:Nat) (last t:Int) (lv:Value) (vs:List Value) (ks:List (List (Int × Int))) (w:World) (h:Sto P w base s last vs ks) (ho:t≤last∨1099511627776<t) :
  Calls Tryz.prog 258 #[.pointer (some ⟨s,0,none⟩),.int .i64 t,lv] w fun e w'=>e=.returned (.iface 33 (.int .i64 10))∧w'=w:=by
 have hc0:=h.cellLast
 by_cases h1:t≤last
 ·go_enter Tryz.func258,Tryz.ntmps258
  go_wp2
  go_ret
  exact⟨rfl,rfl⟩
 ·have h2:1099511627776<t:=by omega
  go_enter Tryz.func258,Tryz.ntmps258
  go_wp2
  go_ret
  exact⟨rfl,rfl⟩
end Go.Proofs.YtjefgmeejhakbabGreatDoor
namespace Go.Proofs.YtjefgmeejhakbabGreatDoor
open Go.RowKit
variable {P:Tail}
theorem lat_bounds (l:List (Int × Int)) (t:Int):lat l t<l.length∧-1≤lat l t:=lat_lt l t l.length
def allK (f:Nat→Option (Int × Int)):Nat→List (Int × Int)
 | 0=>[]
 | j+1=>allK f j++(match f j with | some p=>[((j:Int),p.2)] | none=>[])
theorem allK_some (f:Nat→Option (Int × Int)) (j:Nat) (p:Int × Int) (h:f j=some p):allK f (j+1)=allK f j++[((j:Int),p.2)]:=by simp [allK,h]
theorem allK_none (f:Nat→Option (Int × Int)) (j:Nat) (h:f j=none):allK f (j+1)=allK f j:=by simp [allK,h]
theorem allK_length (f:Nat→Option (Int × Int)):∀ j,(allK f j).length≤j
 | 0=>by simp [allK]
 | j+1=>by
  have:=allK_length f j
  rw [allK]
  cases f j<;>simp<;>omega
def rdP (t:Int) (l:List (Int × Int)):Option (Int × Int):=if 0≤lat l t then l[(lat l t).toNat]? else none
theorem rdP_some (t:Int) (l:List (Int × Int)) (m:Nat) (a x:Int) (h:lat l t=m) (hx:l[m]?=some (a,x)):rdP t l=some (a,x):=by
 rw [rdP,h,if_pos (by omega)];simpa using hx
theorem rdP_none (t:Int) (l:List (Int × Int)) (h:lat l t<0):rdP t l=none:=by rw [rdP,if_neg (by omega)]
set_option maxRecDepth 100000 in
set_option maxHeartbeats 2000000 in
theorem all_any (base s:Nat) (last t:Int) (vs:List Value) (ks:List (List (Int × Int))) (w:World) (h:Sto P w base s last vs ks) (hks:∀ l∈ks,l.length≤1000000) :
  Calls Tryz.prog 172 #[.pointer (some ⟨s,0,none⟩),.int .i64 t] w fun e w'=>∃ tv,e=.returned tv ∧
   w'.ownsRow w.heap.size 122 2 tv (allK (fun k=>rdP t (ks[k]?.getD [])) 10).length (vrow (allK (fun k=>rdP t (ks[k]?.getD [])) 10))∧Below w.heap.size w w':=by
 obtain⟨i0,hi0,hz0,hz1,hz2⟩:=info_parts info122
 have hld:w.rangeAt s 1 vs:=fun j v hv=>h.cell hv
 have hin:(Tryz.prog.info? 245).map (·.size)=some vs.length:=by rw [info24,h.lv]
 go_enter Tryz.func172,Tryz.ntmps172
 go_wp2_with (refine wpList_load_mid (by rfl) 245 _ (by rfl) s 1 (by rfl) vs (.array 10 244) hld Tryz.underlying245 rfl hin ?_)
 clear hld hin
 have HS:=hid h
 clear h
 go_loopw [5,13] (fun tv i wr=>∃ j:Nat,j≤10∧i=.int .i64 j∧wr.ownsRow w.heap.size 122 2 tv (allK (fun k=>rdP t (ks[k]?.getD [])) j).length (vrow (allK (fun k=>rdP t (ks[k]?.getD [])) j))∧Below w.heap.size w wr) (fun _ i _=>10-(intOf i).toNat)
 case atStart=>exact⟨0,by omega,rfl,by simpa [allK,vrow] using World.ownsRow_nil w w.heap.size 122 2,Below.refl _ _⟩
 case round =>
  obtain⟨j,hj,rfl,hown,hB⟩:=hrel
  have hBs:=hB.size
  have hal:=allK_length (fun k=>rdP t (ks[k]?.getD [])) j
  by_cases hlt:j<10
  ·obtain⟨ad,cap,l,hv,hl,ho⟩:=HS.out.slice hlt
   have hix:=run_key hv hlt
   have hll:=hks l (List.mem_of_getElem? hl)
   have hj0:(0:Int)≤(j:Int):=by omega
   have hj1:(j:Int)<10:=by omega
   have hvers:=(vers_of_owns ho).below hB
   have hvers2:Vers wr.heap.size wr (.slice ad l.length cap) l:=hvers.mono hBs
   have hlat:=lat_bounds l t
   have hgd:Hid (ks[j]?.getD []=l):=by show _=_;rw [hl];rfl
   have HO:=hid hown
   have HV:=hid hvers2
   clear hown hl hv ho hvers hvers2
   by_cases hpos:0≤lat l t
   ·obtain⟨m,hm⟩:∃ m:Nat,lat l t=m:=⟨(lat l t).toNat,by omega⟩
    have hml:m<l.length:=by omega
    obtain⟨⟨a,x⟩,hax⟩:∃ p,l[m]?=some p:=⟨l[m],List.getElem?_eq_getElem hml⟩
    have hst:=hid (allK_some (fun k=>rdP t (ks[k]?.getD [])) j (a,x) (by rw [hgd.out];exact rdP_some t l m a x hm hax))
    obtain⟨g,rfl,hg,hrow⟩:∃ g,ad=some ⟨g,0,none⟩∧g<wr.heap.size∧Row wr g l:=by
     rcases HV.out with ⟨_,e⟩ | ⟨b,c,e,h1,h2⟩
     ·subst e;simp at hml
     ·simp at e;exact⟨b,e.1,h1,h2⟩
    obtain⟨r1,r2⟩:=hrow m a x hax
    have HM:=hid hm
    have hm0:(0:Int)≤(m:Int):=by omega
    have hm1:(m:Int)<(l.length:Int):=by omega
    clear hax hm hpos hlat hrow
    go_wp2_with fail
    refine (latest_any _ _ _ t l hll wr HV.out).mono ?_
    rintro e w1 ⟨rfl,hB1⟩
    rw [HM.out]
    have hBw:=hB.trans (hB1.mono hBs)
    have hBws:=hBw.size
    have HO1:=hid (owns_same HO.out (fun g e=>hB1.block g (HO.out.lt g e).2))
    have r1':=(hB1.cell (p:=⟨g,m*2,none⟩) hg).trans r1
    have r2':=(hB1.cell (p:=⟨g,m*2+1,none⟩) hg).trans r2
    clear HO hB1 hB r1 r2 HV
    go_wp2_with (at_builtin;refine wpList_append_lies _ rfl _ _ _ rfl w.heap.size 122 i0 _ 2 16 Tryz.underlying120 hi0 hz0 hz1 hz2 rfl (by omega) u5 _ _ rfl (HO1.out.alloc _) ⟨w1.heap.size,0,none⟩ 1 1 [.int .i64 (j:Int),.int .i64 x] rfl rfl (World.news_of_block (cs:=#[.int .i64 (j:Int),.int .i64 x]) (t:=122) (fr:=(0,0)) (heap_alloc_new w1 _)) (by simp [Value.oneCell']) (by omega) (by unfold maxLen;omega) (by omega) (by simp;omega) (w1.heap.size+1) (by simp) ?_;intro g' cap' w2 ho hgrow hat hlt2)
    go_roundw
    case rel =>
     refine⟨j+1,by omega,by go_num,?_,?_⟩
     ·rw [hst.out,List.length_append,vrow_append];exact ho
     ·exact hBw.trans ((((Below.refl _ w1).alloc (Nat.le_refl _) _).mono hBws).grown hgrow (by simp;omega) (fun k e=>(HO1.out.lt k e).1))
    case measure=>simp [intOf];omega
   ·have hst:=hid (allK_none (fun k=>rdP t (ks[k]?.getD [])) j (by rw [hgd.out];exact rdP_none t l (by omega)))
    obtain⟨q,hq⟩:∃ q,lat l t=q:=⟨_,rfl⟩
    rw [hq] at hpos
    have HQ:=hid hq
    clear hq hlat
    go_wp2_with fail
    refine (latest_any _ _ _ t l hll wr HV.out).mono ?_
    rintro e w1 ⟨rfl,hB1⟩
    rw [HQ.out]
    have hBw:=hB.trans (hB1.mono hBs)
    have HO1:=hid (owns_same HO.out (fun g e=>hB1.block g (HO.out.lt g e).2))
    clear HO hB1 hB HV
    go_wp2
    go_roundw
    case rel=>exact⟨j+1,by omega,by go_num,by rw [hst.out];exact HO1.out,hBw⟩
    case measure=>simp [intOf];omega
  ·have hj10:j=10:=by omega
   subst hj10
   have HO:=hid hown
   clear hown
   go_wp2
   go_ret
   exact⟨_,rfl,HO.out,hB⟩
end Go.Proofs.YtjefgmeejhakbabGreatDoor
