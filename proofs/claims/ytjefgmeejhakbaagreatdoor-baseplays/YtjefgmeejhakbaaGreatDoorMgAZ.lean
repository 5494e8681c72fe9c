/- FeWrites FeBetween: put together for a claim. -/
import Derived.Test.YtjefgmeejhakbaaGreatDoorMgAV
/- The document's engine: Writes. -/
namespace Go.Proofs.YtjefgmeejhakbaaGreatDoor
open Go.RowKit
section
variable {w w':World} {ls:List Nat} {l:RTxL} {t:RTx} {L:REnL} {E:REng}
def rwritesP (ws:List (Int × Int)):List (Int × Int):=allK (fun k=>(lastOf ws (k:Int)).map (fun v=>((0:Int),v))) 10
theorem rwritesE_miss (h:REnAt w L E) {n:Int} (hn:n<1∨(E.txs.length:Int)<n) :
  Calls Tryz.prog 91 #[.pointer (some ⟨L.R,0,none⟩),.int .i64 n] w fun e w'=>e=.returned (.tuple #[.slice none 0 0,.int .i64 7])∧w'=w:=by
 have HF:=hid (rof_miss h false hn)
 clear h
 go_enter Tryz.func91,Tryz.ntmps91
 go_wp2_with fail
 refine HF.out.mono ?_
 rintro e w1 ⟨rfl,rfl⟩
 go_wp2
 go_ret2
 exact⟨rfl,rfl⟩
set_option maxRecDepth 100000 in
set_option maxHeartbeats 2000000 in
theorem rwritesE_ok (h:REnAt w L E) {i:Nat} (ht:E.txs[i]?=some t) (hle:E.txs.length≤1000) (hn:t.own.length≤1000000000) :
  Calls Tryz.prog 91 #[.pointer (some ⟨L.R,0,none⟩),.int .i64 ((i:Int)+1)] w fun e w'=>∃ tv,e=.returned (.tuple #[tv,.int .i64 0]) ∧
   w'.ownsRow w.heap.size 78 2 tv (rwritesP t.own).length (vrow (rwritesP t.own))∧Below w.heap.size w w':=by
 obtain⟨i0,hi0,hz0,hz1,hz2⟩:=info_parts info78
 have HF:=hid (rof_ok h false ht (fun e=>by cases e) hle)
 have HG:=hid (fun (l:RTxL) (hl:L.txs[i]?=some l)=>h.txs i l t hl ht)
 unfold rwritesP
 obtain⟨ff,hff⟩:∃ ff:Nat→Option (Int × Int),(fun (k:Nat)=>(lastOf t.own (k:Int)).map (fun v=>((0:Int),v)))=ff:=⟨_,rfl⟩
 have HFF:=hid (show ∀ k:Nat,ff k=(lastOf t.own (k:Int)).map (fun v=>((0:Int),v)) from fun k=>by rw [← hff])
 rw [hff]
 clear h ht hff
 go_enter Tryz.func91,Tryz.ntmps91
 go_wp2_with fail
 refine HF.out.mono ?_
 rintro e w1 ⟨l,hl,rfl,hw1⟩
 rw [hw1]
 have HT:=hid (HG.out l hl)
 simp only [ptrV]
 clear hw1 w1 hl HF HG
 go_wp2
 go_loopw [8,21] (fun tv iv wr=>∃ j:Nat,j≤10∧iv=.int .i64 j∧wr.ownsRow w.heap.size 78 2 tv (allK ff j).length (vrow (allK ff j))∧Below w.heap.size w wr) (fun _ iv _=>10-(intOf iv).toNat)
 case atStart=>exact⟨0,by omega,rfl,by simpa [allK,vrow] using World.ownsRow_nil w w.heap.size 78 2,Below.refl _ _⟩
 case round =>
  obtain⟨j,hj,rfl,hown,hB⟩:=hrel
  have hBs:=hB.size
  have hal:=allK_length ff j
  by_cases hlt:j<10
  ·have hj1:(j:Int)<10:=by omega
   have HO:=hid hown
   have HC:=hid (rown_any (HT.out.below hB) (j:Int) hn)
   clear hown
   cases hb:lastOf t.own (j:Int) with
   | none =>
    have hst:=hid (allK_none ff j (by rw [HFF.out,hb];rfl))
    rw [hb] at HC
    simp only [Option.getD_none,Option.isSome_none] at HC
    clear hb
    go_wp2_with fail
    refine HC.out.mono ?_
    rintro e w1 ⟨rfl,hw1⟩
    rw [hw1]
    clear hw1 w1 HC
    go_wp2
    go_roundw
    case rel=>exact⟨j+1,by omega,by go_num,by rw [hst.out];exact HO.out,hB⟩
    case measure=>simp [intOf];omega
   | some p =>
    have hst:=hid (allK_some ff j (0,p) (by rw [HFF.out,hb];rfl))
    rw [hb] at HC
    simp only [Option.getD_some,Option.isSome_some] at HC
    clear hb
    go_wp2_with fail
    refine HC.out.mono ?_
    rintro e w1 ⟨rfl,hw1⟩
    rw [hw1]
    clear hw1 w1 HC
    go_wp2_with (at_builtin;refine wpList_append_lies _ rfl _ _ _ rfl w.heap.size 78 i0 _ 2 16 Tryz.underlying23 hi0 hz0 hz1 hz2 rfl (by omega) u8 _ _ rfl (HO.out.alloc _) ⟨wr.heap.size,0,none⟩ 1 1 [.int .i64 (j:Int),.int .i64 p] rfl rfl (World.news_of_block (cs:=#[.int .i64 (j:Int),.int .i64 p]) (t:=78) (fr:=(0,0)) (heap_alloc_new wr _)) (by simp [Value.oneCell']) (by omega) (by unfold maxLen;omega) (by omega) (by simp;omega) (wr.heap.size+1) (by simp) ?_;intro g' cap' w2 ho hgrow hat hlt2)
    go_roundw
    case rel =>
     refine⟨j+1,by omega,by go_num,?_,?_⟩
     ·rw [hst.out,List.length_append,vrow_append];exact ho
     ·exact hB.trans (((((Below.refl _ wr).alloc (Nat.le_refl _) _)).mono hBs).grown hgrow (by simp;omega) (fun k e=>(HO.out.lt k e).1))
    case measure=>simp [intOf];omega
  ·obtain rfl:j=10:=by omega
   have HO:=hid hown
   have hj1:¬ ((10:Nat):Int)<10:=by omega
   clear hown
   go_wp2
   go_ret2
   exact⟨_,rfl,HO.out,hB⟩
end
end Go.Proofs.YtjefgmeejhakbaaGreatDoor
/- The document's engine: between. -/
namespace Go.Proofs.YtjefgmeejhakbaaGreatDoor
open Go.RowKit
def anyR (E:REng) (is:List Nat):Bool:=is.any (fun x=>((E.txs[x]?.map (·.state)).getD 3) != 3)
theorem anyR_take {E:REng} {is:List Nat} {j x:Nat} {u:RTx} (h:is[j]?=some x) (hu:E.txs[x]?=some u):anyR E (is.take (j+1))=(anyR E (is.take j)||(u.state != 3)):=by
 unfold anyR
 rw [List.take_add_one,h,Option.toList_some,List.any_append]
 simp [hu]
section
variable {w w':World} {l:RTxL} {t:RTx} {L:REnL} {E:REng}
set_option maxRecDepth 100000 in
set_option maxHeartbeats 2000000 in
theorem rbetween_any (h:REnAt w L E) {i:Nat} (hl:L.txs[i]?=some l) (ht:E.txs[i]?=some t) (hb:∀ x∈t.behind,x<E.txs.length) (ha:∀ x∈t.ahead,x<E.txs.length) (hnb:t.behind.length≤2000000000) (hna:t.ahead.length≤2000000000) :
  Calls Tryz.prog 145 #[.pointer (some ⟨l.b,0,none⟩)] w fun e w'=>e=.returned (.bool (anyR E t.behind&&anyR E t.ahead))∧w'=w:=by
 have hT:=h.txs i l t hl ht
 have c10:w.cell? ⟨l.b,10,none⟩=some l.bh:=(hT.cell 10).trans rfl
 have c11:w.cell? ⟨l.b,11,none⟩=some l.ah:=(hT.cell 11).trans rfl
 obtain⟨ad,cap,e1⟩:=row_form hT.bh
 obtain⟨ad2,cap2,e2⟩:=row_form hT.ah
 have HH:=hid h
 have HB:=hid (And.intro hb hT.bh)
 have HA:=hid (And.intro ha hT.ah)
 rw [e1] at c10 HB
 rw [e2] at c11 HA
 have HU:=hid (show ∀ (x:Nat),x<E.txs.length→∃ u,E.txs[x]?=some u∧w.cell? ⟨(L.bs[x]?.getD 0),1,none⟩=some (.int .i64 u.state) from fun x hx=>by
  obtain⟨l2,h2,h3⟩:=h.get (List.getElem?_eq_getElem hx)
  exact⟨_,List.getElem?_eq_getElem hx,by rw [rbs_get h2];exact (h3.cell 1).trans rfl⟩)
 obtain⟨bs,hbs⟩:∃ bs,t.behind=bs:=⟨_,rfl⟩
 obtain⟨av,has⟩:∃ av,t.ahead=av:=⟨_,rfl⟩
 rw [hbs] at HB hnb c10
 rw [has] at HA hna c11
 rw [hbs,has]
 clear h hT hb ha e1 e2 hbs has ht hl
 go_enter Tryz.func145,Tryz.ntmps145
 go_wp2
 go_loop [3,13] (fun nv iv=>∃ (j:Nat) (p:Bool),iv=.int .i64 j∧j≤bs.length∧nv=.int .i64 (if p then 1 else 0)∧Hid (anyR E (bs.take j)=p)) (fun _ iv=>bs.length-(intOf iv).toNat)
 case atStart=>exact⟨0,false,rfl,Nat.zero_le _,rfl,rfl⟩
 case round =>
  obtain⟨j,p,rfl,hj,rfl,HP⟩:=hrel
  by_cases hlt:j<bs.length
  ·obtain⟨x,hx⟩:∃ x,bs[j]?=some x:=⟨_,List.getElem?_eq_getElem hlt⟩
   obtain⟨u,hu,cu⟩:=HU.out x (HB.out.1 x (List.mem_of_getElem? hx))
   rcases row_slice HB.out.2 with ⟨_,e0⟩ | ⟨g,c,e,hg,hc⟩
   ·omega
   ·injection e with e1 e2 e3
    subst e1 e3
    have d0:=hc j _ (show (ptrsV L.bs bs)[j]?=some (ptrV (L.bs[x]?.getD 0)) by unfold ptrsV;rw [List.getElem?_map,hx];rfl)
    obtain⟨yb,hyb⟩:∃ yb,L.bs[x]?.getD 0=yb:=⟨_,rfl⟩
    rw [hyb] at cu d0
    simp only [ptrV] at d0
    have HST:=hid (anyR_take hx hu)
    have g0:(0:Int)≤(j:Int):=by omega
    have g1:(j:Int)<(bs.length:Int):=by omega
    clear hc hx hu hyb
    by_cases hs:u.state=3
    ·have q:(u.state != 3)=false:=by simp [hs]
     rw [hs] at cu
     have HN:=hid (show anyR E (bs.take (j+1))=p by rw [HST.out,HP.out,q,Bool.or_false])
     clear HST HP hs q
     go_wp2
     go_round
     case rel=>exact⟨j+1,p,by go_num,by omega,rfl,HN⟩
     case measure=>simp [intOf];omega
    ·have q:(u.state != 3)=true:=by simpa using hs
     have HN:=hid (show anyR E (bs.take (j+1))=true by rw [HST.out,q,Bool.or_true])
     clear HST HP hs
     cases p<;>simp only [if_true,if_false,Bool.false_eq_true]
     all_goals
      go_wp2
      go_round
      case rel=>exact⟨j+1,true,by go_num,by omega,by go_num,HN⟩
      case measure=>simp [intOf];omega
  ·obtain rfl:j=bs.length:=by omega
   have g1:¬ (bs.length:Int)<(bs.length:Int):=by omega
   rw [List.take_length] at HP
   obtain⟨nn,hnn⟩:∃ nn:Int,(if p=true then 1 else 0)=nn:=⟨_,rfl⟩
   rw [hnn]
   have HNN:=hid hnn
   clear HB c10 hnn
   go_wp2
   go_loop [3,30] (fun nv iv=>∃ (j:Nat) (q:Bool),iv=.int .i64 j∧j≤av.length∧nv=.int .i64 (if q then nn+2 else nn)∧Hid (anyR E (av.take j)=q)) (fun _ iv=>av.length-(intOf iv).toNat)
   case atStart=>exact⟨0,false,rfl,Nat.zero_le _,rfl,rfl⟩
   case round =>
    obtain⟨j,q,rfl,hj,rfl,HQ⟩:=hrel
    by_cases hlt:j<av.length
    ·obtain⟨x,hx⟩:∃ x,av[j]?=some x:=⟨_,List.getElem?_eq_getElem hlt⟩
     obtain⟨u,hu,cu⟩:=HU.out x (HA.out.1 x (List.mem_of_getElem? hx))
     rcases row_slice HA.out.2 with ⟨_,e0⟩ | ⟨g,c,e,hg,hc⟩
     ·omega
     ·injection e with e1 e2 e3
      subst e1 e3
      have d0:=hc j _ (show (ptrsV L.bs av)[j]?=some (ptrV (L.bs[x]?.getD 0)) by unfold ptrsV;rw [List.getElem?_map,hx];rfl)
      obtain⟨yb,hyb⟩:∃ yb,L.bs[x]?.getD 0=yb:=⟨_,rfl⟩
      rw [hyb] at cu d0
      simp only [ptrV] at d0
      have HST:=hid (anyR_take hx hu)
      have g0:(0:Int)≤(j:Int):=by omega
      have g2:(j:Int)<(av.length:Int):=by omega
      clear hc hx hu hyb
      by_cases hs:u.state=3
      ·have r:(u.state != 3)=false:=by simp [hs]
       rw [hs] at cu
       have HN:=hid (show anyR E (av.take (j+1))=q by rw [HST.out,HQ.out,r,Bool.or_false])
       clear HST HQ hs r
       cases q<;>simp only [if_true,if_false,Bool.false_eq_true]
       all_goals
        go_wp2
        go_round
        case rel=>exact⟨j+1,_,by go_num,by omega,rfl,HN⟩
        case measure=>simp [intOf];omega
      ·have r:(u.state != 3)=true:=by simpa using hs
       have HN:=hid (show anyR E (av.take (j+1))=true by rw [HST.out,r,Bool.or_true])
       clear HST HQ hs
       have hnn:=HNN.out
       subst hnn
       clear HNN
       cases p<;>cases q<;>simp only [if_true,if_false,Bool.false_eq_true]
       all_goals
        go_wp2
        go_round
        case rel=>exact⟨j+1,true,by go_num,by omega,by go_num,HN⟩
        case measure=>simp [intOf];omega
    ·obtain rfl:j=av.length:=by omega
     have g2:¬ (av.length:Int)<(av.length:Int):=by omega
     rw [List.take_length] at HQ
     have hnn:=HNN.out
     subst hnn
     clear HNN
     cases p<;>cases q<;>simp only [if_true,if_false,Bool.false_eq_true]
     all_goals
      go_wp2
      go_ret
      exact⟨by rw [HP.out,HQ.out];rfl,rfl⟩
end
end Go.Proofs.YtjefgmeejhakbaaGreatDoor
