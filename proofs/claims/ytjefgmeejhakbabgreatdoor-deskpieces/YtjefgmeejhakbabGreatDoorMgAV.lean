/- EnBegin EnAdd EnBeginW BsDisk OrWritten: put together for a claim. -/
import Derived.Test.YtjefgmeejhakbabGreatDoorMgAJ
import Derived.Test.YtjefgmeejhakbabGreatDoorMgAS
import Derived.Deep.MidRow
import Derived.Laws.AppendOwnNone
import Derived.ArgAppend
import Derived.Test.YtjefgmeejhakbabGreatDoorMgAE
namespace Go.Proofs.YtjefgmeejhakbabGreatDoor
open Go.RowKit
variable {w w':World} {L:EnL} {E:Eng}
def newTx (level start:Int):Tx:=⟨level,start,0,0,0,0,0,fun _=>none,[],List.replicate 10 false,fun _=>false,fun _=>false⟩
def newL (B:Nat):TxL:=⟨B+3,B,.slice none 0 0,B+1,B+2⟩
def newCells (n level start:Int) (B:Nat):Array Value:=#[.int .i64 n,.int .i64 level,.int .i64 start,.int .i64 0,.int .i64 0,.int .i64 0,.int .i64 0,.int .i64 0,.map (some B),.slice none 0 0,.bool false,.bool false,.bool false,.bool false,.bool false,.bool false,.bool false,.bool false,.bool false,.bool false,.map (some (B+1)),.map (some (B+2))]
def newW (w:World) (n level start:Int):World:=(((w.alloc (.map #[] 0)).alloc (.map #[] 0)).alloc (.map #[] 0)).alloc (.cells (newCells n level start w.heap.size) 259)
theorem newW_at (w:World) (n level start:Int):TxAt (newW w n level start) n (newL w.heap.size) (newTx level start)∧Below w.heap.size w (newW w n level start):=by
 have s1:(w.alloc (.map #[] 0)).heap.size=w.heap.size+1:=by simp
 have s2:((w.alloc (.map #[] 0)).alloc (.map #[] 0)).heap.size=w.heap.size+2:=by simp
 have s3:(((w.alloc (.map #[] 0)).alloc (.map #[] 0)).alloc (.map #[] 0)).heap.size=w.heap.size+3:=by simp
 have m1:=IMap.made w
 have m2:=IMap.made (w.alloc (.map #[] 0))
 have m3:=IMap.made ((w.alloc (.map #[] 0)).alloc (.map #[] 0))
 rw [s1] at m2
 rw [s2] at m3
 have m1':IMap (newW w n level start) w.heap.size 0 (fun _=>none):=m1.same (((Below.heap_alloc _ _ _ (by rw [s3];omega)).trans (Below.heap_alloc _ _ _ (by rw [s2];omega))).trans (Below.heap_alloc _ _ _ (by rw [s1];omega)))
 have m2':IMap (newW w n level start) (w.heap.size+1) 0 (fun _=>none):=m2.same ((Below.heap_alloc _ _ _ (by rw [s3];omega)).trans (Below.heap_alloc _ _ _ (by rw [s2];omega)))
 have m3':IMap (newW w n level start) (w.heap.size+2) 0 (fun _=>none):=m3.same (Below.heap_alloc _ _ _ (by rw [s3];omega))
 have hb:=heap_alloc_new (((w.alloc (.map #[] 0)).alloc (.map #[] 0)).alloc (.map #[] 0)) (.cells (newCells n level start w.heap.size) 259)
 rw [s3] at hb
 refine⟨⟨hb,m1'.mono (Nat.zero_le _),?_,m2'.mono (Nat.zero_le _),m3'.mono (Nat.zero_le _),?_,?_,?_,rfl,fun _ h=>(h rfl).elim,fun _ h=>(by cases h),fun _ h=>(by cases h),?_⟩,?_⟩
 ·exact World.ownsRow_nil _ 0 138 4
 ·show w.heap.size≠w.heap.size+1;omega
 ·show w.heap.size≠w.heap.size+2;omega
 ·show w.heap.size+1≠w.heap.size+2;omega
 ·show (0:Int)≤0∧(0:Int)<10;omega
 ·exact ((((Below.refl _ w).alloc (Nat.le_refl _) _).alloc (by rw [s1];omega) _).alloc (by rw [s2];omega) _).alloc (by rw [s3];omega) _
set_option maxRecDepth 100000 in
set_option maxHeartbeats 1000000 in
theorem newTx_any (w:World) (n level start:Int) :
  Calls Tryz.prog 175 #[.int .i64 n,.int .i64 level,.int .i64 start] w fun e w'=>e=.returned (.pointer (some ⟨w.heap.size+3,0,none⟩))∧w'=newW w n level start:=by
 have hmm:=@run_makeMap Tryz.prog
 go_enter Tryz.func175,Tryz.ntmps175
 go_wp2
 go_ret
 exact⟨rfl,rfl⟩
end Go.Proofs.YtjefgmeejhakbabGreatDoor
namespace Go.Proofs.YtjefgmeejhakbabGreatDoor
open Go.RowKit
variable {w w':World} {L:EnL} {E:Eng}
theorem bs_snoc (L:EnL) (l:TxL) (v:Value):({ L with av:=v,txs:=L.txs++[l] }:EnL).bs=L.bs++[l.b]:=by simp [EnL.bs]
theorem EnAt.addTx (h:EnAt w L E) {l:TxL} {t:Tx} {w2:World} {gg cap m:Nat} (hm:L.txs.length=m) (hm2:m<200)
  (hown:w2.ownsRow 0 239 1 (.slice (some ⟨gg,0,none⟩) (m+1) cap) (m+1) (L.bs.map ptrV++[.pointer (some ⟨l.b,0,none⟩)]))
  (hT:TxAt w2 ((m:Int)+1) l t) (hnew:∀ g,l.own g→w.heap.size≤g) (hgl:¬ l.own gg)
  (hos:w2.os=w.os∧w2.tape=w.tape∧w2.output=w.output) (hsz:w.heap.size≤w2.heap.size) (hb:∀ g,g<w.heap.size→L.av.ownBlock≠some g→w2.heap[g]?=w.heap[g]?) (hat:L.av.ownBlock=some gg∨w.heap.size≤gg) :
  EnAt (w2.setCell ⟨L.s,14,none⟩ (.slice (some ⟨gg,0,none⟩) (m+1) cap)) { L with av:=.slice (some ⟨gg,0,none⟩) (m+1) cap,txs:=L.txs++[l] } { E with txs:=E.txs++[t] } ∧
   KeptO L.own ({ L with av:=.slice (some ⟨gg,0,none⟩) (m+1) cap,txs:=L.txs++[l] }:EnL).own w (w2.setCell ⟨L.s,14,none⟩ (.slice (some ⟨gg,0,none⟩) (m+1) cap)):=by
 obtain⟨ρ,T⟩:=h.tag
 have hsl:=h.sto.lt
 have hlen:=h.len
 have hcs:L.av.ownBlock≠some L.s:=fun e=>by have h1:=T.all _ e;rw [T.eng] at h1;cases h1
 have hgs:gg≠L.s:=by
  rcases hat with h1 | h1
  ·exact fun e=>hcs (e▸h1)
  ·omega
 have hblk:=setCell_at (o:=14) (v:=.slice (some ⟨gg,0,none⟩) (m+1) cap) ((hb L.s hsl hcs).trans h.sto.blk)
 rw [P_set14 L E.last h.lv] at hblk
 have ho:∀ g,g≠L.s→(w2.setCell ⟨L.s,14,none⟩ (.slice (some ⟨gg,0,none⟩) (m+1) cap)).heap[g]?=w2.heap[g]?:=fun g hg=>heap_setCell_other _ ⟨L.s,14,none⟩ g _ hg
 have hk:∀ g,L.own g→ρ g≠.eng→ρ g≠.all→(w2.setCell ⟨L.s,14,none⟩ (.slice (some ⟨gg,0,none⟩) (m+1) cap)).heap[g]?=w.heap[g]?:=fun g hg h1 h2 =>
  (ho g (fun e=>h1 (by rw [e];exact T.eng))).trans (hb g (h.own_lt hg) (fun e=>h2 (T.all g e)))
 have hls:∀ g,l.own g→g≠L.s:=fun g hg e=>by have:=hnew g hg;omega
 have hgx:∀ {g},(Value.slice (some ⟨gg,0,none⟩) (m+1) cap).ownBlock=some g→gg=g:=fun hg=>by simpa [Value.ownBlock] using hg
 have hbs:({ L with av:=.slice (some ⟨gg,0,none⟩) (m+1) cap,txs:=L.txs++[l] }:EnL).bs=L.bs++[l.b]:=bs_snoc L l _
 refine⟨⟨h.sto.reblk hblk (fun g hg=>hk g (.inr (.inl hg)) (by rw [T.srow g hg];exact nofun) (by rw [T.srow g hg];exact nofun)),
  h.loc.reblk (C':=({ L with av:=.slice (some ⟨gg,0,none⟩) (m+1) cap,txs:=L.txs++[l] }:EnL).C E.last) (hblk.trans (by rw [← EnL.cells_eq];rfl)) (fun g hg hne=>hk g (.inr (.inr (.inl hg))) (by rw [T.lock g hg hne];exact nofun) (by rw [T.lock g hg hne];exact nofun)),h.good,?_,?_,?_,?_,
  h.wr.same (hk _ (.inr (.inr (.inr (.inr (.inl rfl))))) (by rw [T.wr];exact nofun) (by rw [T.wr];exact nofun)),?_,?_,?_,fun g=>if g<w.heap.size then ρ g else if g=gg then .all else .tx m,?_⟩,?_⟩
 ·intro k x hx
  have:=h.mem k x hx
  simp only [List.length_append,List.length_singleton]
  omega
 ·rw [hbs,List.map_append,show ({ L with av:=.slice (some ⟨gg,0,none⟩) (m+1) cap,txs:=L.txs++[l] }:EnL).txs.length=m+1 from by simp [hm]]
  exact owns_same hown (fun g hg=>ho g (by rw [← hgx hg];exact hgs))
 ·simp [hlen]
 ·simp only [List.length_append,List.length_singleton];omega
 ·have hE:(E.com.map fun i=>ptrV (({ L with av:=.slice (some ⟨gg,0,none⟩) (m+1) cap,txs:=L.txs++[l] }:EnL).bs[i]?.getD 0))=E.com.map fun i=>ptrV (L.bs[i]?.getD 0):=by
   refine List.map_congr_left (fun i hi=>?_)
   have h1:=h.coml i hi
   rw [hbs,List.getElem?_append_left (by simp [EnL.bs];omega)]
  show World.ownsRow _ 0 _ 1 L.cv E.com.length (E.com.map fun i=>ptrV (({ L with av:=.slice (some ⟨gg,0,none⟩) (m+1) cap,txs:=L.txs++[l] }:EnL).bs[i]?.getD 0))
  rw [hE]
  exact owns_same h.com (fun g hg=>hk g (.inr (.inr (.inr (.inr (.inr (.inl hg)))))) (by rw [T.com g hg];exact nofun) (by rw [T.com g hg];exact nofun))
 ·intro i hi
  have:=h.coml i hi
  simp only [List.length_append,List.length_singleton];omega
 ·intro i x u hx hu
  rcases Nat.lt_or_ge i m with hi | hi
  ·simp only [] at hx hu
   rw [List.getElem?_append_left (by omega)] at hx
   rw [List.getElem?_append_left (by omega)] at hu
   exact (h.txs i x u hx hu).same (fun g hg=>hk g (TxL.own_in (L:=L) hx hg) (by rw [T.tx i x g hx hg];exact nofun) (by rw [T.tx i x g hx hg];exact nofun))
  ·simp only [] at hx hu
   rw [List.getElem?_append_right (by omega)] at hx hu
   have hi2:i=m:=by
    have:=(List.getElem?_eq_some_iff.1 hx).1
    simp at this
    omega
   subst hi2
   rw [show i-L.txs.length=0 from by omega] at hx
   rw [show i-E.txs.length=0 from by omega] at hu
   simp at hx hu
   subst hx hu
   exact hT.same (fun g hg=>ho g (hls g hg))
 ·have hlt:∀ g,L.own g→(if g<w.heap.size then ρ g else if g=gg then Tag.all else .tx m)=ρ g:=fun g hg=>if_pos (h.own_lt hg)
  refine⟨(hlt _ (.inl rfl)).trans T.eng,fun g hg=>(hlt g (.inr (.inl hg))).trans (T.srow g hg),fun g hg hn=>(hlt g (.inr (.inr (.inl hg)))).trans (T.lock g hg hn),fun g hg=>?_,(hlt _ (.inr (.inr (.inr (.inr (.inl rfl)))))).trans T.wr,
   fun g hg=>(hlt g (.inr (.inr (.inr (.inr (.inr (.inl hg))))))).trans (T.com g hg),fun j x g hx hg=>?_⟩
  ·have:=hgx hg
   subst this
   rcases hat with h1 | h1
   ·exact (hlt gg (.inr (.inr (.inr (.inl h1))))).trans (T.all gg h1)
   ·simp only [if_neg (Nat.not_lt.2 h1),if_pos]
  ·rcases Nat.lt_or_ge j m with hi | hi
   ·simp only [] at hx
    rw [List.getElem?_append_left (by omega)] at hx
    exact (hlt g (TxL.own_in (L:=L) hx hg)).trans (T.tx j x g hx hg)
   ·simp only [] at hx
    rw [List.getElem?_append_right (by omega)] at hx
    have hi2:j=m:=by
     have:=(List.getElem?_eq_some_iff.1 hx).1
     simp at this
     omega
    subst hi2
    rw [show j-L.txs.length=0 from by omega] at hx
    simp at hx
    subst hx
    have h1:=hnew g hg
    have h2:g≠gg:=fun e=>hgl (e▸hg)
    simp only [if_neg (Nat.not_lt.2 h1),if_neg h2]
 ·refine⟨hos.1,hos.2.1,hos.2.2,by simpa using hsz,fun g hg hn=>(ho g (fun e=>hn (.inl e))).trans (hb g hg (fun e=>hn (.inr (.inr (.inr (.inl e)))))),fun g hg=>?_⟩
  rcases hg with h1 | h1 | h1 | h1 | h1 | h1 | ⟨x,hx,h1⟩
  ·exact .inl (.inl h1)
  ·exact .inl (.inr (.inl h1))
  ·exact .inl (.inr (.inr (.inl h1)))
  ·have:=hgx h1
   subst this
   rcases hat with h2 | h2
   ·exact .inl (.inr (.inr (.inr (.inl h2))))
   ·exact .inr h2
  ·exact .inl (.inr (.inr (.inr (.inr (.inl h1)))))
  ·exact .inl (.inr (.inr (.inr (.inr (.inr (.inl h1))))))
  ·rcases List.mem_append.1 hx with h2 | h2
   ·exact .inl (.inr (.inr (.inr (.inr (.inr (.inr ⟨x,h2,h1⟩))))))
   ·rw [List.mem_singleton.1 h2] at h1
    exact .inr (hnew g h1)
end Go.Proofs.YtjefgmeejhakbabGreatDoor
namespace Go.Proofs.YtjefgmeejhakbabGreatDoor
open Go.RowKit
variable {w w':World} {L:EnL} {E:Eng}
theorem lvl_cases {level:Int} (h:level=0∨level=1∨level=2):level=0∨(level≠0∧level=1)∨(level≠0∧level≠1∧level=2):=by omega
set_option maxRecDepth 100000 in
set_option maxHeartbeats 4000000 in
theorem begin_ok (h:EnAt w L E) {level:Int} (hlv:level=0∨level=1∨level=2) (hl:E.txs.length<200) (ho:(liveOnes E).length<6) :
    Calls Tryz.prog 101 #[.pointer (some ⟨L.s,0,none⟩),.int .i64 level] w fun e w'=>e=.returned (.tuple #[.int .i64 ((E.txs.length:Int)+1),.nilIface]) ∧
      ∃ L' b,EnAt w' L' { E with txs:=E.txs++[newTx level E.last] }∧KeptO L.own L'.own w w'∧L'.s=L.s∧L'.bs=L.bs++[b]:=by
  obtain⟨i0,hi0,hz0,hz1,hz2⟩:=info_parts info239
  have hT:=those_lives h (fun _ t=>liveB t.state) (fun W hW i l t hl ht=>(lives_any l.b t.state W ((h.below hW).txs i l t hl ht).c3).mono (fun e w' hh=>⟨hh.1,0,hh.2⟩))
  rw [show thoseP E (fun _ t=>liveB t.state)=liveOnes E from rfl] at hT
  have HT:=hid hT
  have c14:=h.c14
  obtain⟨ad,cap,hav⟩:=row_form h.all
  obtain⟨m,hm⟩:∃ m,L.txs.length=m:=⟨_,rfl⟩
  have hlen:=h.len
  rw [hm] at hav
  rw [hav] at c14
  have hme:E.txs.length=m:=by omega
  rw [hme] at hl ⊢
  obtain⟨q,hq⟩:∃ q,(liveOnes E).length=q:=⟨_,rfl⟩
  rw [hq] at HT ho
  have g1:¬ (200:Int)≤(m:Int):=by omega
  have g2:¬ (6:Int)≤(q:Int):=by omega
  have gw:IntKind.i64.wrap ((m:Int)+1)=(m:Int)+1:=IntWalk.i64_in _ (by omega)
  have HH:=hid h
  have HM:=hid hm
  have HAV:=hid hav
  have hsl:=h.sto.lt
  have HLL:=hid (fun W (hB:Below w.heap.size w W)=>last_any _ _ _ _ _ W (h.below hB).sto)
  obtain⟨lz,hlz⟩:∃ lz,E.last=lz:=⟨_,rfl⟩
  rw [hlz] at HLL ⊢
  have HLZ:=hid hlz
  have hcs:L.av.ownBlock≠some L.s:=fun e=>by
    obtain⟨ρ,T⟩:=h.tag
    have h1:=T.all _ e
    rw [T.eng] at h1;cases h1
  have hrow:=h.all
  have hfr:=h.sto.free 14
  rw [hm] at hrow
  have HROW:=hid hrow
  have HCS:=hid hcs
  have key:∀ w1,Below w.heap.size w w1→Hid (w1.cell? ⟨L.s,14,none⟩=some (.slice ad m cap)):=fun w1 hB=>(hB.cell (p:=⟨L.s,14,none⟩) hsl).trans c14
  have KEY:=hid key
  clear h hT hav hm hlen hme hq hlz hcs hrow key
  rcases lvl_cases hlv with rfl | ⟨n0,rfl⟩ | ⟨n0,n1,rfl⟩
  all_goals
    clear hlv
    go_enter Tryz.func101,Tryz.ntmps101
    go_wp2_with fail
    refine HT.out.mono ?_
    rintro e w1 ⟨v,rfl,hv,hB1⟩
    obtain⟨ad1,cap1,rfl⟩:=row_form hv
    have d14:=(KEY.out w1 hB1).out
    have HL1:=hid (HLL.out w1.drew hB1.drew)
    have HNEW:=hid (show ∀ lev:Int,Calls Tryz.prog 175 #[.int .i64 ((m:Int)+1),.int .i64 lev,.int .i64 lz] w1.drew fun e w2=>e=.returned (.pointer (some ⟨w1.heap.size+3,0,none⟩))∧w2.cell? ⟨L.s,14,none⟩=some (.slice ad m cap)∧TxAt w2 ((m:Int)+1) (newL w1.heap.size) (newTx lev lz)∧Below w1.heap.size w1 w2 from fun lev=>by
      refine (newTx_any w1.drew ((m:Int)+1) lev lz).mono ?_
      rintro e w2 ⟨rfl,rfl⟩
      obtain⟨hA,hB⟩:=newW_at w1.drew ((m:Int)+1) lev lz
      have hB3:Below w1.heap.size w1 (newW w1.drew ((m:Int)+1) lev lz):=(below_drewN (Below.refl _ w1) 1).trans hB
      exact⟨rfl,(hB3.cell (p:=⟨L.s,14,none⟩) (by have:=hB1.size;show L.s<_;omega)).trans d14,hA,hB3⟩)
    have HB1:=hid hB1
    clear hv hB1 HT
    go_wp2
    go_region_held3 (fun W=>W.cell? ⟨L.s,14,none⟩=some (.slice ad m cap))
      (first | go_keep | exact e14)
      (first | (go_at_call 173
                refine HL1.out.mono ?_
                rintro e w2 ⟨rfl,hw2⟩
                rw [hw2]
                clear hw2 w2)
             | (go_at_call 175
                refine (HNEW.out _).mono ?_
                rintro e w2 ⟨rfl,e14,hA2,hB2⟩
                have HA2:=hid hA2
                have HB2:=hid hB2
                clear hA2 hB2))
    have hBw:Below w.heap.size w w2:=HB1.out.trans (HB2.out.mono HB1.out.size)
    have hs1:=HB1.out.size
    have hs2:=hBw.size
    have hrow2:=owns_same HROW.out (fun g hg=>hBw.block g (HROW.out.lt g hg).2)
    rw [HAV.out] at hrow2
    have HR2:=hid hrow2
    have hf2:w2.frozen? ⟨L.s,14,none⟩=false:=(World.frozen?_of_block (a:=⟨L.s,14,none⟩) (hBw.block L.s hsl)).trans hfr
    have hob:Hid (L.av.ownBlock=(Value.slice ad m cap).ownBlock):=by show _=_;rw [HAV.out]
    have havl:Hid (∀ g,(Value.slice ad m cap).ownBlock=some g→g<w.heap.size):=fun g hg=>(HROW.out.lt g (by rw [hob.out];exact hg)).2
    have HBW:=hid hBw
    have a0:w2.cell? ⟨w1.heap.size+3,0,none⟩=some (.int .i64 ((m:Int)+1)):=HA2.out.c0
    have hbl:w1.heap.size+3<w2.heap.size:=HA2.out.lt
    have hneb:¬ w1.heap.size+3=L.s:=by omega
    have hneb2:¬ L.s=w1.heap.size+3:=by omega
    clear hrow2 hBw
    go_wp2_with (at_builtin;refine wpList_append_lies _ rfl _ _ _ rfl 0 239 i0 _ 1 8 Tryz.underlying251 hi0 hz0 hz1 hz2 rfl (by omega) (.slice ad m cap) _ _ rfl (HR2.out.alloc _) ⟨w2.heap.size,0,none⟩ 1 1 [.pointer (some ⟨w1.heap.size+3,0,none⟩)] rfl rfl (World.news_of_block (cs:=#[.pointer (some ⟨w1.heap.size+3,0,none⟩)]) (t:=239) (fr:=(0,0)) (heap_alloc_new w2 _)) (by simp [Value.oneCell']) (by omega) (by unfold maxLen;omega) (by omega) (by simp) (w2.heap.size+1) (by simp) ?_;intro gg cap' w3 ho hgrow hat hlt2;have hsb:w3.heap[L.s]?=w2.heap[L.s]?:=(hgrow.block L.s (by simp;omega) (fun e=>HCS.out (hob.out.trans e.symm))).trans (Below.heap_alloc w2 _ L.s (by omega));have d2:=(World.cell?_of_block (a:=⟨L.s,14,none⟩) hsb).trans e14;have f2:=(World.frozen?_of_block (a:=⟨L.s,14,none⟩) hsb).trans hf2;have n0:=(World.cell?_of_block (a:=⟨w1.heap.size+3,0,none⟩) ((hgrow.block (w1.heap.size+3) (by simp;omega) (fun e=>by have:=havl.out _ e.symm;omega)).trans (Below.heap_alloc w2 _ (w1.heap.size+3) hbl))).trans a0;clear hsb)
    have hown:∀ g,(newL w1.heap.size).own g→w1.heap.size≤g∧g<w2.heap.size:=fun g hg=>by
      refine⟨?_,HA2.out.own_lt hg⟩
      rcases hg with h1 | h1 | h1 | h1 | h1
      · rw [h1];exact Nat.le_add_right _ _
      · rw [h1];exact Nat.le_refl _
      · rw [h1];exact Nat.le_add_right _ _
      · rw [h1];exact Nat.le_add_right _ _
      · cases h1
    have hat2:L.av.ownBlock=some gg∨w2.heap.size≤gg:=by
      rcases hat with h1 | h1
      · exact .inl (by rw [hob.out];exact h1)
      · exact .inr (by omega)
    obtain⟨h4,k4⟩:=HH.out.addTx (l:=newL w1.heap.size) (t:=newTx _ lz) (w2:=w3) (gg:=gg) (cap:=cap') HM.out (by omega) ho
      (HA2.out.same (fun g hg=>(hgrow.block g (by simp;have:=(hown g hg).2;omega) (fun e=>by have:=havl.out _ e.symm;have:=(hown g hg).1;omega)).trans (Below.heap_alloc w2 _ g (hown g hg).2)))
      (fun g hg=>by have:=(hown g hg).1;omega) (fun hg=>by
        rcases hat2 with h1 | h1
        · have:=havl.out gg (by rw [← hob.out];exact h1);have:=(hown gg hg).1;omega
        · have:=(hown gg hg).2;omega)
      ⟨hgrow.os.trans HBW.out.os,hgrow.tape.trans HBW.out.tape,hgrow.output.trans HBW.out.output⟩ (by have:=hgrow.size;simp at this;omega)
      (fun g hg hne=>(hgrow.block g (by simp;omega) (fun e=>hne (by rw [hob.out];exact e.symm))).trans ((Below.heap_alloc w2 _ g (by omega)).trans (HBW.out.block g hg))) (hat2.imp id (fun h1=>by omega))
    have HF:=hid (show ∃ L' b,EnAt _ L' _∧KeptO L.own L'.own w _∧L'.s=L.s∧L'.bs=L.bs++[b] from ⟨_,_,h4,k4,rfl,bs_snoc L _ _⟩)
    clear h4 k4 hown hat2
    go_wp2
    go_ret2
    exact⟨rfl,by have:=HF.out;rw [HLZ.out] at this;exact this⟩
end Go.Proofs.YtjefgmeejhakbabGreatDoor
namespace Go.Proofs.YtjefgmeejhakbabGreatDoor
open Go.RowKit
structure Dsk where
 pl:List (List Int)
 cut:Bool
 left:Int
def BytesV (w:World) (v:Value) (l:List Int):Prop:=(∀ g,v.ownBlock=some g→g<w.heap.size)∧∃ ad cap,v=.slice ad l.length cap∧l.length≤cap∧∀ (i:Nat) (x:Int),l[i]?=some x→∃ g off,ad=some ⟨g,off,none⟩∧w.cell? ⟨g,off+i,none⟩=some (.int .u8 x)
structure DiskAt (w:World) (d:Nat) (dv:List Value) (D:Dsk):Prop where
 blk:w.heap[d]?=some (.cells (dv++[Value.bool D.cut,Value.int .i64 D.left]).toArray 84 (0,0))
 lv:dv.length=250
 lp:D.pl.length=250
 row:∀ (i:Nat) (v:Value) (l:List Int),dv[i]?=some v→D.pl[i]?=some l→BytesV w v l
 fin:∀ l∈D.pl,l.length≤200∧∀ x∈l,0≤x∧x<256
theorem row_bytes {w:World} {v:Value} {l:List Int} (h:BytesV w v l) (hl:∀ x∈l,0≤x∧x<256):∃ ad cap,v=.slice ad l.length cap∧l.length≤cap∧BytesAt w ad l∧(0<l.length→∃ g off,ad=some ⟨g,off,none⟩∧g<w.heap.size):=by
 obtain⟨_,ad,cap,e,hc,hx⟩:=h
 refine⟨ad,cap,e,hc,fun i x hi=>?_,fun h0=>?_⟩
 ·obtain⟨g,off,e1,h2⟩:=hx i x hi
  exact⟨hl x (List.mem_of_getElem? hi),g,off,e1,h2⟩
 ·obtain⟨g,off,e1,h1⟩:=hx 0 _ (List.getElem?_eq_getElem h0)
  exact⟨g,off,e1,World.block_lt_of_cell? w _ h1⟩
theorem bytesV_own {w:World} {base:Nat} {v:Value} {l:List Int} (h:w.ownsRow base 5 1 v l.length (u8V l)):BytesV w v l:=by
 refine⟨fun g hg=>(h.lt g hg).2,?_⟩
 rcases h.2 with ⟨e,e0⟩ | ⟨g,cap,cur,e,hb,hg,hle,hm,hs,hx⟩
 ·exact⟨none,0,by rw [e,e0],by omega,fun i x hx=>by have:=(List.getElem?_eq_some_iff.1 hx).1;omega⟩
 ·refine⟨some ⟨g,0,none⟩,cap,e,hle,fun i x hi=>⟨g,0,rfl,?_⟩⟩
  rcases row_slice h with ⟨e',_⟩ | ⟨g',cap',e',_,hc⟩
  ·rw [e] at e';cases e'
  ·rw [e] at e'
   cases e'
   rw [Nat.zero_add]
   exact hc _ _ (u8V_get hi)
theorem BytesV.same {w w':World} {v:Value} {l:List Int} (h:BytesV w v l) (hz:w.heap.size≤w'.heap.size) (hs:∀ (g o:Nat) (x:Int),v.ownBlock=some g→w.cell? ⟨g,o,none⟩=some (.int .u8 x)→w'.heap[g]?=w.heap[g]?):BytesV w' v l:=by
 obtain⟨h0,ad,cap,e,hc,hx⟩:=h
 refine⟨fun g hg=>Nat.lt_of_lt_of_le (h0 g hg) hz,ad,cap,e,hc,fun i x hi=>?_⟩
 obtain⟨g,off,e1,h2⟩:=hx i x hi
 exact⟨g,off,e1,(World.cell?_of_block (a:=⟨g,off+i,none⟩) (hs g (off+i) x (by rw [e,e1];rfl) h2)).trans h2⟩
def dOwn (d:Nat) (dv:List Value) (g:Nat):Prop:=g=d∨∃ (i:Nat) (v:Value),dv[i]?=some v∧v.ownBlock=some g
section
variable {w w':World} {d:Nat} {dv:List Value} {D:Dsk}
theorem DiskAt.get (h:DiskAt w d dv D) {i:Nat} (hi:i<250):∃ v l,dv[i]?=some v∧D.pl[i]?=some l∧w.cell? ⟨d,i,none⟩=some v:=by
 refine⟨dv[i]'(by rw [h.lv];exact hi),D.pl[i]'(by rw [h.lp];exact hi),List.getElem?_eq_getElem _,List.getElem?_eq_getElem _,?_⟩
 refine (cell_of_row w d i _ _ (0,0) h.blk).trans ?_
 rw [List.getElem?_toArray,List.getElem?_append_left (by rw [h.lv];exact hi),List.getElem?_eq_getElem]
theorem DiskAt.lt (h:DiskAt w d dv D):d<w.heap.size:=(Array.getElem?_eq_some_iff.1 h.blk).1
theorem DiskAt.same (h:DiskAt w d dv D) (hz:w.heap.size≤w'.heap.size) (hs:∀ g,dOwn d dv g→w'.heap[g]?=w.heap[g]?):DiskAt w' d dv D :=
 ⟨(hs d (.inl rfl)).trans h.blk,h.lv,h.lp,fun i v l hv hl=>(h.row i v l hv hl).same hz (fun g _ _ hg _=>hs g (.inr ⟨i,v,hv,hg⟩)),h.fin⟩
theorem DiskAt.own_lt (h:DiskAt w d dv D) {g:Nat} (hg:dOwn d dv g):g<w.heap.size:=by
 rcases hg with rfl | ⟨i,v,hv,hg⟩
 ·exact h.lt
 ·have hi:i<250:=by rw [← h.lv];exact (List.getElem?_eq_some_iff.1 hv).1
  obtain⟨_,l,_,hl,_⟩:=h.get hi
  exact (h.row i v l hv hl).1 g hg
theorem DiskAt.below (h:DiskAt w d dv D) (hB:Below w.heap.size w w'):DiskAt w' d dv D:=h.same hB.size (fun g hg=>hB.block g (h.own_lt hg))
set_option maxRecDepth 100000 in
set_option maxHeartbeats 400000 in
theorem isWritten_any (h:DiskAt w d dv D) {i:Nat} {l:List Int} (hi:i<250) (hl:D.pl[i]?=some l) :
  Calls Tryz.prog 232 #[.pointer (some ⟨d,0,none⟩),.int .i64 (i:Int)] w fun e w'=>e=.returned (.bool (wholeP l))∧∃ q,w'=w.drewN q:=by
 obtain⟨v,l',hv,hl',hc⟩:=h.get hi
 rw [hl] at hl'
 cases hl'
 obtain⟨ad,cap,rfl,hcap,hA,_⟩:=row_bytes (h.row i v l hv hl) (h.fin l (List.mem_of_getElem? hl)).2
 have hle:=(h.fin l (List.mem_of_getElem? hl)).1
 have HW:=hid (whole_any ad cap l w (by omega) hcap hA)
 have gi0:(0:Int)≤(i:Int):=by omega
 have gi1:(i:Int)<250:=by omega
 clear h hA hv hl
 go_enter Tryz.func232,Tryz.ntmps232
 go_wp2_with fail
 refine HW.out.mono ?_
 rintro e w1 ⟨rfl,q,hq⟩
 rw [hq]
 clear hq w1 HW
 go_wp2
 go_ret
 exact⟨rfl,q,rfl⟩
end
end Go.Proofs.YtjefgmeejhakbabGreatDoor
namespace Go.Proofs.YtjefgmeejhakbabGreatDoor
open Go.RowKit
def wrTo (l:List Opp) (j:Nat):Nat→List Int:=fun k=>writersP (l.take j) (k:Nat)
theorem wrTo_step {l:List Opp} {j:Nat} {o:Opp} (h:l[j]?=some o) (k:Nat):wrTo l (j+1) k=wStep (k:Nat) (wrTo l j k) o:=by
 unfold wrTo writersP
 rw [List.take_add_one,h]
 simp [List.foldl_append]
theorem wrTo_read {l:List Opp} {j:Nat} {o:Opp} (h:l[j]?=some o) (hr:o.2.2.1=false):wrTo l (j+1)=wrTo l j:=by
 funext k
 rw [wrTo_step h,wStep,if_neg (by simp [hr])]
theorem wrTo_write {l:List Opp} {j:Nat} {o:Opp} (h:l[j]?=some o) (hr:o.2.2.1=true) {kk:Nat} (hk:o.2.1=(kk:Nat)):wrTo l (j+1)=updN (wrTo l j) kk (wAdd (wrTo l j kk) o.1):=by
 funext k
 rw [wrTo_step h,wStep]
 by_cases e:k=kk
 ·subst e
  rw [updN_same,wAdd]
  by_cases hl:(wrTo l j k).getLast?=some o.1
  ·rw [if_neg (by simp [hl]),if_pos hl]
  ·rw [if_pos ⟨hr,hk,hl⟩,if_neg hl]
 ·rw [updN_other _ _ e,if_neg]
  rintro⟨_,h2,_⟩
  omega
theorem wrTo_all (l:List Opp):wrTo l l.length=fun k=>writersP l (k:Nat):=by unfold wrTo;rw [List.take_length]
theorem wrTo_len (l:List Opp) (j k:Nat):(wrTo l j k).length≤l.length:=Nat.le_trans (writers_len _ _) (by simp;omega)
theorem KeysAt.zero {w:World} {K:Nat} (h:w.heap[K]?=some (.cells (keyCells (fun _=>.slice none 0 0) (fun _=>none)) 339 (0,0))):KeysAt w K (fun _=>.slice none 0 0) (fun _=>none) (fun _=>[]) :=
 ⟨h,fun _ _=>World.ownsRow_nil _ _ _ _,fun _ _=>.inl ⟨rfl,fun _=>rfl⟩,fun _ _=>⟨fun _=>rfl,fun _=>rfl⟩,(fun _ _ _ _ _ h=>by cases h),(fun _ _ _ _ _ h=>by cases h)⟩
theorem heap_setCell_self {w:World} {b i:Nat} {cs:Array Value} {t:TypeId} {v:Value} (hb:w.heap[b]?=some (.cells cs t (0,0))) (hv:cs[i]?=some v):(w.setCell ⟨b,i,none⟩ v).heap[b]?=some (.cells cs t (0,0)):=by
 rw [heap_setCell_same w b i cs t v hb]
 congr 2
 apply Array.ext_getElem?
 intro k
 rw [Array.getElem?_setIfInBounds]
 by_cases e:i=k
 ·subst e
  obtain⟨hi,_⟩:=Array.getElem?_eq_some_iff.1 hv
  rw [if_pos rfl,if_pos hi,hv]
 ·rw [if_neg e]
theorem heap_setCells_self {b:Nat} {cs:Array Value} {t:TypeId}:∀ (vs:List Value) (o:Nat) (w:World),w.heap[b]?=some (.cells cs t (0,0))→(∀ j v,vs[j]?=some v→cs[o+j]?=some v)→(w.setCells b o vs).heap[b]?=some (.cells cs t (0,0))
 | [],_,_,h,_=>h
 | v::r,o,w,h,hv=>by
  rw [World.setCells]
  exact heap_setCells_self r (o+1) _ (heap_setCell_self h (hv 0 v rfl)) (fun j u hu=>by have:=hv (j+1) u (by simpa using hu);rwa [show o+1+j=o+(j+1) by omega])
theorem below_setCells {B b:Nat} {a:World} (hb:B≤b):∀ (vs:List Value) (o:Nat) (w:World),Below B a w→Below B a (w.setCells b o vs)
 | [],_,_,h=>h
 | v::r,o,w,h=>by
  rw [World.setCells]
  exact below_setCells hb r (o+1) _ (h.setCell (p:=⟨b,o,none⟩) hb _)
theorem heap_setCells_ne {b c:Nat} (hc:c≠b):∀ (vs:List Value) (o:Nat) (w:World),(w.setCells b o vs).heap[c]?=w.heap[c]?
 | [],_,_=>rfl
 | v::r,o,w=>by
  rw [World.setCells,heap_setCells_ne hc r]
  exact heap_setCell_other w ⟨b,o,none⟩ c v hc
theorem one_of_get {C:Array Value} {f:Nat→Value} (h:∀ i,C[i]?=if i<20 then some (f i) else none) (hf:∀ i,i<20→(f i).oneCell'=true):∀ v∈C.toList,v.oneCell'=true:=by
 intro v hv
 obtain⟨i,hi,e⟩:=List.getElem_of_mem hv
 have h1:C[i]?=some v:=by rw [← Array.getElem?_toList,List.getElem?_eq_getElem hi,e]
 rw [h i] at h1
 by_cases hl:i<20
 ·rw [if_pos hl] at h1;cases h1;exact hf i hl
 ·rw [if_neg hl] at h1;cases h1
theorem keyCells_one {w:World} {K:Nat} {av:Nat→Value} {mv:Nat→Option Nat} {S:Nat→List Int} (h:KeysAt w K av mv S):∀ v∈(keyCells av mv).toList,v.oneCell'=true :=
 one_of_get (keyCells_get av mv) (fun i hi=>by
  by_cases e2:i%2=0
  ·rw [if_pos e2]
   obtain⟨ad,c,e3⟩:=row_form (h.row (i / 2) (by omega))
   rw [e3];rfl
  ·rw [if_neg e2];rfl)
set_option maxRecDepth 100000 in
set_option maxHeartbeats 600000 in
theorem orWritten_any (ad:Option Addr) (cap:Nat) (l:List Opp) (w:World) (hn:l.length≤10000000) (hO:OpsAt w ad l) (hf:∀ o∈l,opBad o=false) :
    Calls Tryz.prog 242 #[.slice ad l.length cap] w fun e w'=>∃ K av mv,e=.returned (.agg (keyCells av mv))∧KeysAt w' K av mv (fun k=>writersP l (k:Nat))∧(∀ b,keysOwn K av mv b→w.heap.size≤b)∧Below w.heap.size w w':=by
  have HO:=hid hO
  have HF:=hid hf
  clear hO hf
  go_enter Tryz.func242,Tryz.ntmps242
  go_wp2
  go_loopw [7] (fun i wr=>∃ (j:Nat) (av:Nat→Value) (mv:Nat→Option Nat),j≤l.length∧i=.int .i64 j∧KeysAt wr w.heap.size av mv (wrTo l j)∧(∀ b,keysOwn w.heap.size av mv b→w.heap.size≤b)∧Below w.heap.size w wr) (fun i _=>l.length-(intOf i).toNat)
  case atStart =>
    refine⟨0,fun _=>.slice none 0 0,fun _=>none,Nat.zero_le _,rfl,KeysAt.zero ?_,?_,?_⟩
    · exact heap_alloc_new w _
    · rintro b (rfl | ⟨k,_,e | e⟩)
      · exact Nat.le_refl _
      · cases e
      · cases e
    · exact (Below.refl _ _).alloc (Nat.le_refl _) _
  case round =>
    obtain⟨j,av,mv,hj,rfl,hK,hown,hB⟩:=hrel
    have hBs:=hB.size
    by_cases hlt:j<l.length
    · obtain⟨o,ho⟩:∃ o,l[j]?=some o:=⟨l[j],List.getElem?_eq_getElem hlt⟩
      obtain⟨g,off,rfl,hg,⟨c0,c1,c2,c3⟩,i0,i1,i2⟩:=HO.out.below hB j o ho
      obtain⟨b1,b2,b3,b4⟩:=opBad_false (HF.out o (List.mem_of_getElem? ho))
      have hj0:(0:Int)≤(j:Int):=by omega
      have hj1:(j:Int)<(l.length:Int):=by omega
      have hA:=hB.alloc hBs (.cells #[.int .i64 o.1,.int .i64 o.2.1,.bool o.2.2.1,.int .i64 o.2.2.2] 138)
      have hA1:Below wr.heap.size wr (wr.alloc (.cells #[.int .i64 o.1,.int .i64 o.2.1,.bool o.2.2.1,.int .i64 o.2.2.2] 138)):=(Below.refl _ _).alloc (Nat.le_refl _) _
      have HA:=hid (And.intro hA (And.intro (hK.below hA1) hown))
      have HJ:=hid ho
      cases hw:o.2.2.1 with
      | false =>
        have hst:=hid (wrTo_read ho hw)
        rw [hw] at c2 HA
        clear hB hK hown ho hA hA1
        go_wp2
        go_roundw
        case rel=>exact⟨j+1,av,mv,by omega,by go_num,by rw [hst.out];exact HA.out.2.1,HA.out.2.2,HA.out.1⟩
        case measure=>simp [intOf];omega
      | true =>
        obtain⟨kk,hkk⟩:∃ kk:Nat,o.2.1=(kk:Nat):=⟨o.2.1.toNat,by omega⟩
        have hst:=hid (wrTo_write ho hw hkk)
        have hk10:kk<10:=by omega
        have hkk0:(0:Int)≤(kk:Int):=by omega
        have hkk1:(kk:Int)<10:=by omega
        rw [hw] at c2 HA
        rw [hkk] at c1 HA
        obtain⟨tx,htx⟩:∃ tx,o.1=tx:=⟨_,rfl⟩
        rw [htx] at c0 HA i0
        have HT:=hid htx
        have hX0:=heap_alloc_new wr (.cells #[.int .i64 tx,.int .i64 (kk:Nat),.bool true,.int .i64 o.2.2.2] 138)
        have x0:(wr.alloc (.cells #[.int .i64 tx,.int .i64 (kk:Nat),.bool true,.int .i64 o.2.2.2] 138)).cell? ⟨wr.heap.size,0,none⟩=some (.int .i64 tx):=(cell_of_row _ _ 0 _ _ (0,0) hX0).trans rfl
        have x1:(wr.alloc (.cells #[.int .i64 tx,.int .i64 (kk:Nat),.bool true,.int .i64 o.2.2.2] 138)).cell? ⟨wr.heap.size,1,none⟩=some (.int .i64 (kk:Nat)):=(cell_of_row _ _ 1 _ _ (0,0) hX0).trans rfl
        have hlen:=wrTo_len l j kk
        have hC:=fun q=>add_any w.heap.size kk av mv (wrTo l j) tx ((wr.alloc (.cells #[.int .i64 tx,.int .i64 (kk:Nat),.bool true,.int .i64 o.2.2.2] 138)).drewN q) (HA.out.2.1.below (below_drewN (Below.refl _ _) q)) hk10 (by omega) i0
        have HC:=hid hC
        have HNX:=hid (show ¬ keysOwn w.heap.size av mv wr.heap.size from fun hh=>by have:=hK.own_lt hh;omega)
        have HXd:=hid (show ((wr.alloc (.cells #[.int .i64 tx,.int .i64 (kk:Nat),.bool true,.int .i64 o.2.2.2] 138)).drewN 1).heap[wr.heap.size]?=_ from hX0)
        clear hB hK hown ho hA hA1 hX0 hkk htx hw hC
        go_wp2
        go_region_held3 (fun W=>W.cell? ⟨wr.heap.size,0,none⟩=some (.int .i64 tx)∧W.cell? ⟨wr.heap.size,1,none⟩=some (.int .i64 (kk:Nat)))
          (first
            | go_keep
            | exact⟨y0,y1⟩)
          (first
            | (go_at_call 303
               refine (HC.out 1).mono ?_
               rintro e w2 ⟨rfl,av2,mv2,hK2,hKp2⟩
               have hX2:=(hKp2.block wr.heap.size (by simp) HNX.out).trans HXd.out
               have y0:w2.cell? ⟨wr.heap.size,0,none⟩=some (.int .i64 tx):=(cell_of_row _ _ 0 _ _ (0,0) hX2).trans rfl
               have y1:w2.cell? ⟨wr.heap.size,1,none⟩=some (.int .i64 (kk:Nat)):=(cell_of_row _ _ 1 _ _ (0,0) hX2).trans rfl
               have HK2:=hid (And.intro hK2 hKp2)
               clear hK2 hKp2 hX2))
        go_wp2
        go_roundw
        case rel =>
          obtain⟨hK2,hKp2⟩:=HK2.out
          refine⟨j+1,av2,mv2,by omega,by go_num,by rw [hst.out,HT.out];exact hK2,fun b hb=>?_,?_⟩
          · rcases hKp2.sub b hb with h | h
            · exact HA.out.2.2 b h
            · simp at h;omega
          · exact HA.out.1.trans (((below_drewN (Below.refl _ _) 1).trans (hKp2.below (by simp;omega) HA.out.2.2)).mono (Nat.le_refl _))
        case measure=>simp [intOf];omega
    · obtain rfl:j=l.length:=by omega
      obtain⟨vs,hvs⟩:∃ vs,(keyCells av mv).toList=vs:=⟨_,rfl⟩
      have hvl:vs.length=20:=by rw [← hvs,Array.length_toList,keyCells_size]
      have hat:∀ i v,vs[i]?=some v→(keyCells av mv)[i]?=some v:=fun i v hv=>by rw [← hvs,Array.getElem?_toList] at hv;exact hv
      have hra:wr.rangeAt w.heap.size 0 vs:=fun i v hv=>by
        rw [Nat.zero_add]
        exact (cell_of_row wr w.heap.size i _ _ (0,0) hK.blk).trans (hat i v hv)
      have hth:wr.there w.heap.size 0 vs.toArray.size:=fun i hi=>by
        rw [Nat.zero_add,cell_of_row wr w.heap.size i _ _ (0,0) hK.blk]
        have hi':i<vs.length:=by simpa using hi
        exact⟨by rw [hat i _ (List.getElem?_eq_getElem hi')];rfl,hK.free i⟩
      have hin0:(Tryz.prog.info? 339).map (·.size)=some 20:=by kernel_rfl
      have hin:(Tryz.prog.info? 339).map (·.size)=some vs.length:=by rw [hvl];exact hin0
      have hin2:(Tryz.prog.info? 339).map (·.size)=some vs.toArray.size:=by rw [List.size_toArray];exact hin
      have h1:vs.toArray.all (·.oneCell')=true:=all_oneCell_toArray (by rw [← hvs];exact keyCells_one hK)
      have hb2:=heap_setCells_self vs 0 wr hK.blk (fun i v hv=>by rw [Nat.zero_add];exact hat i v hv)
      have hB2:=below_setCells (Nat.le_refl _) vs 0 wr hB
      have hK2:KeysAt (wr.setCells w.heap.size 0 vs) w.heap.size av mv (wrTo l l.length):=hK.same (fun b _=>by
        by_cases e:b=w.heap.size
        · rw [e,hb2,hK.blk]
        · exact heap_setCells_ne e vs 0 wr)
      have HK:=hid (And.intro hK2 (And.intro hown (And.intro hB2 hb2)))
      have HV:=hid hvs
      have HI:=hid hin0
      clear hK hown hB hvs hvl hat hin0 hb2 hB2 hK2
      go_wp2_with (first
        | (refine wpList_load_mid (by rfl) 339 _ (by rfl) w.heap.size 0 (by rfl) vs (.array 10 338) hra Tryz.underlying339 rfl hin ?_)
        | (refine wpList_store_mid (by rfl) 339 _ _ (by rfl) w.heap.size 0 vs.toArray (by rfl) (by rfl) hth hin2 h1 ?_))
      refine bodyPost_ret (results_cell_row rfl _ _ w.heap.size 339 (keyCells av mv) (0,0) (.array 10 338) rfl HK.out.2.2.2 Tryz.underlying339 rfl (by rw [keyCells_size];exact HI.out)) rfl ?_
      have hfin:=HK.out.1
      rw [wrTo_all] at hfin
      exact⟨w.heap.size,av,mv,rfl,hfin,HK.out.2.1,HK.out.2.2.1⟩
end Go.Proofs.YtjefgmeejhakbabGreatDoor
