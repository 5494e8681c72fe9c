/- OrNote OrNoteR: put together for a claim. -/
import Derived.Test.YtjefgmeejhakbabGreatDoorMgAZ
namespace Go.Proofs.YtjefgmeejhakbabGreatDoor
open Go.RowKit
structure TwosN (N:Nat) (w:World) (B:Nat) (v:Value) (d:List (Int × Int)):Prop where
 blk:w.heap[B]?=some (.cells #[v] 120 (0,0))
 row:w.ownsRow N 122 2 v d.length (vrow d)
 le:N≤B
def tOwn (B:Nat) (v:Value) (b:Nat):Prop:=b=B∨v.ownBlock=some b
def noteP (a b:Int):List (Int × Int):=if a=b then [] else [(a,b)]
section
variable {N:Nat} {w w':World} {B:Nat} {v:Value} {d:List (Int × Int)}
theorem TwosN.lt (h:TwosN N w B v d):B<w.heap.size:=(Array.getElem?_eq_some_iff.1 h.blk).1
theorem TwosN.ne (h:TwosN N w B v d):v.ownBlock≠some B:=fun e=>by
 rcases h.row.2 with ⟨e1,_⟩ | ⟨g',cap,cur,e1,_,hc,_⟩
 ·rw [e1] at e;cases e
 ·rw [e1] at e;cases e
  rw [h.blk] at hc
  simp at hc
theorem TwosN.cell (h:TwosN N w B v d):w.cell? ⟨B,0,none⟩=some v:=(cell_of_row w B 0 _ _ (0,0) h.blk).trans rfl
theorem TwosN.free (h:TwosN N w B v d):w.frozen? ⟨B,0,none⟩=false:=by simp [World.frozen?,h.blk]
theorem TwosN.same (h:TwosN N w B v d) (hs:∀ b,b=B∨v.ownBlock=some b→w'.heap[b]?=w.heap[b]?):TwosN N w' B v d :=
 ⟨(hs B (.inl rfl)).trans h.blk,owns_same h.row (fun g e=>hs g (.inr e)),h.le⟩
theorem TwosN.below (h:TwosN N w B v d) (hB:Below w.heap.size w w'):TwosN N w' B v d:=h.same (fun b hb=>hB.block b (by
 rcases hb with rfl | e
 ·exact h.lt
 ·exact (h.row.lt b e).2))
theorem TwosN.put {w1:World} {u:Value} {d':List (Int × Int)} (h:TwosN N w B v d) (hg:w.grownBy w1 v.ownBlock) (ho:w1.ownsRow N 122 2 u d'.length (vrow d')) :
  TwosN N (w1.setCell ⟨B,0,none⟩ u) B u d'∧KeptO (tOwn B v) (fun b=>b=B∨u.ownBlock=some b∧(v.ownBlock=some b∨w.heap.size≤b)) w (w1.setCell ⟨B,0,none⟩ u):=by
 have hB:=h.lt
 have hb:w1.heap[B]?=some (.cells #[v] 120 (0,0)):=(hg.block B hB (fun e=>h.ne e.symm)).trans h.blk
 have hne:u.ownBlock≠some B:=fun e=>by
  rcases ho.2 with ⟨e1,_⟩ | ⟨g',cap,cur,e1,_,hc,_⟩
  ·rw [e1] at e;cases e
  ·rw [e1] at e;cases e
   rw [hb] at hc
   simp at hc
 refine⟨⟨(heap_setCell_same w1 B 0 _ 120 u hb).trans rfl,owns_same ho (fun g e=>heap_setCell_other w1 ⟨B,0,none⟩ g u (fun e2=>hne (by rw [e,e2]))),h.le⟩,?_⟩
 refine⟨hg.os,hg.tape,hg.output,by simpa using hg.size,fun k hk hn=>(heap_setCell_other w1 ⟨B,0,none⟩ k u (fun e=>hn (.inl e))).trans (hg.block k hk (fun e=>hn (.inr e.symm))),fun b hb=>?_⟩
 rcases hb with e | ⟨_,e | e⟩
 ·exact .inl (.inl e)
 ·exact .inl (.inr e)
 ·exact .inr e
theorem TwosN.own_le (h:TwosN N w B v d) {b:Nat} (hb:tOwn B v b):N≤b∧b<w.heap.size:=by
 rcases hb with rfl | e
 ·exact⟨h.le,h.lt⟩
 ·exact h.row.lt b e
theorem KeptO.twos {o:Nat→Prop} (k:KeptO (tOwn B v) o w w') (h:TwosN N w B v d):Below N w w' :=
 k.below (Nat.le_trans h.le (Nat.le_of_lt h.lt)) (fun _ hb=>(h.own_le hb).1)
end
set_option maxRecDepth 100000 in
set_option maxHeartbeats 600000 in
theorem note_any (N B:Nat) (v:Value) (d:List (Int × Int)) (a b:Int) (w:World) (h:TwosN N w B v d) (hd:d.length≤100000000) :
  Calls Tryz.prog 244 #[.int .i64 a,.int .i64 b,.pointer (some ⟨B,0,none⟩)] w fun e w'=>e=.returned (.tuple #[])∧∃ v',TwosN N w' B v' (d++noteP a b)∧KeptO (tOwn B v) (tOwn B v') w w':=by
 unfold noteP
 by_cases hab:a=b
 ·rw [if_pos hab,List.append_nil]
  have e1:(a != b)=false:=by simp [hab]
  have HH:=hid h
  clear h hab
  go_enter Tryz.func244,Tryz.ntmps244
  go_wp2
  refine bodyPost_end (results_none rfl _ _ _) rfl ?_
  exact⟨rfl,v,HH.out,KeptO.refl _ _⟩
 ·rw [if_neg hab]
  have e1:(a != b)=true:=by simpa using hab
  obtain⟨i0,hi0,hz0,hz1,hz2⟩:=info_parts info122
  have c0:=h.cell
  have hA:Below w.heap.size w (w.alloc (.cells #[.int .i64 a,.int .i64 b] 122)):=(Below.refl _ _).alloc (Nat.le_refl _) _
  have hA2:=hA.size
  have hNw:N≤w.heap.size:=Nat.le_trans h.le (Nat.le_of_lt h.lt)
  have HH:=hid (h.below hA)
  have HB:=hid (KeptO.of_below (o:=tOwn B v) hA)
  clear h hA hab
  go_enter Tryz.func244,Tryz.ntmps244
  go_wp2_with (at_builtin;refine wpList_append_lies _ rfl _ _ _ rfl N 122 i0 _ 2 16 Tryz.underlying120 hi0 hz0 hz1 hz2 rfl (by omega) v _ _ rfl HH.out.row ⟨w.heap.size,0,none⟩ 1 1 [.int .i64 a,.int .i64 b] rfl rfl (World.news_of_block (cs:=#[.int .i64 a,.int .i64 b]) (t:=122) (fr:=(0,0)) (heap_alloc_new w _)) (by simp [Value.oneCell']) (by omega) (by unfold maxLen;omega) (by omega) (by simp;omega) (w.heap.size+1) (by simp) ?_;intro g cap w1 ho hgrow hat hlt;have c1:=(World.cell?_of_block (a:=⟨B,0,none⟩) (hgrow.block B HH.out.lt (fun e=>HH.out.ne e.symm))).trans HH.out.cell;have f1:=(World.frozen?_of_block (a:=⟨B,0,none⟩) (hgrow.block B HH.out.lt (fun e=>HH.out.ne e.symm))).trans HH.out.free)
  refine bodyPost_end (results_none rfl _ _ _) rfl ?_
  have hp:=HH.out.put (d':=d++[(a,b)]) hgrow (by rw [List.length_append,vrow_append];exact ho)
  refine⟨rfl,_,hp.1,HB.out.trans ⟨hp.2.os,hp.2.tape,hp.2.output,hp.2.size,hp.2.block,fun b hb=>?_⟩⟩
  rcases hb with e | e
  ·exact .inl (.inl e)
  ·cases e
   rcases hat with e | e
   ·exact .inl (.inr e)
   ·exact .inr (by show (w.alloc _).heap.size≤g;simp;omega)
theorem conP_snoc:∀ (s:List Int) (a b:Int),conP (s++[a,b])=conP (s++[a])++[(a,b)]
 | [],a,b=>rfl
 | [x],a,b=>rfl
 | x::y::r,a,b=>by
  have ih:=conP_snoc (y::r) a b
  simp only [List.cons_append,conP] at ih ⊢
  rw [ih]
theorem conTo_step {s:List Int} {i:Nat} {a b:Int} (h1:s[i]?=some a) (h2:s[i+1]?=some b):conP (s.take (i+1+1))=conP (s.take (i+1))++[(a,b)]:=by
 have e1:s.take (i+1)=s.take i++[a]:=by rw [List.take_add_one,h1];rfl
 have e2:s.take (i+1+1)=s.take i++[a,b]:=by rw [List.take_add_one,h2,e1];simp
 rw [e1,e2,conP_snoc]
theorem conTo_filter {s:List Int} {i:Nat} {a b:Int} (h1:s[i]?=some a) (h2:s[i+1]?=some b):(conP (s.take (i+1+1))).filter neP=(conP (s.take (i+1))).filter neP++noteP a b:=by
 rw [conTo_step h1 h2,List.filter_append]
 congr 1
 unfold noteP neP
 by_cases e:a=b<;>simp [e]
set_option maxRecDepth 100000 in
set_option maxHeartbeats 1000000 in
theorem noteWrites_any (N B K:Nat) (v:Value) (d:List (Int × Int)) (k:Nat) (av:Nat→Value) (mv:Nat→Option Nat) (S:Nat→List Int) (w:World) (h:TwosN N w B v d) (hK:KeysAt w K av mv S) (hKN:∀ b,keysOwn K av mv b→b<N) (hk:k<10) (hd:d.length+(S k).length≤50000000) :
    Calls Tryz.prog 245 #[.pointer (some ⟨K,k*2,none⟩),.func (.func 244) #[] #[.pointer (some ⟨B,0,none⟩)]] w fun e w'=>e=.returned (.tuple #[])∧∃ v',TwosN N w' B v' (d++(conP (S k)).filter neP)∧Below N w w':=by
  have HH:=hid h
  have HK:=hid hK
  have HN:=hid hKN
  have hNw:N≤w.heap.size:=Nat.le_trans h.le (Nat.le_of_lt h.lt)
  clear h hK hKN
  obtain⟨s,hs⟩:∃ s,S k=s:=⟨_,rfl⟩
  have HS:=hid hs
  rw [hs] at hd ⊢
  clear hs
  go_enter Tryz.func245,Tryz.ntmps245
  go_wp2
  go_loopw [4] (fun iv wr=>∃ (i:Nat) (v':Value),iv=.int .i64 ((i:Int)+1)∧i+1≤s.length+1∧TwosN N wr B v' (d++(conP (s.take (i+1))).filter neP)∧Below N w wr) (fun iv _=>s.length+1-(intOf iv).toNat)
  case atStart =>
    refine⟨0,v,rfl,by omega,?_,Below.refl _ _⟩
    have e:conP (s.take (0+1))=[]:=by cases s with
      | nil=>rfl
      | cons a r=>rfl
    rw [e]
    simpa using HH.out
  case round =>
    obtain⟨i,v',rfl,hi,hT,hB⟩:=hrel
    have hKr:KeysAt wr K av mv S:=HK.out.same (fun b hb=>hB.block b (HN.out b hb))
    have c0:=hKr.c0 hk
    have hrow:=hKr.row k hk
    rw [HS.out] at hrow
    by_cases hlt:i+1<s.length
    · obtain⟨a,ha⟩:∃ a,s[i]?=some a:=⟨s[i],List.getElem?_eq_getElem (by omega)⟩
      obtain⟨b,hb⟩:∃ b,s[i+1]?=some b:=⟨s[i+1],List.getElem?_eq_getElem hlt⟩
      rcases row_slice hrow with ⟨_,e0⟩ | ⟨g,cap,e,hg,hc⟩
      · omega
      · have ca:=hc i _ (intsV_get ha)
        have cb:=hc (i+1) _ (intsV_get hb)
        rw [e] at c0
        have HST:=hid (conTo_filter ha hb)
        have hlen:(d++(conP (s.take (i+1))).filter neP).length≤100000000:=by
          have h1:=List.length_filter_le neP (conP (s.take (i+1)))
          have h2:=conP_length (s.take (i+1))
          rw [List.length_take] at h2
          rw [List.length_append]
          omega
        have HT:=hid hT
        have HB:=hid hB
        have hi0:(0:Int)≤(i:Int):=by omega
        have hi1:(i:Int)+1<(s.length:Int):=by omega
        have hi2:(i:Int)<(s.length:Int):=by omega
        have hi3:(0:Int)≤(i:Int)+1:=by omega
        have hi4:((i:Int)+1).toNat=i+1:=by omega
        have hi5:IntKind.i64.wrap (i:Int)=(i:Int):=IntWalk.i64_in _ (by omega)
        have hi6:(i:Int)+1-1=(i:Int):=by omega
        have hgN:g<N:=HN.out g (.inr ⟨k,hk,.inl (by rw [e];rfl)⟩)
        have hKN1:K<N:=HN.out K (.inl rfl)
        have hC:=fun q=>note_any N B v' (d++(conP (s.take (i+1))).filter neP) a b (wr.drewN q) (HT.out.below (below_drewN (Below.refl _ _) q)) hlen
        have HC:=hid hC
        clear hT hB hKr hrow hc ha hb e hlen hC
        go_wp2
        go_region_held3 (fun W=>W.cell? ⟨K,k*2,none⟩=some (.slice (some ⟨g,0,none⟩) s.length cap)∧W.cell? ⟨g,i,none⟩=some (.int .i64 a)∧W.cell? ⟨g,i+1,none⟩=some (.int .i64 b))
          (first
            | go_keep
            | exact⟨y0,y1,y2⟩)
          (first
            | (go_at_call 244
               refine (HC.out 1).mono ?_
               rintro e w2 ⟨rfl,v2,hT2,hK2⟩
               have hB2:=hK2.twos (HT.out.below (below_drewN (Below.refl _ _) 1))
               have y0:w2.cell? ⟨K,k*2,none⟩=some (.slice (some ⟨g,0,none⟩) s.length cap):=(hB2.cell (p:=⟨K,k*2,none⟩) hKN1).trans c0
               have y1:w2.cell? ⟨g,i,none⟩=some (.int .i64 a):=(hB2.cell (p:=⟨g,i,none⟩) hgN).trans ca
               have y2:w2.cell? ⟨g,i+1,none⟩=some (.int .i64 b):=(hB2.cell (p:=⟨g,i+1,none⟩) hgN).trans cb
               have HK2:=hid (And.intro hT2 hB2)
               clear hT2 hB2 hK2))
        go_wp2
        go_roundw
        case rel =>
          refine⟨i+1,v2,by go_num,by omega,?_,HB.out.trans ((below_drewN (Below.refl _ _) 1).trans HK2.out.2)⟩
          rw [HST.out,← List.append_assoc]
          exact HK2.out.1
        case measure=>simp [intOf];omega
    · obtain⟨ad,cap,e⟩:=row_form hrow
      rw [e] at c0
      have hfin:conP (s.take (i+1))=conP s:=by rw [List.take_of_length_le (by omega)]
      rw [hfin] at hT
      have HF:=hid (And.intro hT hB)
      clear hT hB hKr hrow e hfin
      go_wp2
      refine bodyPost_end (results_none rfl _ _ _) rfl ?_
      exact⟨rfl,v',HF.out⟩
end Go.Proofs.YtjefgmeejhakbabGreatDoor
namespace Go.Proofs.YtjefgmeejhakbabGreatDoor
open Go.RowKit
def readNotes (s:List Int) (tx fr p:Int):List (Int × Int):=(if fr=0 then [] else noteP fr tx)++(match s[p.toNat]? with
 | some y=>noteP tx y
 | none=>[])
section
variable {w w1:World} {B:Nat} {v v1:Value}
theorem twos_box (hk:KeptO (tOwn B v) (tOwn B v1) w w1) {X:Nat} {ob:Obj} (hX:w.heap[X]?=some ob) (hn:¬ tOwn B v X):w1.heap[X]?=some ob :=
 (hk.block X (Array.getElem?_eq_some_iff.1 hX).1 hn).trans hX
end
set_option maxRecDepth 100000 in
set_option maxHeartbeats 1000000 in
theorem noteR_any (N B K:Nat) (v:Value) (d:List (Int × Int)) (k:Nat) (av:Nat→Value) (mv:Nat→Option Nat) (S:Nat→List Int) (tx fr p:Int) (wb:Bool) (w:World) (h:TwosN N w B v d) (hK:KeysAt w K av mv S) (hKN:∀ b,keysOwn K av mv b→b<N) (hk:k<10) (hd:d.length+(S k).length≤50000000) (hfr:I64 fr) (hp:behindG (S k) fr=(p,true)) :
    Calls Tryz.prog 246 #[.pointer (some ⟨K,k*2,none⟩),.agg #[.int .i64 tx,.int .i64 (k:Nat),.bool wb,.int .i64 fr],.func (.func 244) #[] #[.pointer (some ⟨B,0,none⟩)]] w fun e w'=>e=.returned (.tuple #[])∧∃ v',TwosN N w' B v' (d++readNotes (S k) tx fr p)∧KeptO (tOwn B v) (tOwn B v') w w':=by
  have hNw:N≤w.heap.size:=Nat.le_trans h.le (Nat.le_of_lt h.lt)
  have hA:Below w.heap.size w (w.alloc (.cells #[.int .i64 tx,.int .i64 (k:Nat),.bool wb,.int .i64 fr] 138)):=(Below.refl _ _).alloc (Nat.le_refl _) _
  have hp0:0≤p∧p≤(S k).length:=by
    unfold behindG at hp
    by_cases e:fr=0
    · rw [if_pos e] at hp;cases hp;omega
    · rw [if_neg e] at hp
      cases hf:firstAt fr (S k) with
      | none=>rw [hf] at hp;cases hp
      | some i=>rw [hf] at hp;cases hp;have:=firstAt_lt hf;omega
  have H0:=hid (h.below hA)
  have hnX:¬ tOwn B v w.heap.size:=fun hh=>by have:=(h.own_le hh).2;omega
  have HX:=hid (heap_alloc_new w (.cells #[.int .i64 tx,.int .i64 (k:Nat),.bool wb,.int .i64 fr] 138))
  have HNX:=hid hnX
  have HN:=hid hKN
  have HBA:=hid (hA.mono hNw)
  have HKA:=hid (KeptO.of_below (o:=tOwn B v) hA)
  have HK:=hid hK
  obtain⟨pn,rfl⟩:∃ pn:Nat,p=(pn:Nat):=⟨p.toNat,by omega⟩
  have HP:=hid hp
  -- what follows the first note
  have tail:∀ (d1:List (Int × Int)) (v1:Value) (w1:World),d1.length≤d.length+1→TwosN N w1 B v1 d1→w1.heap[w.heap.size]?=some (.cells #[.int .i64 tx,.int .i64 (k:Nat),.bool wb,.int .i64 fr] 138 (0,0))→Below N w w1 →
      KeysAt w1 K av mv S∧(∀ q,Calls Tryz.prog 304 #[.pointer (some ⟨K,k*2,none⟩),.int .i64 fr] (w1.drewN q) fun e w'=>e=.returned (.tuple #[.int .i64 (pn:Nat),.bool true])∧w'=w1.drewN q)∧w1.cell? ⟨w.heap.size,0,none⟩=some (.int .i64 tx)∧w1.cell? ⟨w.heap.size,3,none⟩=some (.int .i64 fr):=by
    intro d1 v1 w1 _ hT hX1 hB1
    have hK1:KeysAt w1 K av mv S:=HK.out.same (fun b hb=>hB1.block b (HN.out b hb))
    refine⟨hK1,fun q=>?_,(cell_of_row _ _ 0 _ _ (0,0) hX1).trans rfl,(cell_of_row _ _ 3 _ _ (0,0) hX1).trans rfl⟩
    have:=behindP_any K (k*2) (av k) (mv k) (S k) fr (w1.drewN q) ((hK1.below (below_drewN (Below.refl _ _) q)).at hk) hfr (by omega)
    rw [HP.out] at this
    exact this
  have TAIL:=hid tail
  clear h hK hKN hA hp hnX tail
  by_cases hf0:fr=0
  · have e0:(fr != 0)=false:=by simp [hf0]
    have HF0:=hid hf0
    clear hf0
    obtain⟨t1,t2,t3,t4⟩:=TAIL.out d v (w.alloc (.cells #[.int .i64 tx,.int .i64 (k:Nat),.bool wb,.int .i64 fr] 138)) (by omega:d.length≤d.length+1) H0.out HX.out HBA.out
    have HC2:=hid t2
    have c0:=t1.c0 hk
    have hrow:=t1.row k hk
    by_cases hlt:pn<(S k).length
    · obtain⟨y,hy⟩:∃ y,(S k)[pn]?=some y:=⟨(S k)[pn],List.getElem?_eq_getElem hlt⟩
      rcases row_slice hrow with ⟨_,e0⟩ | ⟨g,cap,e,hg,hc⟩
      · omega
      · have cy:=hc pn _ (intsV_get hy)
        have hgN:g<N:=HN.out g (.inr ⟨k,hk,.inl (by rw [e];rfl)⟩)
        have hKN1:K<N:=HN.out K (.inl rfl)
        rw [e] at c0
        have hb:decide ((pn:Int)<((S k).length:Int))=true:=by simpa using hlt
        have hp1:(0:Int)≤(pn:Int):=by omega
        have hp2:(pn:Int)<((S k).length:Int):=by omega
        have HY:=hid (show (S k)[((pn:Nat):Int).toNat]?=some y from hy)
        have hXl:¬ tOwn B v w.heap.size:=HNX.out
        have HXL:=hid hXl
        have HXZ:=hid (HX.out)
        have HTZ:=hid (H0.out)
        have HC:=hid (fun q=>note_any N B v d tx y (((w.alloc (.cells #[.int .i64 tx,.int .i64 (k:Nat),.bool wb,.int .i64 fr] 138))).drewN q) (HTZ.out.below (below_drewN (Below.refl _ _) q)) (by have:=(by omega:d.length≤d.length+1);omega))
        clear t1 t2 hrow e hlt hy hc hXl
        go_enter Tryz.func246,Tryz.ntmps246
        go_wp2_with (go_at_call 304;refine (HC2.out 0).mono ?_;rintro e w' ⟨rfl,rfl⟩)
        go_region_held3 (fun W=>W.cell? ⟨w.heap.size,0,none⟩=some (.int .i64 tx)∧W.cell? ⟨K,k*2,none⟩=some (.slice (some ⟨g,0,none⟩) (S k).length cap)∧W.cell? ⟨g,pn,none⟩=some (.int .i64 y))
          (first
            | go_keep
            | exact⟨y0,y1,y2⟩)
          (first
            | (go_at_call 244
               refine (HC.out 1).mono ?_
               rintro e w2 ⟨rfl,v2,hT2,hK2⟩
               have hB2:=hK2.twos (HTZ.out.below (below_drewN (Below.refl _ _) 1))
               have hX2:=twos_box hK2 (show (((w.alloc (.cells #[.int .i64 tx,.int .i64 (k:Nat),.bool wb,.int .i64 fr] 138))).drewN 1).heap[w.heap.size]?=_ from HXZ.out) HXL.out
               have y0:w2.cell? ⟨w.heap.size,0,none⟩=some (.int .i64 tx):=(cell_of_row _ _ 0 _ _ (0,0) hX2).trans rfl
               have y1:w2.cell? ⟨K,k*2,none⟩=some (.slice (some ⟨g,0,none⟩) (S k).length cap):=(hB2.cell (p:=⟨K,k*2,none⟩) hKN1).trans c0
               have y2:w2.cell? ⟨g,pn,none⟩=some (.int .i64 y):=(hB2.cell (p:=⟨g,pn,none⟩) hgN).trans cy
               have HK2:=hid (And.intro hT2 hK2)
               clear hT2 hB2 hK2 hX2))
        go_end0
        refine⟨rfl,v2,?_,(HKA.out.drewN 1).trans HK2.out.2⟩
        have hF:=HK2.out.1
        unfold readNotes
        rw [HY.out]
        rw [if_pos HF0.out,List.nil_append];simpa using hF
    · have hb:decide ((pn:Int)<((S k).length:Int))=false:=by simpa using hlt
      have HNO:=hid (show (S k)[((pn:Nat):Int).toNat]?=none by simp;omega)
      obtain⟨ad,cap,e⟩:=row_form hrow
      rw [e] at c0
      have HTZ:=hid (H0.out)
      clear t1 t2 hrow e
      go_enter Tryz.func246,Tryz.ntmps246
      go_wp2_with (go_at_call 304;refine (HC2.out 0).mono ?_;rintro e w' ⟨rfl,rfl⟩)
      refine bodyPost_end (results_none rfl _ _ _) rfl ?_
      refine⟨rfl,v,?_,HKA.out⟩
      have hF:=HTZ.out.below (below_drewN (Below.refl _ _) 0)
      unfold readNotes
      rw [HNO.out]
      rw [if_pos HF0.out,List.nil_append];simpa using hF
  · have e0:(fr != 0)=true:=by simpa using hf0
    have HF0:=hid hf0
    clear hf0
    have hX0:=HX.out
    have c0:(w.alloc (.cells #[.int .i64 tx,.int .i64 (k:Nat),.bool wb,.int .i64 fr] 138)).cell? ⟨w.heap.size,0,none⟩=some (.int .i64 tx):=(cell_of_row _ _ 0 _ _ (0,0) hX0).trans rfl
    clear hX0 c0
    go_enter Tryz.func246,Tryz.ntmps246
    go_wp2_with fail
    refine (note_any N B v d fr tx _ H0.out (by omega)).mono ?_
    rintro e w1 ⟨rfl,v1,hT1,hK1⟩
    have hB1:=HBA.out.trans (hK1.twos H0.out)
    have hX1:=twos_box hK1 HX.out HNX.out
    have HT1:=hid hT1
    have HKW:=hid (HKA.out.trans hK1)
    have HB1:=hid hB1
    have HX1:=hid hX1
    have HNX1:=hid (show ¬ tOwn B v1 w.heap.size from fun hh=>(hK1.sub _ hh).elim HNX.out (fun h=>by simp at h;omega))
    have hd1:(d++noteP fr tx).length≤d.length+1:=by rw [List.length_append];unfold noteP;split<;>simp
    clear hT1 hK1 hB1 hX1
    obtain⟨t1,t2,t3,t4⟩:=TAIL.out (d++noteP fr tx) v1 w1 hd1 HT1.out HX1.out HB1.out
    have HC2:=hid t2
    have c0:=t1.c0 hk
    have hrow:=t1.row k hk
    by_cases hlt:pn<(S k).length
    · obtain⟨y,hy⟩:∃ y,(S k)[pn]?=some y:=⟨(S k)[pn],List.getElem?_eq_getElem hlt⟩
      rcases row_slice hrow with ⟨_,e0⟩ | ⟨g,cap,e,hg,hc⟩
      · omega
      · have cy:=hc pn _ (intsV_get hy)
        have hgN:g<N:=HN.out g (.inr ⟨k,hk,.inl (by rw [e];rfl)⟩)
        have hKN1:K<N:=HN.out K (.inl rfl)
        rw [e] at c0
        have hb:decide ((pn:Int)<((S k).length:Int))=true:=by simpa using hlt
        have hp1:(0:Int)≤(pn:Int):=by omega
        have hp2:(pn:Int)<((S k).length:Int):=by omega
        have HY:=hid (show (S k)[((pn:Nat):Int).toNat]?=some y from hy)
        have hXl:¬ tOwn B v1 w.heap.size:=HNX1.out
        have HXL:=hid hXl
        have HXZ:=hid (HX1.out)
        have HTZ:=hid (HT1.out)
        have HC:=hid (fun q=>note_any N B v1 (d++noteP fr tx) tx y ((w1).drewN q) (HTZ.out.below (below_drewN (Below.refl _ _) q)) (by have:=hd1;omega))
        clear t1 t2 hrow e hlt hy hc hXl
        go_wp2_with (go_at_call 304;refine (HC2.out 0).mono ?_;rintro e w' ⟨rfl,rfl⟩)
        go_region_held3 (fun W=>W.cell? ⟨w.heap.size,0,none⟩=some (.int .i64 tx)∧W.cell? ⟨K,k*2,none⟩=some (.slice (some ⟨g,0,none⟩) (S k).length cap)∧W.cell? ⟨g,pn,none⟩=some (.int .i64 y))
          (first
            | go_keep
            | exact⟨y0,y1,y2⟩)
          (first
            | (go_at_call 244
               refine (HC.out 1).mono ?_
               rintro e w2 ⟨rfl,v2,hT2,hK2⟩
               have hB2:=hK2.twos (HTZ.out.below (below_drewN (Below.refl _ _) 1))
               have hX2:=twos_box hK2 (show ((w1).drewN 1).heap[w.heap.size]?=_ from HXZ.out) HXL.out
               have y0:w2.cell? ⟨w.heap.size,0,none⟩=some (.int .i64 tx):=(cell_of_row _ _ 0 _ _ (0,0) hX2).trans rfl
               have y1:w2.cell? ⟨K,k*2,none⟩=some (.slice (some ⟨g,0,none⟩) (S k).length cap):=(hB2.cell (p:=⟨K,k*2,none⟩) hKN1).trans c0
               have y2:w2.cell? ⟨g,pn,none⟩=some (.int .i64 y):=(hB2.cell (p:=⟨g,pn,none⟩) hgN).trans cy
               have HK2:=hid (And.intro hT2 hK2)
               clear hT2 hB2 hK2 hX2))
        go_end0
        refine⟨rfl,v2,?_,(HKW.out.drewN 1).trans HK2.out.2⟩
        have hF:=HK2.out.1
        unfold readNotes
        rw [HY.out]
        rw [if_neg HF0.out,← List.append_assoc];simpa using hF
    · have hb:decide ((pn:Int)<((S k).length:Int))=false:=by simpa using hlt
      have HNO:=hid (show (S k)[((pn:Nat):Int).toNat]?=none by simp;omega)
      obtain⟨ad,cap,e⟩:=row_form hrow
      rw [e] at c0
      have HTZ:=hid (HT1.out)
      clear t1 t2 hrow e
      go_wp2_with (go_at_call 304;refine (HC2.out 0).mono ?_;rintro e w' ⟨rfl,rfl⟩)
      refine bodyPost_end (results_none rfl _ _ _) rfl ?_
      refine⟨rfl,v1,?_,HKW.out⟩
      have hF:=HTZ.out.below (below_drewN (Below.refl _ _) 0)
      unfold readNotes
      rw [HNO.out]
      rw [if_neg HF0.out,← List.append_assoc];simpa using hF
end Go.Proofs.YtjefgmeejhakbabGreatDoor
