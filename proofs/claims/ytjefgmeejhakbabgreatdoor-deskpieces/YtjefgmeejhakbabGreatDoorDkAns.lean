/- desk: a line is answered. -/
import Derived.Test.YtjefgmeejhakbabGreatDoorMgAQ
namespace Go.Proofs.YtjefgmeejhakbabGreatDoor
open Go.RowKit
theorem SesAt.same {k:Nat} {w w':World} {S mb d b:Nat} {L:EnL} {dv:List Value} {st:Ses} (h:SesAt k w S mb d b L dv st) (hz:w.heap.size≤w'.heap.size) (hs:∀ g,oS S mb b d L dv g→w'.heap[g]?=w.heap[g]?) (hl:LibAt w'):SesAt k w' S mb d b L dv st :=
 ⟨(hs S (.inl rfl)).trans h.blk,h.map.same (hs mb (.inr (.inl rfl))),⟨(hs b (.inr (.inr (.inl rfl)))).trans h.bas.bas,h.bas.dsk.same hz (fun g hg=>hs g (.inr (.inr (.inr (.inl hg))))),h.bas.en.same (fun g hg=>hs g (.inr (.inr (.inr (.inr hg))))),h.bas.sepb,h.bas.sepd⟩,h.sS,h.sM,h.low,Nat.le_trans h.le hz,hl,h.room⟩
theorem SPost.box {k:Nat} {w w0 w2:World} {S mb d b:Nat} {L:EnL} {dv:List Value} {st st':Ses} {T:Nat} {x:Value} (hs:SesAt k w S mb d b L dv st) (hB:Below w.heap.size w w0) (h:SPost k S mb d b L dv st' w0 w2) (hT:w.heap.size≤T) (hTl:T<w0.heap.size):SPost k S mb d b L dv st' w (w2.setCell ⟨T,0,none⟩ x):=by
 obtain⟨b',L',dv',h1,h2⟩:=h
 have hk:=hs.le
 have hn:¬ oS S mb b' d L' dv' T:=fun ho=>by
  rcases h2.sub T ho with h3 | h3
  ·have:=hs.own_lt h3;omega
  ·omega
 have ho:∀ g,g≠T→(w2.setCell ⟨T,0,none⟩ x).heap[g]?=w2.heap[g]?:=fun g hg=>heap_setCell_other _ _ _ _ hg
 have hsz:(w2.setCell ⟨T,0,none⟩ x).heap.size=w2.heap.size:=by simp
 refine⟨b',L',dv',h1.same (by rw [hsz];exact Nat.le_refl _) (fun g hg=>ho g (fun e=>hn (e▸hg))) (h1.lib.below (B:=k) ⟨rfl,rfl,rfl,by rw [hsz];exact Nat.le_refl _,fun g hg=>ho g (by omega)⟩ hs.room),?_⟩
 refine⟨h2.os.trans hB.os,h2.tape.trans hB.tape,h2.output.trans hB.output,by rw [hsz];exact Nat.le_trans hB.size h2.size,fun g hg hng=>?_,fun g hg=>?_⟩
 ·rw [ho g (by omega),h2.block g (by have:=hB.size;omega) hng,hB.block g hg]
 ·rcases h2.sub g hg with h3 | h3
  ·exact .inl h3
  ·have:=hB.size;exact .inr (by omega)
set_option maxRecDepth 100000 in
theorem leave_thrown {R:Ending→World→Prop} {tmps:Array Value} {T:Nat} {v x:Value} {c:Int} {W:World} (ht:tmps[4]?=some (.pointer (some ⟨T,0,none⟩))) (hv:ErrOf W v c) (hc:I64 c) (hg:LibAt W) (hT:W.heap[T]?=some (.cells #[x] 9 (0,0)))
  (hR:∀ w1,Below W.heap.size W w1→R (.returned (txt (errT c))) (w1.setCell ⟨T,0,none⟩ (txt (errT c)))) :
  Leaves Tryz.prog Tryz.f17 tmps R [{ target:=.fn (.func 51) #[.pointer (some ⟨T,0,none⟩)],args:=#[] }] (.panicking [{ v:=v,recovered:=false }]) W:=by
 refine leaves_cons (f:=51) (args:=#[.pointer (some ⟨T,0,none⟩)]) (by simp) (by simp [go_sem]) ?_
 refine (catch_thrown hv hc hg hT).mono ?_
 rintro e u' w'' ⟨rfl,rfl,w1,hB,rfl⟩
 have h1:=(hB.block T (Array.getElem?_eq_some_iff.1 hT).1).trans hT
 have hcT:(w1.setCell ⟨T,0,none⟩ (txt (errT c))).cell? ⟨T,0,none⟩=some (txt (errT c)):=World.cell?_setCell_same' _ _ _ (by rw [cell_of_row w1 T 0 _ _ (0,0) h1];rfl)
 have hr:=hR w1 hB
 generalize w1.setCell ⟨T,0,none⟩ (txt (errT c))=W2 at hcT hr ⊢
 simp [Leaves,settle,results,Tryz.results17,go_sem,hcT,ht]
 exact hr
set_option maxRecDepth 100000 in
theorem leave_told {R:Ending→World→Prop} {tmps:Array Value} {T:Nat} {l:List UInt8} {W:World} (ht:tmps[4]?=some (.pointer (some ⟨T,0,none⟩))) (hcT:W.cell? ⟨T,0,none⟩=some (txt l)) (hR:R (.returned (txt l)) W) :
  Leaves Tryz.prog Tryz.f17 tmps R [{ target:=.fn (.func 51) #[.pointer (some ⟨T,0,none⟩)],args:=#[] }] .returning W:=by
 refine leaves_cons (f:=51) (args:=#[.pointer (some ⟨T,0,none⟩)]) (by simp) (by simp [go_sem]) ?_
 refine (catch_idle ⟨T,0,none⟩ _).mono ?_
 rintro e u' w'' ⟨rfl,rfl,rfl⟩
 simp [Leaves,settle,results,Tryz.results17,go_sem,hcT,ht]
 exact hR
section
variable {k:Nat} {w:World} {S mb d b:Nat} {L:EnL} {dv:List Value} {st:Ses}
set_option maxRecDepth 100000 in
set_option maxHeartbeats 4000000 in
theorem ans_none (hs:SesAt k w S mb d b L dv st) {line:List UInt8} (hl:line.length≤100000) (hw:wordsP line=[]) :
  Calls Tryz.prog 17 #[.pointer (some ⟨S,0,none⟩),txt line] w fun e w'=>e=.returned (txt [111,107])∧SPost k S mb d b L dv st w w':=by
 have hmf:∀ (fn:Fn) (first cap:Array Value) (w:World),(Instr.makeFunc fn first cap).run Tryz.prog w=.ok (.func fn first cap) w:=fun _ _ _ _=>rfl
 obtain⟨T,hT⟩:∃ T,w.heap.size=T:=⟨_,rfl⟩
 obtain⟨w0,hw0⟩:∃ w0,w.alloc (.cells #[.string ⟨#[]⟩] 9)=w0:=⟨_,rfl⟩
 have hb0:Below w.heap.size w w0:=by rw [← hw0];exact (Below.refl _ w).alloc (Nat.le_refl _) _
 have hT0:w0.heap[T]?=some (.cells #[.string ⟨#[]⟩] 9 (0,0)):=by rw [← hw0,← hT];exact heap_alloc_new _ _
 have hTl:T<w0.heap.size:=(Array.getElem?_eq_some_iff.1 hT0).1
 have HW:=hid (words_any line (by omega) w0)
 rw [hw] at HW
 simp only [List.length_nil] at HW
 have HC:=hid (fun (W:World) (hW:Below w0.heap.size w0 W)=>(show W.cell? ⟨T,0,none⟩=some (.string ⟨#[]⟩)∧W.frozen? ⟨T,0,none⟩=false from by
  have h1:=(hW.block T hTl).trans hT0
  exact⟨(cell_of_row W T 0 _ _ (0,0) h1).trans rfl,by simp [World.frozen?,h1]⟩))
 have HS:=hid hs
 have HB0:=hid hb0
 clear hs hb0 hT0
 go_enter_defers Tryz.func17,Tryz.ntmps17
 go_wp2_with (go_at_call 52;refine HW.out.mono ?_;rintro e w1 ⟨A,rfl,hA,hrow,hB1⟩;obtain⟨c1,f1⟩:=HC.out w1 hB1)
 have hcT:(w1.setCell ⟨T,0,none⟩ (.string ⟨#[111,107]⟩)).cell? ⟨T,0,none⟩=some (.string ⟨#[111,107]⟩):=World.cell?_setCell_same' _ _ _ (by rw [c1];rfl)
 have HP:=hid (SPost.box (x:=.string ⟨#[111,107]⟩) HS.out HB0.out ((HS.out.below HB0.out).idle hB1) (by omega) hTl)
 refine leaves_cons (f:=51) (args:=#[.pointer (some ⟨T,0,none⟩)]) (by simp) (by simp [go_sem]) ?_
 refine (catch_idle ⟨T,0,none⟩ _).mono ?_
 rintro e u' w'' ⟨rfl,rfl,rfl⟩
 generalize (w1.setCell ⟨T,0,none⟩ (.string ⟨#[111,107]⟩))=W at hcT HP ⊢
 simp [Leaves,settle,results,Tryz.results17,go_sem,hcT]
 exact HP.out
set_option maxRecDepth 100000 in
set_option maxHeartbeats 4000000 in
theorem ans_form (hs:SesAt k w S mb d b L dv st) {line word:List UInt8} {rest:List (List UInt8)} (hl:line.length≤100000) (hw:wordsP line=word::rest) (hwl:word.length≤1000000000) (hrl:rest.length≤1000000) (hc:(cmdOf cmds word).all (fun c=>c.many != rest.length)=true) :
  Calls Tryz.prog 17 #[.pointer (some ⟨S,0,none⟩),txt line] w fun e w'=>e=.returned (txt (errT 3))∧SPost k S mb d b L dv st w w':=by
 have hmf:∀ (fn:Fn) (first cap:Array Value) (w:World),(Instr.makeFunc fn first cap).run Tryz.prog w=.ok (.func fn first cap) w:=fun _ _ _ _=>rfl
 obtain⟨T,hT⟩:∃ T,w.heap.size=T:=⟨_,rfl⟩
 obtain⟨w0,hw0⟩:∃ w0,w.alloc (.cells #[.string ⟨#[]⟩] 9)=w0:=⟨_,rfl⟩
 have hb0:Below w.heap.size w w0:=by rw [← hw0];exact (Below.refl _ w).alloc (Nat.le_refl _) _
 have hT0:w0.heap[T]?=some (.cells #[.string ⟨#[]⟩] 9 (0,0)):=by rw [← hw0,← hT];exact heap_alloc_new _ _
 have hTl:T<w0.heap.size:=(Array.getElem?_eq_some_iff.1 hT0).1
 have HW:=hid (words_any line (by omega) w0)
 rw [hw] at HW
 have HS0:=hid (hs.below hb0)
 have HT0:=hid hT0
 have HS:=hid hs
 have HB0:=hid hb0
 clear hs hb0 hT0
 cases hcm:cmdOf cmds word with
 | none =>
  go_enter_defers Tryz.func17,Tryz.ntmps17
  go_wp2_with (go_at_call 52;refine HW.out.mono ?_;rintro e w1 ⟨A,rfl,hA,hrow,hB1⟩)
  have HS1:=hid (HS0.out.below hB1)
  have s2:w1.cell? ⟨S,2,none⟩=some (.map (some mb)):=(HS1.out.cell 2).trans rfl
  have a0:w1.cell? ⟨A,0,none⟩=some (txt word):=by
   rcases row_slice hrow with ⟨e1,_⟩ | ⟨g,cap,e1,_,hcc⟩
   ·cases e1
   ·cases e1;exact hcc 0 _ rfl
  have hl1:∀ W,Below w1.heap.size w1 W→(Instr.lookup 86 (.map (some mb)) (txt word) true).run Tryz.prog W=.ok (.tuple #[cmdZ,.bool false]) W:=fun W hW=>by
   have:=(HS1.out.below hW).map.look hwl
   rw [hcm] at this
   exact this
  have hd1:=hl1 _ (show Below w1.heap.size w1 w1.drew from below_drewN (Below.refl _ w1) 1)
  have hba:Below w1.heap.size w1 (w1.alloc (.cells #[.int .i64 0,.nilFunc] 91)):=(Below.refl _ w1).alloc (Nat.le_refl _) _
  have hd2:=hl1 _ (show Below w1.heap.size w1 (w1.alloc (.cells #[.int .i64 0,.nilFunc] 91)).drew from below_drewN hba 1)
  have s2':=(hba.cell (p:=⟨S,2,none⟩) HS1.out.ltS).trans s2
  have a0':=(hba.cell (p:=⟨A,0,none⟩) (World.block_lt_of_cell? _ _ a0)).trans a0
  unfold cmdZ at hd1 hd2
  have hlen:0<(word::rest).length:=by simp
  have HRW:=hid hrow
  clear hrow hl1
  go_region
  all_goals
   go_wp2_with fail
   refine (throw_errno 3 _).mono ?_
   rintro e w4 ⟨rfl,hw4⟩
   rw [hw4]
   clear hw4 w4
   refine leave_thrown (v:=.iface 33 (.int .i64 3)) rfl (.inl rfl) (i64_small (by omega)) (HS1.out.below (below_drewN hba 1)).lib (((below_drewN hba 1).block T (by have:=hB1.size;omega)).trans ((hB1.block T hTl).trans HT0.out)) (fun w5 hB5=>⟨rfl,?_⟩)
   exact SPost.box HS.out HB0.out (HS0.out.idle (hB1.trans (((below_drewN hba 1).trans (hB5.mono (below_drewN hba 1).size)).mono hB1.size))) (by omega) hTl
 | some c =>
  have hcn:¬ (rest.length:Int)=(c.many:Int):=fun e=>by
   rw [hcm] at hc
   simp only [Option.all_some,bne_iff_ne,ne_eq] at hc
   omega
  have hcb:((rest.length:Int) != (c.many:Int))=true:=by simpa using hcn
  clear hc
  go_enter_defers Tryz.func17,Tryz.ntmps17
  go_wp2_with (go_at_call 52;refine HW.out.mono ?_;rintro e w1 ⟨A,rfl,hA,hrow,hB1⟩)
  have HS1:=hid (HS0.out.below hB1)
  have s2:w1.cell? ⟨S,2,none⟩=some (.map (some mb)):=(HS1.out.cell 2).trans rfl
  have a0:w1.cell? ⟨A,0,none⟩=some (txt word):=by
   rcases row_slice hrow with ⟨e1,_⟩ | ⟨g,cap,e1,_,hcc⟩
   ·cases e1
   ·cases e1;exact hcc 0 _ rfl
  have hl1:∀ W,Below w1.heap.size w1 W→(Instr.lookup 86 (.map (some mb)) (txt word) true).run Tryz.prog W=.ok (.tuple #[.agg #[.int .i64 (c.many:Int),.func (.func c.fn) #[.pointer (some ⟨S,0,none⟩)] #[]],.bool true]) W:=fun W hW=>by
   have:=(HS1.out.below hW).map.look hwl
   rw [hcm] at this
   exact this
  have hd1:=hl1 _ (show Below w1.heap.size w1 w1.drew from below_drewN (Below.refl _ w1) 1)
  have hba:Below w1.heap.size w1 (w1.alloc (.cells #[.int .i64 0,.nilFunc] 91)):=(Below.refl _ w1).alloc (Nat.le_refl _) _
  have hd2:=hl1 _ (show Below w1.heap.size w1 (w1.alloc (.cells #[.int .i64 0,.nilFunc] 91)).drew from below_drewN hba 1)
  have s2':=(hba.cell (p:=⟨S,2,none⟩) HS1.out.ltS).trans s2
  have a0':=(hba.cell (p:=⟨A,0,none⟩) (World.block_lt_of_cell? _ _ a0)).trans a0
  have hlen:0<(word::rest).length:=by simp
  have HRW:=hid hrow
  obtain⟨X,hX⟩:∃ X,w1.heap.size=X:=⟨_,rfl⟩
  obtain⟨w2,hw2⟩:∃ w2,(w1.alloc (.cells #[.int .i64 (c.many:Int),.func (.func c.fn) #[.pointer (some ⟨S,0,none⟩)] #[]] 91)).drew=w2:=⟨_,rfl⟩
  have hB2:Below w1.heap.size w1 w2:=by rw [← hw2];exact below_drewN ((Below.refl _ w1).alloc (Nat.le_refl _) _) 1
  have hX2:w2.heap[X]?=some (.cells #[.int .i64 (c.many:Int),.func (.func c.fn) #[.pointer (some ⟨S,0,none⟩)] #[]] 91 (0,0)):=by rw [← hw2,← hX];exact heap_alloc_new _ _
  have x0:w2.cell? ⟨X,0,none⟩=some (.int .i64 (c.many:Int)):=(cell_of_row w2 X 0 _ _ (0,0) hX2).trans rfl
  have x1:w2.cell? ⟨X,1,none⟩=some (.func (.func c.fn) #[.pointer (some ⟨S,0,none⟩)] #[]):=(cell_of_row w2 X 1 _ _ (0,0) hX2).trans rfl
  have HB2:=hid hB2
  clear hrow hl1 hB2 hX2
  go_region
  all_goals
   go_wp2_with fail
   refine (throw_errno 3 _).mono ?_
   rintro e w4 ⟨rfl,hw4⟩
   rw [hw4]
   clear hw4 w4
   refine leave_thrown (v:=.iface 33 (.int .i64 3)) rfl (.inl rfl) (i64_small (by omega)) (HS1.out.below HB2.out).lib ((HB2.out.block T (by have:=hB1.size;omega)).trans ((hB1.block T hTl).trans HT0.out)) (fun w5 hB5=>⟨rfl,?_⟩)
   exact SPost.box HS.out HB0.out (HS0.out.idle (hB1.trans ((HB2.out.trans (hB5.mono HB2.out.size)).mono hB1.size))) (by omega) hTl
def outText:Out→List UInt8
 | .told l=>l
 | .err c=>errT c
theorem slice_one (A m:Nat) (hm:m≤1000000):∃ ws1,(∀ W,(Instr.slice 25 (.slice (some ⟨A,0,none⟩) (m+1) (m+1)) (some (.int .i64 1)) none none).run Tryz.prog W=.ok ws1 W) ∧
  ∀ (W:World) (rest:List (List UInt8)),rest.length=m→(∀ (j:Nat) x,rest[j]?=some x→W.cell? ⟨A,1+j,none⟩=some (txt x))→WordsAt W ws1 rest:=by
 cases m with
 | zero =>
  refine⟨.slice (some ⟨A,0,none⟩) 0 0,fun W=>?_,fun W rest hr hc=>?_⟩
  ·simp [Instr.slice,go_sem]
  ·have:rest=[]:=List.eq_nil_of_length_eq_zero hr
   subst this
   exact⟨_,0,0,0,rfl,fun h=>by simp at h,fun j x hx=>by simp at hx⟩
 | succ m =>
  refine⟨.slice (some ⟨A,1,none⟩) (m+1) (m+1),fun W=>?_,fun W rest hr hc=>?_⟩
  ·simp [Instr.slice,go_sem]
   intro h
   omega
  ·exact⟨_,A,1,m+1,by rw [hr],fun _=>rfl,hc⟩
set_option maxRecDepth 100000 in
set_option maxHeartbeats 8000000 in
theorem ans_main (hs:SesAt k w S mb d b L dv st) {line word:List UInt8} {rest:List (List UInt8)} (hl:line.length≤100000) (hw:wordsP line=word::rest) (hwl:word.length≤1000000000) (hrl:rest.length≤1000000) {c:Cmd} (hcm:cmdOf cmds word=some c) (hc:c.many=rest.length)
  (hent:∀ args w,(callFunc c.fn args).run Tryz.prog w=.ok (.enter c.fn args) w) (hxl:∀ x∈rest,x.length≤1000000) {tx:List UInt8} {stf:Ses}
  (hcase:(rest.mapM numOf=none∧tx=errT 3∧stf=st)∨∃ nums o,rest.mapM numOf=some nums∧DoesD c.fn nums st o stf∧(∀ c,o=.err c→I64 c)∧tx=outText o) :
  Calls Tryz.prog 17 #[.pointer (some ⟨S,0,none⟩),txt line] w fun e w'=>e=.returned (txt tx)∧SPost k S mb d b L dv stf w w':=by
 have hmf:∀ (fn:Fn) (first cap:Array Value) (w:World),(Instr.makeFunc fn first cap).run Tryz.prog w=.ok (.func fn first cap) w:=fun _ _ _ _=>rfl
 obtain⟨T,hT⟩:∃ T,w.heap.size=T:=⟨_,rfl⟩
 obtain⟨w0,hw0⟩:∃ w0,w.alloc (.cells #[.string ⟨#[]⟩] 9)=w0:=⟨_,rfl⟩
 have hb0:Below w.heap.size w w0:=by rw [← hw0];exact (Below.refl _ w).alloc (Nat.le_refl _) _
 have hT0:w0.heap[T]?=some (.cells #[.string ⟨#[]⟩] 9 (0,0)):=by rw [← hw0,← hT];exact heap_alloc_new _ _
 have hTl:T<w0.heap.size:=(Array.getElem?_eq_some_iff.1 hT0).1
 have HW:=hid (words_any line (by omega) w0)
 rw [hw] at HW
 have HS0:=hid (hs.below hb0)
 have HT0:=hid hT0
 have HS:=hid hs
 have HB0:=hid hb0
 clear hs hb0 hT0
 have hcb:((rest.length:Int) != (c.many:Int))=false:=by rw [hc];simp
 clear hc
 go_enter_defers Tryz.func17,Tryz.ntmps17
 go_wp2_with (go_at_call 52;refine HW.out.mono ?_;rintro e w1 ⟨A,rfl,hA,hrow,hB1⟩)
 have HS1:=hid (HS0.out.below hB1)
 have s2:w1.cell? ⟨S,2,none⟩=some (.map (some mb)):=(HS1.out.cell 2).trans rfl
 have a0:w1.cell? ⟨A,0,none⟩=some (txt word):=by
  rcases row_slice hrow with ⟨e1,_⟩ | ⟨g,cap,e1,_,hcc⟩
  ·cases e1
  ·cases e1;exact hcc 0 _ rfl
 have hl1:∀ W,Below w1.heap.size w1 W→(Instr.lookup 86 (.map (some mb)) (txt word) true).run Tryz.prog W=.ok (.tuple #[.agg #[.int .i64 (c.many:Int),.func (.func c.fn) #[.pointer (some ⟨S,0,none⟩)] #[]],.bool true]) W:=fun W hW=>by
  have:=(HS1.out.below hW).map.look hwl
  rw [hcm] at this
  exact this
 have hd1:=hl1 _ (show Below w1.heap.size w1 w1.drew from below_drewN (Below.refl _ w1) 1)
 have hba:Below w1.heap.size w1 (w1.alloc (.cells #[.int .i64 0,.nilFunc] 91)):=(Below.refl _ w1).alloc (Nat.le_refl _) _
 have hd2:=hl1 _ (show Below w1.heap.size w1 (w1.alloc (.cells #[.int .i64 0,.nilFunc] 91)).drew from below_drewN hba 1)
 have s2':=(hba.cell (p:=⟨S,2,none⟩) HS1.out.ltS).trans s2
 have a0':=(hba.cell (p:=⟨A,0,none⟩) (World.block_lt_of_cell? _ _ a0)).trans a0
 have hlen:0<(word::rest).length:=by simp
 have HRW:=hid hrow
 obtain⟨X,hX⟩:∃ X,w1.heap.size=X:=⟨_,rfl⟩
 obtain⟨w2,hw2⟩:∃ w2,(w1.alloc (.cells #[.int .i64 (c.many:Int),.func (.func c.fn) #[.pointer (some ⟨S,0,none⟩)] #[]] 91)).drew=w2:=⟨_,rfl⟩
 have hB2:Below w1.heap.size w1 w2:=by rw [← hw2];exact below_drewN ((Below.refl _ w1).alloc (Nat.le_refl _) _) 1
 have hX2:w2.heap[X]?=some (.cells #[.int .i64 (c.many:Int),.func (.func c.fn) #[.pointer (some ⟨S,0,none⟩)] #[]] 91 (0,0)):=by rw [← hw2,← hX];exact heap_alloc_new _ _
 have x0:w2.cell? ⟨X,0,none⟩=some (.int .i64 (c.many:Int)):=(cell_of_row w2 X 0 _ _ (0,0) hX2).trans rfl
 have x1:w2.cell? ⟨X,1,none⟩=some (.func (.func c.fn) #[.pointer (some ⟨S,0,none⟩)] #[]):=(cell_of_row w2 X 1 _ _ (0,0) hX2).trans rfl
 have HB2:=hid hB2
 have HX2:=hid hX2
 clear hrow hl1 hB2 hX2
 go_region
 all_goals
  go_wp2
  have hS2:=HS1.out.below HB2.out
  have hTs:T<w2.heap.size:=by have:=hB1.size;have:=HB2.out.size;omega
  have hT2:w2.heap[T]?=some (.cells #[.string ⟨#[]⟩] 9 (0,0)):=(HB2.out.block T (by have:=hB1.size;omega)).trans ((hB1.block T hTl).trans HT0.out)
  have hTo:¬ oS S mb b d L dv T:=fun ho=>by have:=HS.out.own_lt ho;omega
  obtain⟨ws1,hsl,hws⟩:=slice_one A rest.length hrl
  refine ans_region (W0:=w2) (T:=T) (X:=X) (fn:=c.fn) (rv:=.pointer (some ⟨S,0,none⟩)) (fv:=.func (.func c.fn) #[.pointer (some ⟨S,0,none⟩)] #[]) (ws:=.slice (some ⟨A,0,none⟩) (rest.length+1) (rest.length+1)) (ws1:=ws1)
   (D:=[{ target:=.fn (.func 51) #[.pointer (some ⟨T,0,none⟩)],args:=#[] }])
   (PN:=fun v W=>Below w2.heap.size w2 W∧∃ nums o,rest.mapM numOf=some nums∧DoesD c.fn nums st o stf∧(∀ c,o=.err c→I64 c)∧tx=outText o∧NumsAt W v nums∧∀ g,v.ownBlock=some g→w2.heap.size≤g)
   (PD:=fun t W=>t=txt tx∧SPost k S mb d b L dv stf w2 W)
   (Qp:=fun ch W=>∃ v c,ch=[{ v:=v,recovered:=false }]∧ErrOf W v c∧I64 c∧tx=errT c∧SPost k S mb d b L dv stf w2 W)
   rfl rfl rfl rfl rfl rfl hent (fun n=>x1) (fun v W hp=>(hp.1.cell (p:=⟨X,1,none⟩) (World.block_lt_of_cell? _ _ x1)).trans x1) hsl ?hN ?hD ?hst ?hQp ?hfin
  case hN =>
   intro q
   have hwa:WordsAt (w2.drewN q) ws1 rest:=hws _ rest rfl (fun j x hx=>by
    rcases row_slice HRW.out with ⟨e1,_⟩ | ⟨g,cap,e1,hgl,hcc⟩
    ·cases e1
    ·cases e1
     have h1:=hcc (1+j) (txt x) (by rw [Nat.add_comm 1 j,List.map_cons,List.getElem?_cons_succ,List.getElem?_map,hx];rfl)
     exact ((below_drewN HB2.out q).cell (p:=⟨A,1+j,none⟩) hgl).trans h1)
   refine (numbers_any (hS2.drewN q).lib hwa hxl hrl).mono ?_
   intro e w3 hp
   have hd2:Below w2.heap.size w2 (w2.drewN q):=below_drewN (Below.refl _ w2) q
   rcases hp with ⟨ns,v,hm,rfl,hr,hB⟩ | ⟨hm,rfl,hB⟩
   ·rcases hcase with ⟨h1,_⟩ | ⟨nums,o,h1,h2,h3,h4⟩
    ·rw [hm] at h1;cases h1
    ·rw [hm] at h1
     cases h1
     exact⟨hd2.trans hB,ns,o,hm,h2,h3,h4,nums_row hr,fun g hg=>(hr.lt g hg).1⟩
   ·rcases hcase with ⟨h1,h2,h3⟩ | ⟨nums,o,h1,_⟩
    ·subst h3
     exact⟨_,3,rfl,.inl rfl,i64_small (by omega),h2,hS2.idle (hd2.trans hB)⟩
    ·rw [hm] at h1;cases h1
  case hD =>
   rintro v W ⟨hB,nums,o,h1,h2,h3,h4,h5,h6⟩
   refine (h2 k W S mb d b L dv v (hS2.below hB) h5 (fun g hg ho=>by have:=h6 g hg;have:=HS1.out.own_lt ho;have:=HB2.out.size;omega)).mono ?_
   intro e W2 ⟨he,hP⟩
   have hP2:=SPost.pre hB hP
   cases o with
   | told l =>
    have he:e=.returned (txt l):=he
    subst he
    subst h4
    exact⟨rfl,hP2⟩
   | err c2 =>
    obtain⟨v2,rfl,hv2⟩:=he
    exact⟨v2,c2,rfl,hv2,h3 c2 rfl,h4,hP2⟩
  case hst =>
   rintro t W ⟨rfl,b',L',dv',_,hK⟩
   have h1:=(hK.block T hTs hTo).trans hT2
   exact⟨_,_,rfl,(cell_of_row W T 0 _ _ (0,0) h1).trans rfl,by simp [World.frozen?,h1]⟩
  case hQp =>
   rintro a ch W hsz ha hdf ⟨v,c2,rfl,hv,hc2,rfl,hP⟩
   have ha4:a.tmps[4]?=some (.pointer (some ⟨T,0,none⟩)):=by
    rw [Array.getD_eq_getD_getElem?,Array.getElem?_eq_getElem (by omega)] at ha
    rw [Array.getElem?_eq_getElem (by omega)]
    exact congrArg some ha
   have hW:W.heap[T]?=some (.cells #[.string ⟨#[]⟩] 9 (0,0)):=by
    obtain⟨b',L',dv',_,hK⟩:=hP
    exact (hK.block T hTs hTo).trans hT2
   show Leaves _ _ _ _ _ _ _
   rw [hdf]
   refine leave_thrown ha4 hv hc2 hP.lib hW (fun w5 hB5=>⟨rfl,?_⟩)
   exact SPost.box HS.out (HB0.out.trans ((hB1.trans (HB2.out.mono hB1.size)).mono HB0.out.size)) (hP.below hB5) (by omega) hTs
  case hfin =>
   rintro a t W hsz ha hdf ⟨rfl,hP⟩
   obtain⟨tm,df⟩:=a
   simp only at hsz ha hdf
   subst hdf
   have ha4:tm[4]?=some (.pointer (some ⟨T,0,none⟩)):=by
    rw [Array.getD_eq_getD_getElem?,Array.getElem?_eq_getElem (by omega)] at ha
    rw [Array.getElem?_eq_getElem (by omega)]
    exact congrArg some ha
   have hW:W.heap[T]?=some (.cells #[.string ⟨#[]⟩] 9 (0,0)):=by
    obtain⟨b',L',dv',_,hK⟩:=hP
    exact (hK.block T hTs hTo).trans hT2
   have hcT:(W.setCell ⟨T,0,none⟩ (txt tx)).cell? ⟨T,0,none⟩=some (txt tx):=World.cell?_setCell_same' _ _ _ (by rw [cell_of_row W T 0 _ _ (0,0) hW];rfl)
   have HP2:=hid (SPost.box (x:=txt tx) HS.out (HB0.out.trans ((hB1.trans (HB2.out.mono hB1.size)).mono HB0.out.size)) hP (by omega) hTs)
   generalize W.setCell ⟨T,0,none⟩ (txt tx)=W3 at hcT HP2 ⊢
   go_wp2
   exact leave_told ha4 hcT ⟨rfl,HP2.out⟩
end
end Go.Proofs.YtjefgmeejhakbabGreatDoor
