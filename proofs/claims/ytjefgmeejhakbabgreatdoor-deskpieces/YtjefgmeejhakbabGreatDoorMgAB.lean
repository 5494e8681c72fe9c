/- LkPlain LkMap Tell EsMem LkShelf Kept EkMem EkSmall EkHold EkFor MapLen BsRec Place: put together for a claim. -/
import Derived.Test.YtjefgmeejhakbabGreatDoorMgAA
import Derived.Maps.OwnSet
import Derived.Test.YtjefgmeejhakbabGreatDoorMgAC
import Derived.WalkSpells
import Derived.Deep.AppendLies
import Derived.Shelf.SlGeneric
import Derived.Shelf.SlicesE.DeleteFunc
import Derived.Ground.SlgfProg
import Derived.Lib.SliceRun
import Derived.Test.YtjefgmeejhakbabGreatDoorProg
import Derived.Maps.RangeWalk
import Derived.BigQuiet
import Derived.Deep.QuietTactic
namespace Go.Proofs.YtjefgmeejhakbabGreatDoor
abbrev Tab:=Int→List Int
def holdsP (T:Tab) (k:Int):Int:=(T k).headD 0
def keysP:List Int:=[0,1,2,3,4,5,6,7,8,9]
theorem mem_keysP {k:Int}:k∈keysP↔0≤k∧k<10:=by
 simp only [keysP,List.mem_cons,List.not_mem_nil,or_false];omega
def waitsP (T:Tab) (x:Int):Int:=(keysP.find? (fun k=>decide (x∈(T k).tail))).getD (-1)
def updT {α:Type} (T:Int→α) (k:Int) (l:α):Int→α:=fun j=>if j=k then l else T j
theorem updT_same {α:Type} (T:Int→α) (k:Int) (l:α):updT T k l k=l:=by simp [updT]
theorem updT_other {α:Type} (T:Int→α) {k j:Int} (l:α) (h:j≠k):updT T k l j=T j:=by simp [updT,h]
structure Tidy0 (T:Tab):Prop where
 rng:∀ k,T k≠[]→0≤k∧k<10
 pos:∀ k x,x∈T k→1≤x∧x≤9223372036854775807
 nod:∀ k,(T k).Nodup
 one:∀ k j x,x∈(T k).tail→x∈(T j).tail→k=j
def Ranked (T:Tab) (r:Int→Nat):Prop:=∀ k x,x∈(T k).tail→r (holdsP T k)<r x
structure Good (T:Tab):Prop where
 tidy:Tidy0 T
 rank:∃ r,Ranked T r
theorem Tidy0.key {T:Tab} (h:Tidy0 T) {k x:Int} (hx:x∈(T k).tail):0≤k∧k<10 :=
 h.rng k (fun e=>by rw [e] at hx;simp at hx)
theorem waits_of_mem {T:Tab} (h:Tidy0 T) {k x:Int} (hx:x∈(T k).tail):waitsP T x=k:=by
 unfold waitsP
 cases hf:keysP.find? (fun k=>decide (x∈(T k).tail)) with
 | none =>
  have:=List.find?_eq_none.1 hf k (mem_keysP.2 (h.key hx))
  simp [hx] at this
 | some j =>
  have:=List.find?_some hf
  exact h.one j k x (by simpa using this) hx
theorem mem_of_waits {T:Tab} {x:Int} (h0:0≤waitsP T x):x∈(T (waitsP T x)).tail:=by
 unfold waitsP at *
 cases hf:keysP.find? (fun k=>decide (x∈(T k).tail)) with
 | none=>rw [hf] at h0;simp at h0
 | some j =>
  have:=List.find?_some hf
  simpa using this
theorem waits_cases (T:Tab) (x:Int):waitsP T x=-1∨(0≤waitsP T x∧waitsP T x<10):=by
 unfold waitsP
 cases hf:keysP.find? (fun k=>decide (x∈(T k).tail)) with
 | none=>exact .inl rfl
 | some j=>exact .inr (mem_keysP.1 (List.mem_of_find?_eq_some hf))
theorem waits_none {T:Tab} (h:Tidy0 T) {x:Int} (hw:waitsP T x<0) (k:Int):x∉(T k).tail:=fun hx=>by
 have:=waits_of_mem h hx
 have:=h.key hx
 omega
theorem waits_none_iff {T:Tab} (h:Tidy0 T) {x:Int}:waitsP T x=-1↔∀ k,x∉(T k).tail:=by
 constructor
 ·intro e k;exact waits_none h (by omega) k
 ·intro ha
  rcases waits_cases T x with e | ⟨e,_⟩
  ·exact e
  ·exact (ha _ (mem_of_waits e)).elim
theorem tail_ne {l:List Int} {x:Int} (h:x∈l.tail):l≠[]:=fun e=>by rw [e] at h;simp at h
theorem head_mem {l:List Int} (h:l≠[]):l.headD 0∈l:=by cases l with | nil=>exact (h rfl).elim | cons a r=>simp
theorem holds_pos {T:Tab} (h:Tidy0 T) {k:Int} (hk:T k≠[]):1≤holdsP T k:=(h.pos k _ (head_mem hk)).1
theorem holds_zero {T:Tab} (h:Tidy0 T) {k:Int}:holdsP T k=0↔T k=[]:=by
 constructor
 ·intro e
  rcases List.eq_nil_or_concat (T k) with h0 | _
  ·exact h0
  ·by_cases hk:T k=[]
   ·exact hk
   ·have:=holds_pos h hk;omega
 ·intro e;simp [holdsP,e]
theorem head_not_tail {l:List Int} (h:l.Nodup):l.headD 0∉l.tail∨l=[]:=by
 cases l with
 | nil=>exact .inr rfl
 | cons a r=>exact .inl (by simpa using (List.nodup_cons.1 h).1)
theorem Good.sub {T M:Tab} (h:Good T) (hs:∀ k,(M k).Sublist (T k)):Good M:=by
 have ht:∀ k,((M k).tail).Sublist ((T k).tail):=fun k=>(hs k).tail
 have hone:∀ k j x,x∈(M k).tail→x∈(M j).tail→k=j:=fun k j x hx hy=>h.tidy.one k j x ((ht k).subset hx) ((ht j).subset hy)
 have hnod:∀ k,(M k).Nodup:=fun k=>(h.tidy.nod k).sublist (hs k)
 refine⟨⟨fun k hk=>h.tidy.rng k (fun e=>hk (by have:=hs k;rw [e] at this;exact List.eq_nil_of_sublist_nil this)),fun k x hx=>h.tidy.pos k x ((hs k).subset hx),hnod,hone⟩,?_⟩
 obtain⟨r,hr⟩:=h.rank
 have hm:Tidy0 M:=⟨fun k hk=>h.tidy.rng k (fun e=>hk (by have:=hs k;rw [e] at this;exact List.eq_nil_of_sublist_nil this)),fun k x hx=>h.tidy.pos k x ((hs k).subset hx),hnod,hone⟩
 refine⟨fun x=>if waitsP M x<0 then 0 else r x+1,fun k x hx=>?_⟩
 have hwx:waitsP M x=k:=waits_of_mem hm hx
 have hk0:=(hm.key hx).1
 show (if waitsP M (holdsP M k)<0 then 0 else r (holdsP M k)+1)<(if waitsP M x<0 then 0 else r x+1)
 rw [if_neg (by omega:¬ waitsP M x<0)]
 by_cases hy:waitsP M (holdsP M k)<0
 ·rw [if_pos hy];omega
 ·rw [if_neg hy]
  have hne:=tail_ne hx
  have hmem:=mem_of_waits (T:=M) (x:=holdsP M k) (by omega)
  have hheadT:holdsP M k∈T k:=(hs k).subset (head_mem hne)
  have hTk:T k≠[]:=fun e=>by rw [e] at hheadT;simp at hheadT
  obtain⟨a,l,hal⟩:∃ a l,T k=a::l:=by
   cases hT:T k with
   | nil=>exact (hTk hT).elim
   | cons a l=>exact⟨a,l,rfl⟩
  rw [hal] at hheadT
  rcases List.mem_cons.1 hheadT with e | e
  ·have:r (holdsP T k)<r x:=hr k x ((ht k).subset hx)
   have e2:holdsP T k=holdsP M k:=by rw [e];simp [holdsP,hal]
   rw [e2] at this
   omega
  ·have h1:holdsP M k∈(T k).tail:=by rw [hal];exact e
   have h2:=h.tidy.one _ _ _ ((ht _).subset hmem) h1
   rw [h2] at hmem
   rcases head_not_tail (hnod k) with h3 | h3
   ·exact (h3 hmem).elim
   ·exact (hne h3).elim
def reachP (T:Tab) (tx:Int):Nat→Int→Bool
 | 0,_=>false
 | n+1,x=>if waitsP T x<0 then false else if holdsP T (waitsP T x)=tx then true else reachP T tx n (holdsP T (waitsP T x))
theorem closed_of_reach {T:Tab} {tx:Int} {r:Int→Nat} (hr:Ranked T r):∀ (n:Nat) (x:Int),r x<n→x≠tx→reachP T tx n x=false →
  ∃ C:Int→Prop,C x∧¬ C tx∧∀ u,C u→0≤waitsP T u→C (holdsP T (waitsP T u))
 | 0,_,h,_,_=>by omega
 | n+1,x,h,hne,hf=>by
  by_cases hw:waitsP T x<0
  ·exact⟨fun u=>u=x,rfl,fun e=>hne e.symm,fun u hu h0=>by cases hu;omega⟩
  ·rw [reachP,if_neg hw] at hf
   by_cases hy:holdsP T (waitsP T x)=tx
   ·rw [if_pos hy] at hf;cases hf
   ·rw [if_neg hy] at hf
    have hlt:=hr _ _ (mem_of_waits (T:=T) (x:=x) (by omega))
    obtain⟨C,c1,c2,c3⟩:=closed_of_reach hr n _ (by omega) hy hf
    refine⟨fun u=>u=x∨C u,.inl rfl,fun e=>e.elim (fun e=>hne e.symm) c2,fun u hu h0=>?_⟩
    rcases hu with rfl | hu
    ·exact .inr c1
    ·exact .inr (c3 u hu h0)
theorem Good.wait {T:Tab} {r:Int→Nat} {tx k:Int} (h:Good T) (hr:Ranked T r) (hk:T k≠[]) (htx:1≤tx∧tx≤9223372036854775807) (hw:waitsP T tx<0) (hh:holdsP T k≠tx)
  (hc:reachP T tx (r (holdsP T k)+1) (holdsP T k)=false):Good (updT T k (T k++[tx])):=by
 have hno:=waits_none h.tidy hw
 obtain⟨a,l,hal⟩:∃ a l,T k=a::l:=by
  cases hT:T k with
  | nil=>exact (hk hT).elim
  | cons a l=>exact⟨a,l,rfl⟩
 have hha:holdsP T k=a:=by simp [holdsP,hal]
 have hnot:tx∉T k:=by
  rw [hal]
  intro hm
  rcases List.mem_cons.1 hm with e | e
  ·exact hh (by rw [hha,e])
  ·exact hno k (by rw [hal];exact e)
 have htail:(T k++[tx]).tail=(T k).tail++[tx]:=by rw [hal];simp
 have hsame:∀ j,holdsP (updT T k (T k++[tx])) j=holdsP T j:=by
  intro j
  by_cases e:j=k
  ·subst e;simp [holdsP,updT_same,hal]
  ·simp [holdsP,updT_other _ _ e]
 have hmem:∀ j x,x∈(updT T k (T k++[tx]) j).tail→x∈(T j).tail∨(j=k∧x=tx):=by
  intro j x hx
  by_cases e:j=k
  ·subst e
   rw [updT_same,htail,List.mem_append,List.mem_singleton] at hx
   exact hx.imp id (fun e=>⟨rfl,e⟩)
  ·rw [updT_other _ _ e] at hx
   exact .inl hx
 refine⟨⟨fun j hj=>?_,fun j x hx=>?_,fun j=>?_,fun j i x hx hy=>?_⟩,?_⟩
 ·by_cases e:j=k
  ·subst e;exact h.tidy.rng j hk
  ·rw [updT_other _ _ e] at hj;exact h.tidy.rng j hj
 ·by_cases e:j=k
  ·subst e
   rw [updT_same,List.mem_append,List.mem_singleton] at hx
   rcases hx with hx | rfl
   ·exact h.tidy.pos j x hx
   ·exact htx
  ·rw [updT_other _ _ e] at hx;exact h.tidy.pos j x hx
 ·by_cases e:j=k
  ·subst e
   rw [updT_same]
   refine List.nodup_append.2 ⟨h.tidy.nod j,by simp,fun a ha b hb e=>?_⟩
   rw [List.mem_singleton] at hb
   subst hb
   subst e
   exact hnot ha
  ·rw [updT_other _ _ e];exact h.tidy.nod j
 ·rcases hmem j x hx with h1 | ⟨rfl,rfl⟩<;>rcases hmem i x hy with h2 | ⟨h3,h4⟩
  ·exact h.tidy.one j i x h1 h2
  ·subst h4;exact (hno _ h1).elim
  ·exact (hno _ h2).elim
  ·exact h3.symm
 ·obtain⟨C,c1,c2,c3⟩:=closed_of_reach hr (r (holdsP T k)+1) (holdsP T k) (by omega) hh hc
  refine Classical.byCases (p:=True) (fun _=>?_) (fun h=>(h trivial).elim)
  have dec:∀ x,Decidable (C x):=fun x=>Classical.propDecidable _
  refine⟨fun x=>@ite _ (C x) (dec x) (r x) (r x+(r (holdsP T k)+1)),fun j x hx=>?_⟩
  rw [hsame]
  rcases hmem j x hx with h1 | ⟨rfl,rfl⟩
  ·have hlt:=hr j x h1
   by_cases cx:C x
   ·have hwx:=waits_of_mem h.tidy h1
    have cy:=c3 x cx (by rw [hwx];exact (h.tidy.key h1).1)
    rw [hwx] at cy
    simp only [cx,cy,if_true]
    exact hlt
   ·by_cases cy:C (holdsP T j)
    ·simp only [cx,cy,if_true,if_false];omega
    ·simp only [cx,cy,if_false];omega
  ·simp only [c1,c2,if_true,if_false];omega
theorem Good.hold {T:Tab} {tx k:Int} (h:Good T) (hk:T k=[]) (hkr:0≤k∧k<10) (htx:1≤tx∧tx≤9223372036854775807):Good (updT T k [tx]):=by
 have hmem:∀ j x,x∈(updT T k [tx] j).tail→j≠k∧x∈(T j).tail:=by
  intro j x hx
  by_cases e:j=k
  ·subst e;rw [updT_same] at hx;simp at hx
  ·rw [updT_other _ _ e] at hx;exact⟨e,hx⟩
 refine⟨⟨fun j hj=>?_,fun j x hx=>?_,fun j=>?_,fun j i x hx hy=>h.tidy.one j i x (hmem j x hx).2 (hmem i x hy).2⟩,?_⟩
 ·by_cases e:j=k
  ·subst e;exact hkr
  ·rw [updT_other _ _ e] at hj;exact h.tidy.rng j hj
 ·by_cases e:j=k
  ·subst e;rw [updT_same,List.mem_singleton] at hx;subst hx;exact htx
  ·rw [updT_other _ _ e] at hx;exact h.tidy.pos j x hx
 ·by_cases e:j=k
  ·subst e;rw [updT_same];simp
  ·rw [updT_other _ _ e];exact h.tidy.nod j
 ·obtain⟨r,hr⟩:=h.rank
  refine⟨r,fun j x hx=>?_⟩
  have:=hmem j x hx
  have e:holdsP (updT T k [tx]) j=holdsP T j:=by simp [holdsP,updT_other _ _ this.1]
  rw [e]
  exact hr j x this.2
def askP (T:Tab) (r:Int→Nat) (tx key:Int):Bool × Int × Tab :=
 if ¬ (0≤key∧key<10∧1≤tx) then (false,2,T)
 else if 0≤waitsP T tx then (false,6,T)
 else if holdsP T key=tx then (true,0,T)
 else if T key=[] then (true,0,updT T key [tx])
 else if reachP T tx (r (holdsP T key)+1) (holdsP T key)=true then (false,11,T)
 else (false,0,updT T key (T key++[tx]))
theorem Good.ask {T:Tab} {r:Int→Nat} (h:Good T) (hr:Ranked T r) (tx key:Int) (ht:tx≤9223372036854775807):Good (askP T r tx key).2.2:=by
 unfold askP
 split
 ·exact h
 ·rename_i h1
  have h1:0≤key∧key<10∧1≤tx:=Classical.not_not.1 h1
  split
  ·exact h
  ·rename_i h2
   split
   ·exact h
   ·rename_i h3
    split
    ·rename_i h4;exact h.hold h4 ⟨h1.1,h1.2.1⟩ ⟨h1.2.2,ht⟩
    ·rename_i h4
     split
     ·exact h
     ·rename_i h5;exact h.wait hr h4 ⟨h1.2.2,ht⟩ (by omega) h3 (by simpa using h5)
def dropP (T:Tab) (tx:Int):Tab:=fun k=>(T k).filter (fun x=>x != tx)
theorem Good.drop {T:Tab} (h:Good T) (tx:Int):Good (dropP T tx):=h.sub (fun _=>List.filter_sublist)
def outOf (T:Tab) (tx k:Int):List (Int × Int):=if holdsP T k=tx∧dropP T tx k≠[] then [(k,holdsP (dropP T tx) k)] else []
def outP (T:Tab) (tx:Int):List (Int × Int):=keysP.flatMap (outOf T tx)
end Go.Proofs.YtjefgmeejhakbabGreatDoor
namespace Go.Proofs.YtjefgmeejhakbabGreatDoor
open Go.RowKit
open Go.Maps (Keyed)
def anyElem (v:Value):Option (DataW Value × List MemPlace):=some (.held v,[])
def IMap (w:World) (b n:Nat) (f:Int→Option Value):Prop :=
 ∃ D:DataW Value,w.ownsMap Tryz.prog 3 anyElem b n D∧∀ a:Int,Maps.has D (.int .i64 a)=(f a).isSome∧∀ v,f a=some v→∀ z,D.atKey (.int .i64 a) z=.held v
theorem lawI:Keyed Tryz.prog 3:=Maps.int_keyed Tryz.underlying3
def I64 (a:Int):Prop:=-9223372036854775808≤a∧a≤9223372036854775807
theorem keyI {a:Int} (h:I64 a):keyOf Tryz.prog 3 (.int .i64 a)=some (.int .i64 a):=Maps.keyOf_int_mk Tryz.underlying3 (WalkArith.wf_i64 (by unfold I64 at h;omega))
theorem litNe {a b:Int} (h:a≠b):Lit.int .i64 a≠Lit.int .i64 b:=fun e=>h (by injection e)
theorem litKey (a:Int):WideAt.IsKeyLit (.int .i64 a):=trivial
section
variable {w:World} {b n:Nat} {f:Int→Option Value}
theorem IMap.mono (h:IMap w b n f) {n':Nat} (hn:n≤n'):IMap w b n' f:=by
 obtain⟨D,h1,h2⟩:=h
 exact⟨D,h1.mono hn,h2⟩
theorem IMap.lt (h:IMap w b n f):b<w.heap.size:=by
 obtain⟨D,h1,_⟩:=h
 exact h1.lt
theorem IMap.same {w':World} (h:IMap w b n f) (hs:w'.heap[b]?=w.heap[b]?):IMap w' b n f:=by
 obtain⟨D,⟨es,clock,hb,r⟩,h2⟩:=h
 exact⟨D,⟨es,clock,hs.trans hb,r⟩,h2⟩
theorem IMap.ne (h:IMap w b n f) {g:Nat} {cs:Array Value} {t:TypeId} {fr:Nat × Nat} (hg:w.heap[g]?=some (.cells cs t fr)):b≠g:=by
 rintro rfl
 obtain⟨D,⟨es,clock,hb,r⟩,h2⟩:=h
 rw [hb] at hg
 cases hg
theorem IMap.made (w:World):IMap (w.alloc (.map #[] 0)) w.heap.size 0 (fun _=>none) :=
 ⟨.map [],World.ownsMap_made w _ _ _,fun a=>⟨rfl,fun v h=>by cases h⟩⟩
theorem IMap.look (h:IMap w b n f) {t e:TypeId} (ht:Tryz.prog.underlying t=some (.map 3 e)) {z:Value} (hz:(zeroValue e).run Tryz.prog w=.ok z w) {a:Int} (ha:I64 a) :
  (Instr.lookup t (.map (some b)) (.int .i64 a) true).run Tryz.prog w=.ok (.tuple #[(f a).getD z,.bool (f a).isSome]) w:=by
 obtain⟨D,h1,h2⟩:=h
 obtain⟨v,ps,hr,hv⟩:=h1.look_ok lawI ht hz (zd:=.held z) (zp:=[]) rfl (keyI ha)
 rw [hr,(h2 a).1]
 simp only [anyElem,Option.some.injEq,Prod.mk.injEq] at hv
 have e:v=(f a).getD z:=by
  cases hf:f a with
  | none =>
   have:=Maps.atKey_of_not_has (D:=D) (k:=.int .i64 a) (by rw [(h2 a).1,hf];rfl) (.held z)
   rw [this] at hv
   injection hv.1
  | some u =>
   rw [(h2 a).2 u hf] at hv
   injection hv.1
 rw [e]
theorem IMap.look1 (h:IMap w b n f) {t e:TypeId} (ht:Tryz.prog.underlying t=some (.map 3 e)) {z:Value} (hz:(zeroValue e).run Tryz.prog w=.ok z w) {a:Int} (ha:I64 a) :
  (Instr.lookup t (.map (some b)) (.int .i64 a) false).run Tryz.prog w=.ok ((f a).getD z) w:=by
 obtain⟨D,h1,h2⟩:=h
 obtain⟨v,ps,hr,hv⟩:=h1.lookup lawI ht hz (zd:=.held z) (zp:=[]) rfl (keyI ha)
 rw [hr]
 simp only [anyElem,Option.some.injEq,Prod.mk.injEq] at hv
 have e:v=(f a).getD z:=by
  cases hf:f a with
  | none =>
   have:=Maps.atKey_of_not_has (D:=D) (k:=.int .i64 a) (by rw [(h2 a).1,hf];rfl) (.held z)
   rw [this] at hv
   injection hv.1
  | some u =>
   rw [(h2 a).2 u hf] at hv
   injection hv.1
 rw [e]
theorem IMap.store (h:IMap w b n f) {t e:TypeId} (ht:Tryz.prog.underlying t=some (.map 3 e)) (hn:n<maxLen) {a:Int} (ha:I64 a) (v:Value) :
  ∃ w',(Instr.mapUpdate t (.map (some b)) (.int .i64 a) v).run Tryz.prog w=.ok () w'∧IMap w' b (n+1) (updT f a (some v))∧w.grownBy w' (some b):=by
 obtain⟨D,h1,h2⟩:=h
 obtain⟨w',hr,h3,h4⟩:=h1.update lawI ht hn (keyI ha) (val:=v) (d:=.held v) (ps:=[]) rfl
 refine⟨w',hr,⟨_,h3,fun c=>?_⟩,h4⟩
 by_cases e:c=a
 ·subst e
  rw [updT_same]
  exact⟨Maps.has_put_same h1.isMap (litKey c) _,fun u hu z=>by cases hu;exact Maps.atKey_put_same h1.isMap (litKey c) _ z⟩
 ·rw [updT_other _ _ e]
  exact⟨(Maps.has_put_other (litNe e) _).trans (h2 c).1,fun u hu z=>(Maps.atKey_put_other (litNe e) _ z).trans ((h2 c).2 u hu z)⟩
theorem IMap.del (h:IMap w b n f) {t e:TypeId} (ht:Tryz.prog.underlying t=some (.map 3 e)) {a:Int} (ha:I64 a) (ty:TypeId) :
  ∃ w',(Builtin.delete_ #[t,3] ty #[.map (some b),.int .i64 a]).run Tryz.prog w=.ok (.tuple #[]) w'∧IMap w' b n (updT f a none)∧w.grownBy w' (some b):=by
 obtain⟨D,h1,h2⟩:=h
 obtain⟨w',hr,h3,h4⟩:=h1.drop lawI ht (keyI ha) ty
 refine⟨w',hr,⟨_,h3,fun c=>?_⟩,h4.grown⟩
 by_cases e:c=a
 ·subst e
  rw [updT_same]
  exact⟨Maps.has_del_same,fun u hu=>by cases hu⟩
 ·rw [updT_other _ _ e]
  exact⟨(Maps.has_del_other (litNe e)).trans (h2 c).1,fun u hu z=>(Maps.atKey_del_other (litNe e) z).trans ((h2 c).2 u hu z)⟩
end
section
variable {P:Program} {w w':World} {ops:Array Oper} {rest:List Oper} {o:Oper} {a:Act} {K:Act→World→Prop} {Q:Exit→Act→World→Prop} {E:Prop}
theorem step_del (hgd:o.guard=none) (m x:Operand) (t k:TypeId) (hop:o.op=Op.call { callee:=Callee.builtin Builtin.delete,args:=#[m,x],argTypes:=#[t,k] }) (mv key:Value) (hm:a.eval m=mv) (hx:a.eval x=key)
  (hrun:(Builtin.delete_ #[t,k] o.type #[mv,key]).run P w=.ok (.tuple #[]) w') (hK:K (a.put o.dst (.tuple #[])) w'):if Region.wanted o (yielded ops a.tmps)=true then Oper.wp P o a w K Q else E:=by
 have hw:Region.wanted o (yielded ops a.tmps)=true:=by simp [Region.wanted,hgd]
 rw [if_pos hw]
 unfold Oper.wp
 simp [execOp,hop,resolve,invoke,builtin,hm,hx,hrun,Result.andThen]
 exact hK
theorem wpList_del (hgd:o.guard=none) (m x:Operand) (t k:TypeId) (hop:o.op=Op.call { callee:=Callee.builtin Builtin.delete,args:=#[m,x],argTypes:=#[t,k] }) (mv key:Value) (hm:a.eval m=mv) (hx:a.eval x=key)
  (hrun:(Builtin.delete_ #[t,k] o.type #[mv,key]).run P w=.ok (.tuple #[]) w') (hK:wpList P ops Q rest (a.put o.dst (.tuple #[])) w'):wpList P ops Q (o::rest) a w:=by
 refine wpList_plain hgd fun K' hK'=>?_
 unfold Oper.wp
 simp [execOp,hop,resolve,invoke,builtin,hm,hx,hrun,Result.andThen]
 exact hK' _ _ hK
end
def MapIs (w:World) (mv:Option Nat) (n:Nat) (f:Int→Option Value):Prop:=(mv=none∧∀ a,f a=none)∨∃ b,mv=some b∧IMap w b n f
section
variable {w:World} {mv:Option Nat} {n:Nat} {f:Int→Option Value}
theorem MapIs.mono (h:MapIs w mv n f) {n':Nat} (hn:n≤n'):MapIs w mv n' f:=by
 rcases h with h | ⟨b,e,h⟩
 ·exact .inl h
 ·exact .inr ⟨b,e,h.mono hn⟩
theorem MapIs.lt (h:MapIs w mv n f) {b:Nat} (e:mv=some b):b<w.heap.size:=by
 rcases h with h | ⟨b',e',h⟩
 ·rw [h.1] at e;cases e
 ·rw [e'] at e;cases e;exact h.lt
theorem MapIs.same {w':World} (h:MapIs w mv n f) (hs:∀ b,mv=some b→w'.heap[b]?=w.heap[b]?):MapIs w' mv n f:=by
 rcases h with h | ⟨b,e,h⟩
 ·exact .inl h
 ·exact .inr ⟨b,e,h.same (hs b e)⟩
theorem MapIs.ne (h:MapIs w mv n f) {g:Nat} {cs:Array Value} {t:TypeId} {fr:Nat × Nat} (hg:w.heap[g]?=some (.cells cs t fr)):mv≠some g:=by
 rintro rfl
 rcases h with h | ⟨b,e,h⟩
 ·cases h.1
 ·cases e;exact h.ne hg rfl
theorem MapIs.at {b:Nat} (h:MapIs w (some b) n f):IMap w b n f:=by
 rcases h with h | ⟨b',e,h⟩
 ·cases h.1
 ·cases e;exact h
theorem MapIs.imap (h:MapIs w mv n f) {a:Int} (ha:f a≠none):∃ b,mv=some b∧IMap w b n f:=by
 rcases h with h | h
 ·exact (ha (h.2 a)).elim
 ·exact h
theorem MapIs.look (h:MapIs w mv n f) {t e:TypeId} (ht:Tryz.prog.underlying t=some (.map 3 e)) {z:Value} (hz:(zeroValue e).run Tryz.prog w=.ok z w) {a:Int} (ha:I64 a) :
  (Instr.lookup t (.map mv) (.int .i64 a) true).run Tryz.prog w=.ok (.tuple #[(f a).getD z,.bool (f a).isSome]) w:=by
 rcases h with ⟨rfl,h⟩ | ⟨b,rfl,h⟩
 ·rw [h a];exact Maps.look_nil true lawI ht hz (keyI ha)
 ·exact h.look ht hz ha
theorem MapIs.look1 (h:MapIs w mv n f) {t e:TypeId} (ht:Tryz.prog.underlying t=some (.map 3 e)) {z:Value} (hz:(zeroValue e).run Tryz.prog w=.ok z w) {a:Int} (ha:I64 a) :
  (Instr.lookup t (.map mv) (.int .i64 a) false).run Tryz.prog w=.ok ((f a).getD z) w:=by
 rcases h with ⟨rfl,h⟩ | ⟨b,rfl,h⟩
 ·rw [h a];exact Maps.look_nil false lawI ht hz (keyI ha)
 ·exact h.look1 ht hz ha
end
end Go.Proofs.YtjefgmeejhakbabGreatDoor
namespace Go.Proofs.YtjefgmeejhakbabGreatDoor
open Go.RowKit
def Handle (w:World):Prop:=w.cell? ⟨0,0,none⟩=some (.iface 310 (.agg #[.pointer (some ⟨9,27,none⟩)]))
theorem Handle.pos {w:World} (h:Handle w):0<w.heap.size:=by
 rcases Nat.eq_zero_or_pos w.heap.size with h0 | h1
 ·simp [Handle,World.cell?,h0] at h
 ·exact h1
theorem Handle.below {w w':World} {B:Nat} (h:Handle w) (hB:Below B w w') (hp:0<B):Handle w':=(hB.cell (p:=⟨0,0,none⟩) hp).trans h
set_option maxHeartbeats 1000000 in
theorem tell_nil (w:World):Calls Tryz.prog 32 #[.nilIface] w fun e w'=>e=.returned (.int .i64 0)∧w'=w:=by
 go_enter Tryz.func32,Tryz.ntmps32
 go_wp2
 go_ret
 exact⟨rfl,rfl⟩
set_option maxHeartbeats 1000000 in
theorem tell_errno (n:Int) (w:World) (hg:Handle w):Calls Tryz.prog 32 #[.iface 33 (.int .i64 n)] w fun e w'=>e=.returned (.int .i64 n)∧Below w.heap.size w w':=by
 have hp:=hg.pos
 have hg1:(w.alloc (.cells #[.int .i64 0] 33)).cell? ⟨0,0,none⟩=some (.iface 310 (.agg #[.pointer (some ⟨9,27,none⟩)])):=(World.cell?_alloc_lt _ _ ⟨0,0,none⟩ hp).trans hg
 have HG:Hid _:=hg1
 clear hg hg1
 go_enter Tryz.func32,Tryz.ntmps32
 go_wp2_with (go_at_call 93;refine (as_hit n ⟨w.heap.size,0,none⟩ (.int .i64 0) _ HG.out (cell_one_new w _ _ 0 _ rfl) (by simp)).mono ?_;rintro e w' ⟨rfl,rfl⟩)
 go_ret
 refine⟨rfl,?_⟩
 exact (((((Below.refl _ w).alloc (Nat.le_refl _) _).alloc (by simp) _).alloc (by simp;omega) _).alloc (by simp;omega) _).alloc (by simp;omega) _
end Go.Proofs.YtjefgmeejhakbabGreatDoor
namespace Go.Proofs.YtjefgmeejhakbabGreatDoor
open Go.RowKit
theorem vrow_one:∀ (l:List (Int × Int)),∀ u∈vrow l,u.oneCell'=true
 | [],u,h=>by simp [vrow] at h
 | (x,y)::r,u,h=>by
  simp only [vrow,List.mem_cons] at h
  rcases h with rfl | rfl | h
  ·rfl
  ·rfl
  ·exact vrow_one r u h
theorem vrow_drop:∀ (l:List (Int × Int)) (m:Nat),(vrow l).drop (m*2)=vrow (l.drop m)
 | l,0=>by simp
 | [],m+1=>by simp [vrow]
 | (x,y)::r,m+1=>by
  rw [show (m+1)*2=m*2+1+1 from by omega]
  simpa [vrow] using vrow_drop r m
theorem vers_of_owns {w:World} {base:Nat} {v:Value} {l:List (Int × Int)} (h:w.ownsRow base 198 2 v l.length (vrow l)):Vers w.heap.size w v l:=by
 rcases h.2 with ⟨hv,hn⟩ | ⟨g,cap,cur,hv,hb,hg,hr⟩
 ·exact .inl ⟨hv,List.eq_nil_of_length_eq_zero hn⟩
 ·refine .inr ⟨g,cap,hv,(Array.getElem?_eq_some_iff.1 hg).1,fun j a x e=>?_⟩
  have hc:=h.cells (g:=g) (by rw [hv];rfl)
  have hx:=vrow_get l j a x e
  have h1:=hc (j*2) _ hx.1
  have h2:=hc (j*2+1) _ hx.2
  rw [addr_add] at h1 h2
  exact⟨h1,h2⟩
structure Tail where
 post:List Value
 tt:TypeId
def Tail.cells (P:Tail) (last:Int) (vs:List Value):Array Value:=(Value.int .i64 last::(vs++P.post)).toArray
theorem Tail.get0 (P:Tail) (last:Int) (vs:List Value):(P.cells last vs)[0]?=some (.int .i64 last):=by unfold Tail.cells;simp
theorem Tail.getk (P:Tail) (last:Int) {vs:List Value} {k:Nat} {v:Value} (hv:vs[k]?=some v):(P.cells last vs)[1+k]?=some v:=by
 unfold Tail.cells
 rw [Nat.add_comm]
 simp only [List.getElem?_toArray,List.getElem?_cons_succ]
 rw [List.getElem?_append_left (List.getElem?_eq_some_iff.1 hv).1,hv]
theorem Tail.set0 (P:Tail) (last t:Int) (vs:List Value):(P.cells last vs).setIfInBounds 0 (.int .i64 t)=P.cells t vs:=by unfold Tail.cells;simp
theorem Tail.setk (P:Tail) (last:Int) {vs:List Value} {k:Nat} (hk:k<vs.length) (v:Value):(P.cells last vs).setIfInBounds (1+k) v=P.cells last (vs.set k v):=by
 unfold Tail.cells
 rw [Nat.add_comm]
 simp only [List.setIfInBounds_toArray,List.set_cons_succ]
 rw [List.set_append_left _ _ hk]
variable {P:Tail}
structure Sto (P:Tail) (w:World) (base s:Nat) (last:Int) (vs:List Value) (ks:List (List (Int × Int))):Prop where
 blk:w.heap[s]?=some (.cells (P.cells last vs) P.tt (0,0))
 lv:vs.length=10
 lk:ks.length=10
 own:∀ (k:Nat) (v:Value) (l:List (Int × Int)),vs[k]?=some v→ks[k]?=some l→w.ownsRow base 198 2 v l.length (vrow l)
 apart:∀ (i j:Nat) (v u:Value) (g:Nat),vs[i]?=some v→vs[j]?=some u→v.ownBlock=some g→u.ownBlock=some g→i=j
 sb:s<base
def InRows (vs:List Value) (b:Nat):Prop:=∃ v∈vs,v.ownBlock=some b
structure Kept (s:Nat) (vs vs':List Value) (w w':World):Prop where
 os:w'.os=w.os
 tape:w'.tape=w.tape
 output:w'.output=w.output
 size:w.heap.size≤w'.heap.size
 block:∀ b,b<w.heap.size→b≠s→¬ InRows vs b→w'.heap[b]?=w.heap[b]?
 sub:∀ g,InRows vs' g→InRows vs g∨w.heap.size≤g
theorem Kept.trans {s:Nat} {vs vs' vs'':List Value} {a b c:World} (h:Kept s vs vs' a b) (k:Kept s vs' vs'' b c):Kept s vs vs'' a c :=
 ⟨k.os.trans h.os,k.tape.trans h.tape,k.output.trans h.output,Nat.le_trans h.size k.size,
  fun i hi hs hn=>(k.block i (Nat.lt_of_lt_of_le hi h.size) hs (fun hr=>(h.sub i hr).elim hn (fun e=>by omega))).trans (h.block i hi hs hn),
  fun g hg=>(k.sub g hg).elim (h.sub g) (fun e=>.inr (Nat.le_trans h.size e))⟩
theorem Kept.refl (s:Nat) (vs:List Value) (w:World):Kept s vs vs w w:=⟨rfl,rfl,rfl,Nat.le_refl _,fun _ _ _ _=>rfl,fun _ h=>.inl h⟩
theorem Kept.of_below {s:Nat} {vs:List Value} {w w':World} (h:Below w.heap.size w w'):Kept s vs vs w w' :=
 ⟨h.os,h.tape,h.output,h.size,fun b hb _ _=>h.block b hb,fun _ h=>.inl h⟩
theorem Sto.lt {w:World} {base s:Nat} {last:Int} {vs:List Value} {ks:List (List (Int × Int))} (h:Sto P w base s last vs ks):s<w.heap.size:=(Array.getElem?_eq_some_iff.1 h.blk).1
theorem Sto.row {w:World} {base s:Nat} {last:Int} {vs:List Value} {ks:List (List (Int × Int))} (h:Sto P w base s last vs ks) {g:Nat} (hg:InRows vs g):base≤g∧g<w.heap.size:=by
 obtain⟨v,hv,hg⟩:=hg
 obtain⟨k,hk,rfl⟩:=List.mem_iff_getElem.1 hv
 have hl:k<ks.length:=by have:=h.lv;have:=h.lk;omega
 exact (h.own k _ ks[k] (List.getElem?_eq_getElem hk) (List.getElem?_eq_getElem hl)).lt g hg
theorem Sto.kept {w w':World} {base s:Nat} {last:Int} {vs:List Value} {ks:List (List (Int × Int))} (h:Sto P w base s last vs ks)
  (hs:w'.heap[s]?=w.heap[s]?) (hr:∀ g,InRows vs g→w'.heap[g]?=w.heap[g]?):Sto P w' base s last vs ks :=
 ⟨hs.trans h.blk,h.lv,h.lk,fun k v l hv hl=>by
  have ho:=h.own k v l hv hl
  refine⟨ho.1,?_⟩
  rcases ho.2 with hn | ⟨g,cap,cur,e,hb,hg,r⟩
  ·exact .inl hn
  ·exact .inr ⟨g,cap,cur,e,hb,(hr g ⟨v,List.mem_of_getElem? hv,by rw [e];rfl⟩).trans hg,r⟩,h.apart,h.sb⟩
theorem Sto.below {w w':World} {base s:Nat} {last:Int} {vs:List Value} {ks:List (List (Int × Int))} (h:Sto P w base s last vs ks) (hB:Below w.heap.size w w'):Sto P w' base s last vs ks :=
 h.kept (hB.block s h.lt) (fun g hg=>hB.block g (h.row hg).2)
theorem Sto.cell {w:World} {base s:Nat} {last:Int} {vs:List Value} {ks:List (List (Int × Int))} (h:Sto P w base s last vs ks) {k:Nat} {v:Value} (hv:vs[k]?=some v):w.cell? ⟨s,1+k,none⟩=some v:=(cell_of_row w s (1+k) _ P.tt (0,0) h.blk).trans (P.getk last hv)
theorem Sto.cellLast {w:World} {base s:Nat} {last:Int} {vs:List Value} {ks:List (List (Int × Int))} (h:Sto P w base s last vs ks):w.cell? ⟨s,0,none⟩=some (.int .i64 last):=(cell_of_row w s 0 _ P.tt (0,0) h.blk).trans (P.get0 last vs)
theorem Sto.free {w:World} {base s:Nat} {last:Int} {vs:List Value} {ks:List (List (Int × Int))} (h:Sto P w base s last vs ks) (o:Nat):w.frozen? ⟨s,o,none⟩=false:=by
 simp [World.frozen?,h.blk]
end Go.Proofs.YtjefgmeejhakbabGreatDoor
namespace Go.Proofs
open Go.Shelf
def Tryz.l10_ren:Go.Shelf.Ren:=⟨fun | 10=>369 | 6=>379 | n=>n,fun | 22=>54 | 23=>3 | 25=>325 | 3=>3 | 4=>4 | 0=>0 | n=>n,fun | n=>n⟩
theorem Tryz.l10:Go.Proofs.SlLaysH.n10 Tryz.prog Tryz.l10_ren:={
  mixed:=by kernel_rfl
  f6:=⟨Tryz.f379.name,by decide,Tryz.func379.trans (congrArg some (by kernel_rfl))⟩
  f10:=⟨Tryz.f369.name,by decide,Tryz.func369.trans (congrArg some (by kernel_rfl))⟩
  t0:=Tryz.underlying0
  a0:=Tryz.isAgg0
  z0:=Tryz.sizeOf0
  v0:=Tryz.zeroValue0
  t3:=Tryz.underlying3
  a3:=Tryz.isAgg3
  z3:=Tryz.sizeOf3
  v3:=Tryz.zeroValue3
  t4:=Tryz.underlying4
  a4:=Tryz.isAgg4
  z4:=Tryz.sizeOf4
  v4:=Tryz.zeroValue4
  t22:=Tryz.underlying54
  a22:=Tryz.isAgg54
  z22:=Tryz.sizeOf54
  v22:=Tryz.zeroValue54
  a23:=Tryz.isAgg3
  z23:=Tryz.sizeOf3
  t25:=Tryz.underlying325
  a25:=Tryz.isAgg325
  z25:=Tryz.sizeOf325
  v25:=Tryz.zeroValue325 }
end Go.Proofs
namespace Go.Proofs.YtjefgmeejhakbabGreatDoor
open Go.RowKit
structure KeptO (o o':Nat→Prop) (w w':World):Prop where
 os:w'.os=w.os
 tape:w'.tape=w.tape
 output:w'.output=w.output
 size:w.heap.size≤w'.heap.size
 block:∀ b,b<w.heap.size→¬ o b→w'.heap[b]?=w.heap[b]?
 sub:∀ g,o' g→o g∨w.heap.size≤g
theorem KeptO.trans {o o' o'':Nat→Prop} {a b c:World} (h:KeptO o o' a b) (k:KeptO o' o'' b c):KeptO o o'' a c :=
 ⟨k.os.trans h.os,k.tape.trans h.tape,k.output.trans h.output,Nat.le_trans h.size k.size,
  fun i hi hn=>(k.block i (Nat.lt_of_lt_of_le hi h.size) (fun hr=>(h.sub i hr).elim hn (fun e=>by omega))).trans (h.block i hi hn),
  fun g hg=>(k.sub g hg).elim (h.sub g) (fun e=>.inr (Nat.le_trans h.size e))⟩
theorem KeptO.refl (o:Nat→Prop) (w:World):KeptO o o w w:=⟨rfl,rfl,rfl,Nat.le_refl _,fun _ _ _=>rfl,fun _ h=>.inl h⟩
theorem KeptO.of_below {o:Nat→Prop} {w w':World} (h:Below w.heap.size w w'):KeptO o o w w' :=
 ⟨h.os,h.tape,h.output,h.size,fun b hb _=>h.block b hb,fun _ h=>.inl h⟩
theorem KeptO.below {B:Nat} {o o':Nat→Prop} {w w':World} (h:KeptO o o' w w') (hB:B≤w.heap.size) (hs:∀ b,o b→B≤b):Below B w w' :=
 ⟨h.os,h.tape,h.output,h.size,fun k hk=>h.block k (by omega) (fun e=>by have:=hs k e;omega)⟩
theorem KeptO.drewN {o o':Nat→Prop} {a w:World} (h:KeptO o o' a w):∀ q,KeptO o o' a (w.drewN q)
 | 0=>h
 | q+1=>⟨(h.drewN q).os,(h.drewN q).tape,(h.drewN q).output,(h.drewN q).size,(h.drewN q).block,(h.drewN q).sub⟩
theorem getD_int (o:Option Int) (d:Int):(o.map (Value.int .i64)).getD (.int .i64 d)=.int .i64 (o.getD d):=by cases o<;>rfl
theorem eqlSome (b:Nat) (w:World):(binOp .eql 131 (.map (some b)) (.map none)).run Tryz.prog w=.ok (.bool false) w:=by kernel_rfl
theorem eqlNil (w:World):(binOp .eql 131 (.map none) (.map none)).run Tryz.prog w=.ok (.bool true) w:=by kernel_rfl
theorem zeroI (w:World):(zeroValue 3).run Tryz.prog w=.ok (.int .i64 0) w:=by kernel_rfl
theorem zeroL (w:World):(zeroValue 54).run Tryz.prog w=.ok (.slice none 0 0) w:=by kernel_rfl
theorem updT_map (h:Int→Option Int) (k:Int) (v:Option Int):(fun j=>(updT h k v j).map (Value.int .i64))=updT (fun j=>(h j).map (Value.int .i64)) k (v.map (Value.int .i64)):=by
 funext j
 by_cases e:j=k
 ·subst e;simp [updT_same]
 ·simp [updT_other _ _ e]
end Go.Proofs.YtjefgmeejhakbabGreatDoor
namespace Go.Proofs.YtjefgmeejhakbabGreatDoor
open Go.RowKit
structure Emb where
 pre:List Value
 post:List Value
 tt:TypeId
 ne:tt≠3
def Emb.o (C:Emb):Nat:=C.pre.length
def Emb.cells (C:Emb) (a b c:Value):Array Value:=(C.pre++a::b::c::C.post).toArray
theorem Emb.get0 (C:Emb) (a b c:Value):(C.cells a b c)[C.o]?=some a:=by unfold Emb.cells Emb.o;simp
theorem Emb.get1 (C:Emb) (a b c:Value):(C.cells a b c)[C.o+1]?=some b:=by unfold Emb.cells Emb.o;simp
theorem Emb.get2 (C:Emb) (a b c:Value):(C.cells a b c)[C.o+2]?=some c:=by unfold Emb.cells Emb.o;simp
theorem Emb.set0 (C:Emb) (a b c v:Value):(C.cells a b c).setIfInBounds C.o v=C.cells v b c:=by unfold Emb.cells Emb.o;simp
theorem Emb.set1 (C:Emb) (a b c v:Value):(C.cells a b c).setIfInBounds (C.o+1) v=C.cells a v c:=by unfold Emb.cells Emb.o;simp
theorem Emb.set2 (C:Emb) (a b c v:Value):(C.cells a b c).setIfInBounds (C.o+2) v=C.cells a b v:=by unfold Emb.cells Emb.o;simp
structure LkM where
 mh:Option Nat
 mw:Option Nat
 ml:Option Nat
 lv:Int→Option Value
def LkM.own (M:LkM) (s b:Nat):Prop:=b=s∨M.mh=some b∨M.mw=some b∨M.ml=some b∨∃ k v,M.lv k=some v∧v.ownBlock=some b
structure Raw (C:Emb) (w:World) (s N:Nat) (M:LkM) (h wa:Int→Option Int) (ln:Int→List Int):Prop where
 blk:w.heap[s]?=some (.cells (C.cells (.map M.mh) (.map M.mw) (.map M.ml)) C.tt (0,0))
 mh:MapIs w M.mh N (fun k=>(h k).map (Value.int .i64))
 mw:MapIs w M.mw N (fun x=>(wa x).map (Value.int .i64))
 ml:MapIs w M.ml N M.lv
 ln0:∀ k,ln k=[]→M.lv k=none
 ln1:∀ k,ln k≠[]→∃ v,M.lv k=some v∧w.ownsRow 0 3 1 v (ln k).length (intsV (ln k))
 ap:∀ i j v u g,M.lv i=some v→M.lv j=some u→v.ownBlock=some g→u.ownBlock=some g→i=j
 d1:∀ b,M.mh=some b→M.mw≠some b∧M.ml≠some b
 d2:∀ b,M.mw=some b→M.ml≠some b
 both:M.mw=none↔M.ml=none
 len:∀ k,(ln k).length≤N
section
variable {C:Emb} {w w':World} {s N:Nat} {M:LkM} {h wa:Int→Option Int} {ln:Int→List Int}
theorem Raw.lt (r:Raw C w s N M h wa ln):s<w.heap.size:=(Array.getElem?_eq_some_iff.1 r.blk).1
theorem Raw.row (r:Raw C w s N M h wa ln) {k:Int} {v:Value} (hv:M.lv k=some v):ln k≠[]∧w.ownsRow 0 3 1 v (ln k).length (intsV (ln k)):=by
 by_cases e:ln k=[]
 ·rw [r.ln0 k e] at hv;cases hv
 ·obtain⟨u,hu,ho⟩:=r.ln1 k e
  rw [hv] at hu
  cases hu
  exact⟨e,ho⟩
theorem Raw.rowIs (r:Raw C w s N M h wa ln) {k:Int} {v:Value} {g:Nat} (hv:M.lv k=some v) (hg:v.ownBlock=some g):∃ cur,w.heap[g]?=some (.cells cur 3 (0,0)):=by
 rcases (r.row hv).2.2 with ⟨e,_⟩ | ⟨g',cap,cur,e,_,hc,_⟩
 ·rw [e] at hg;cases hg
 ·rw [e] at hg;cases hg;exact⟨cur,hc⟩
theorem Raw.row_ne (r:Raw C w s N M h wa ln) {k:Int} {v:Value} {g:Nat} (hv:M.lv k=some v) (hg:v.ownBlock=some g):g≠s∧M.mh≠some g∧M.mw≠some g∧M.ml≠some g:=by
 obtain⟨cur,hc⟩:=r.rowIs hv hg
 refine⟨?_,r.mh.ne hc,r.mw.ne hc,r.ml.ne hc⟩
 rintro rfl
 rw [r.blk] at hc
 injection hc with hc
 injection hc with _ hc
 exact C.ne hc
theorem Raw.map_ne (r:Raw C w s N M h wa ln):M.mh≠some s∧M.mw≠some s∧M.ml≠some s:=⟨r.mh.ne r.blk,r.mw.ne r.blk,r.ml.ne r.blk⟩
theorem Raw.own_lt (r:Raw C w s N M h wa ln) {b:Nat} (hb:M.own s b):b<w.heap.size:=by
 rcases hb with rfl | e | e | e | ⟨k,v,hv,hg⟩
 ·exact r.lt
 ·exact r.mh.lt e
 ·exact r.mw.lt e
 ·exact r.ml.lt e
 ·obtain⟨cur,hc⟩:=r.rowIs hv hg
  exact (Array.getElem?_eq_some_iff.1 hc).1
theorem Raw.same (r:Raw C w s N M h wa ln) (hs:∀ b,M.own s b→w'.heap[b]?=w.heap[b]?):Raw C w' s N M h wa ln :=
 ⟨(hs s (.inl rfl)).trans r.blk,r.mh.same (fun b e=>hs b (.inr (.inl e))),r.mw.same (fun b e=>hs b (.inr (.inr (.inl e)))),r.ml.same (fun b e=>hs b (.inr (.inr (.inr (.inl e))))),r.ln0,
  fun k hk=>by
   obtain⟨v,hv,ho⟩:=r.ln1 k hk
   exact⟨v,hv,owns_same ho (fun g hg=>hs g (.inr (.inr (.inr (.inr ⟨k,v,hv,hg⟩)))))⟩,r.ap,r.d1,r.d2,r.both,r.len⟩
theorem Raw.below (r:Raw C w s N M h wa ln) (hB:Below w.heap.size w w'):Raw C w' s N M h wa ln:=r.same (fun b hb=>hB.block b (r.own_lt hb))
theorem Raw.mono (r:Raw C w s N M h wa ln) {N':Nat} (hN:N≤N'):Raw C w s N' M h wa ln :=
 ⟨r.blk,r.mh.mono hN,r.mw.mono hN,r.ml.mono hN,r.ln0,r.ln1,r.ap,r.d1,r.d2,r.both,fun k=>Nat.le_trans (r.len k) hN⟩
theorem Raw.c0 (r:Raw C w s N M h wa ln):w.cell? ⟨s,C.o,none⟩=some (.map M.mh):=(cell_of_row w s C.o _ C.tt (0,0) r.blk).trans (C.get0 _ _ _)
theorem Raw.c1 (r:Raw C w s N M h wa ln):w.cell? ⟨s,C.o+1,none⟩=some (.map M.mw):=(cell_of_row w s (C.o+1) _ C.tt (0,0) r.blk).trans (C.get1 _ _ _)
theorem Raw.c2 (r:Raw C w s N M h wa ln):w.cell? ⟨s,C.o+2,none⟩=some (.map M.ml):=(cell_of_row w s (C.o+2) _ C.tt (0,0) r.blk).trans (C.get2 _ _ _)
theorem Raw.free (r:Raw C w s N M h wa ln) (o:Nat):w.frozen? ⟨s,o,none⟩=false:=by simp [World.frozen?,r.blk]
end
def noM:LkM:=⟨none,none,none,fun _=>none⟩
theorem Raw.zero {C:Emb} {w:World} {s:Nat} (h:w.heap[s]?=some (.cells (C.cells (.map none) (.map none) (.map none)) C.tt (0,0))):Raw C w s 0 noM (fun _=>none) (fun _=>none) (fun _=>[]) :=
 ⟨h,.inl ⟨rfl,fun _=>rfl⟩,.inl ⟨rfl,fun _=>rfl⟩,.inl ⟨rfl,fun _=>rfl⟩,fun _ _=>rfl,fun k hk=>(hk rfl).elim,(fun _ _ _ _ _ h=>by cases h),(fun _ h=>by cases h),(fun _ h=>by cases h),⟨fun _=>rfl,fun _=>rfl⟩,fun _=>by simp⟩
end Go.Proofs.YtjefgmeejhakbabGreatDoor
namespace Go.Proofs.YtjefgmeejhakbabGreatDoor
open Go.RowKit
variable {C:Emb}
section
variable {w:World} {s N:Nat} {M:LkM} {h wa:Int→Option Int} {ln:Int→List Int}
theorem Raw.lookH (r:Raw C w s N M h wa ln) {k:Int} (hk:I64 k):(Instr.lookup 131 (.map M.mh) (.int .i64 k) false).run Tryz.prog w=.ok (.int .i64 ((h k).getD 0)) w:=by
 have:=r.mh.look1 Tryz.underlying131 (zeroI w) hk
 rwa [getD_int] at this
theorem Raw.lookH2 (r:Raw C w s N M h wa ln) {k:Int} (hk:I64 k):(Instr.lookup 131 (.map M.mh) (.int .i64 k) true).run Tryz.prog w=.ok (.tuple #[.int .i64 ((h k).getD 0),.bool (h k).isSome]) w:=by
 have:=r.mh.look Tryz.underlying131 (zeroI w) hk
 rwa [getD_int,Option.isSome_map] at this
theorem Raw.lookW (r:Raw C w s N M h wa ln) {x:Int} (hx:I64 x):(Instr.lookup 131 (.map M.mw) (.int .i64 x) true).run Tryz.prog w=.ok (.tuple #[.int .i64 ((wa x).getD 0),.bool (wa x).isSome]) w:=by
 have:=r.mw.look Tryz.underlying131 (zeroI w) hx
 rwa [getD_int,Option.isSome_map] at this
theorem Raw.lookL (r:Raw C w s N M h wa ln) {k:Int} (hk:I64 k):(Instr.lookup 248 (.map M.ml) (.int .i64 k) false).run Tryz.prog w=.ok ((M.lv k).getD (.slice none 0 0)) w :=
 r.ml.look1 Tryz.underlying248 (zeroL w) hk
end
set_option maxHeartbeats 1000000 in
theorem holds_any (s N:Nat) (M:LkM) (h wa:Int→Option Int) (ln:Int→List Int) (k:Int) (w:World) (r:Raw C w s N M h wa ln) (hk:I64 k) :
  Calls Tryz.prog 200 #[.pointer (some ⟨s,C.o,none⟩),.int .i64 k] w fun e w'=>e=.returned (.int .i64 ((h k).getD 0))∧w'=w:=by
 have c0:=r.c0
 have hl:=r.lookH hk
 clear r
 go_enter Tryz.func200,Tryz.ntmps200
 go_wp2
 go_ret
 exact⟨rfl,rfl⟩
set_option maxHeartbeats 1000000 in
theorem waits_any (s N:Nat) (M:LkM) (h wa:Int→Option Int) (ln:Int→List Int) (x:Int) (w:World) (r:Raw C w s N M h wa ln) (hx:I64 x) :
  Calls Tryz.prog 201 #[.pointer (some ⟨s,C.o,none⟩),.int .i64 x] w fun e w'=>e=.returned (.int .i64 ((wa x).getD (-1)))∧w'=w:=by
 have c0:=r.c1
 have hl:=r.lookW hx
 clear r
 cases hw:wa x with
 | none =>
  rw [hw] at hl
  simp only [Option.getD_none,Option.isSome_none] at hl
  clear hw
  go_enter Tryz.func201,Tryz.ntmps201
  go_wp2
  go_ret
  exact⟨rfl,rfl⟩
 | some y =>
  rw [hw] at hl
  simp only [Option.getD_some,Option.isSome_some] at hl
  clear hw
  go_enter Tryz.func201,Tryz.ntmps201
  go_wp2
  go_ret
  exact⟨rfl,rfl⟩
end Go.Proofs.YtjefgmeejhakbabGreatDoor
namespace Go.Proofs.YtjefgmeejhakbabGreatDoor
open Go.RowKit
variable {C:Emb}
section
variable {w w1:World} {s N:Nat} {M:LkM} {h wa:Int→Option Int} {ln:Int→List Int}
theorem Raw.turnH (r:Raw C w s N M h wa ln) {b N':Nat} {h':Int→Option Int} (hb:M.mh=some b) (hN:N≤N') (hI:IMap w1 b N' (fun k=>(h' k).map (Value.int .i64))) (hg:w.grownBy w1 (some b)) :
  Raw C w1 s N' M h' wa ln∧KeptO (M.own s) (M.own s) w w1:=by
 have hk:∀ i,i<w.heap.size→i≠b→w1.heap[i]?=w.heap[i]?:=fun i hi hne=>hg.block i hi (fun e=>hne (by cases e;rfl))
 have hsb:s≠b:=fun e=>r.map_ne.1 (by rw [hb,e])
 refine⟨⟨(hk s r.lt hsb).trans r.blk,.inr ⟨b,hb,hI⟩,(r.mw.same (fun b' e=>hk b' (r.mw.lt e) (fun e2=>?_))).mono hN,(r.ml.same (fun b' e=>hk b' (r.ml.lt e) (fun e2=>?_))).mono hN,r.ln0,fun k hkn=>?_,r.ap,r.d1,r.d2,r.both,fun k=>Nat.le_trans (r.len k) hN⟩,?_⟩
 ·subst e2;exact (r.d1 _ hb).1 e
 ·subst e2;exact (r.d1 _ hb).2 e
 ·obtain⟨v,hv,ho⟩:=r.ln1 k hkn
  refine⟨v,hv,owns_same ho (fun g hgv=>hk g ?_ ?_)⟩
  ·obtain⟨cur,hc⟩:=r.rowIs hv hgv
   exact (Array.getElem?_eq_some_iff.1 hc).1
  ·rintro rfl;exact (r.row_ne hv hgv).2.1 hb
 ·exact⟨hg.os,hg.tape,hg.output,hg.size,fun i hi hn=>hk i hi (fun e=>hn (by subst e;exact .inr (.inl hb))),fun g hg=>.inl hg⟩
theorem Raw.newH (r:Raw C w s N M h wa ln) (hm:M.mh=none) :
  Raw C ((w.setCell ⟨s,C.o,none⟩ (.map (some w.heap.size))).alloc (.map #[] 0)) s N { M with mh:=some w.heap.size } h wa ln ∧
   KeptO (M.own s) (({ M with mh:=some w.heap.size }:LkM).own s) w ((w.setCell ⟨s,C.o,none⟩ (.map (some w.heap.size))).alloc (.map #[] 0)):=by
 have hsz:(w.setCell ⟨s,C.o,none⟩ (.map (some w.heap.size))).heap.size=w.heap.size:=by simp
 have hk:∀ i,i<w.heap.size→i≠s→((w.setCell ⟨s,C.o,none⟩ (.map (some w.heap.size))).alloc (.map #[] 0)).heap[i]?=w.heap[i]?:=fun i hi hne =>
  (Below.heap_alloc _ _ i (by simpa using hi)).trans (heap_setCell_other w ⟨s,C.o,none⟩ i _ hne)
 have hh:∀ k,h k=none:=by
  rcases r.mh with ⟨_,e⟩ | ⟨b,e,_⟩
  ·intro k;have:=e k;simpa using this
  ·rw [hm] at e;cases e
 refine⟨⟨?_,.inr ⟨w.heap.size,rfl,?_⟩,r.mw.same (fun b e=>hk b (r.mw.lt e) (fun e2=>r.map_ne.2.1 (by rw [e,e2]))),r.ml.same (fun b e=>hk b (r.ml.lt e) (fun e2=>r.map_ne.2.2 (by rw [e,e2]))),r.ln0,fun k hkn=>?_,r.ap,?_,r.d2,r.both,r.len⟩,?_⟩
 ·refine (Below.heap_alloc _ _ s (by simpa using r.lt)).trans ((heap_setCell_same w s C.o _ C.tt _ r.blk).trans ?_)
  rw [C.set0]
 ·have:=IMap.made (w.setCell ⟨s,C.o,none⟩ (.map (some w.heap.size)))
  rw [hsz] at this
  have e:(fun k=>(h k).map (Value.int .i64))=fun _=>none:=by funext k;rw [hh k];rfl
  rw [e]
  exact this.mono (Nat.zero_le _)
 ·obtain⟨v,hv,ho⟩:=r.ln1 k hkn
  refine⟨v,hv,owns_same ho (fun g hgv=>hk g ?_ (r.row_ne hv hgv).1)⟩
  obtain⟨cur,hc⟩:=r.rowIs hv hgv
  exact (Array.getElem?_eq_some_iff.1 hc).1
 ·intro b e
  cases e
  exact⟨fun e=>by have:=r.mw.lt e;omega,fun e=>by have:=r.ml.lt e;omega⟩
 ·refine⟨rfl,rfl,rfl,by simp,fun i hi hn=>hk i hi (fun e=>hn (.inl e)),fun g hg=>?_⟩
  rcases hg with e | e | e | e | e
  ·exact .inl (.inl e)
  ·cases e;exact .inr (Nat.le_refl _)
  ·exact .inl (.inr (.inr (.inl e)))
  ·exact .inl (.inr (.inr (.inr (.inl e))))
  ·exact .inl (.inr (.inr (.inr (.inr e))))
end
set_option maxRecDepth 100000 in
set_option maxHeartbeats 1000000 in
theorem hold_any (s N:Nat) (M:LkM) (h wa:Int→Option Int) (ln:Int→List Int) (tx k:Int) (w:World) (r:Raw C w s N M h wa ln) (hk:I64 k) (hN:N≤1000000) :
  Calls Tryz.prog 264 #[.pointer (some ⟨s,C.o,none⟩),.int .i64 tx,.int .i64 k] w fun e w'=>e=.returned (.tuple #[])∧∃ M',Raw C w' s (N+1) M' (updT h k (some tx)) wa ln∧KeptO (M.own s) (M'.own s) w w':=by
 cases hm:M.mh with
 | some b =>
  have c0:=r.c0
  have he:=eqlSome
  obtain⟨w1,hrun,hI,hg⟩:∃ w',_:=(MapIs.at (show MapIs w (some b) N _ from hm▸r.mh)).store Tryz.underlying131 (by unfold maxLen;omega) hk (.int .i64 tx)
  rw [hm] at c0
  have hF:=hid (r.turnH (h':=updT h k (some tx)) hm (Nat.le_succ N) (by rw [updT_map];exact hI) hg)
  clear r hI hg hm
  go_enter Tryz.func264,Tryz.ntmps264
  go_wp2
  refine bodyPost_end (results_none rfl _ _ _) rfl ?_
  exact⟨rfl,M,hF.out⟩
 | none =>
  have c0:=r.c0
  have he:=eqlNil
  have f0:=r.free C.o
  have hs:=r.lt
  rw [hm] at c0
  obtain⟨r1,k1⟩:=r.newH hm
  obtain⟨w1,hrun,hI,hg⟩:∃ w',_:=(MapIs.at (show MapIs _ (some w.heap.size) N _ from r1.mh)).store Tryz.underlying131 (by unfold maxLen;omega) hk (.int .i64 tx)
  have hF:=hid (r1.turnH (h':=updT h k (some tx)) rfl (Nat.le_succ N) (by rw [updT_map];exact hI) hg)
  have hK:=hid k1
  have hmm:=@run_makeMap Tryz.prog
  clear r r1 hI hg k1 hm
  go_enter Tryz.func264,Tryz.ntmps264
  go_wp2
  refine bodyPost_end (results_none rfl _ _ _) rfl ?_
  exact⟨rfl,_,hF.out.1,hK.out.trans hF.out.2⟩
end Go.Proofs.YtjefgmeejhakbabGreatDoor
namespace Go.Proofs.YtjefgmeejhakbabGreatDoor
open Go.RowKit
variable {C:Emb}
structure Rep (T:Tab) (h wa:Int→Option Int) (ln:Int→List Int):Prop where
 h:∀ k,h k=(T k).head?
 wa:∀ x,(wa x).getD (-1)=waitsP T x∧(wa x=none↔waitsP T x=-1)
 ln:∀ k,ln k=(T k).tail
theorem Rep.holds {T:Tab} {h wa:Int→Option Int} {ln:Int→List Int} (r:Rep T h wa ln) (k:Int):(h k).getD 0=holdsP T k:=by
 rw [r.h k,holdsP]
 cases T k<;>rfl
theorem Rep.waits {T:Tab} {h wa:Int→Option Int} {ln:Int→List Int} (r:Rep T h wa ln) (x:Int):(wa x).getD (-1)=waitsP T x:=(r.wa x).1
theorem waits_i64 (T:Tab) (x:Int):I64 (waitsP T x):=by
 rcases waits_cases T x with e | ⟨h1,h2⟩
 ·rw [e];unfold I64;omega
 ·unfold I64;omega
theorem holds_i64 {T:Tab} (h:Tidy0 T) (k:Int):I64 (holdsP T k):=by
 by_cases e:T k=[]
 ·rw [(holds_zero h).2 e];unfold I64;omega
 ·have:=h.pos k _ (head_mem e);unfold I64 holdsP;omega
section
variable {T:Tab} {h wa:Int→Option Int} {ln:Int→List Int}
theorem waitsR (s N:Nat) (M:LkM) (R:Rep T h wa ln) (x:Int) (w:World) (r:Raw C w s N M h wa ln) (hx:I64 x) :
  Calls Tryz.prog 201 #[.pointer (some ⟨s,C.o,none⟩),.int .i64 x] w fun e w'=>e=.returned (.int .i64 (waitsP T x))∧w'=w:=by
 have:=waits_any s N M h wa ln x w r hx
 rwa [R.waits] at this
theorem holdsR (s N:Nat) (M:LkM) (R:Rep T h wa ln) (k:Int) (w:World) (r:Raw C w s N M h wa ln) (hk:I64 k) :
  Calls Tryz.prog 200 #[.pointer (some ⟨s,C.o,none⟩),.int .i64 k] w fun e w'=>e=.returned (.int .i64 (holdsP T k))∧w'=w:=by
 have:=holds_any s N M h wa ln k w r hk
 rwa [R.holds] at this
end
set_option maxRecDepth 100000 in
set_option maxHeartbeats 2000000 in
theorem waitsFor_any (s N:Nat) (M:LkM) (h wa:Int→Option Int) (ln:Int→List Int) (T:Tab) (q:Int→Nat) (x tx:Int) (w:World) (r:Raw C w s N M h wa ln) (R:Rep T h wa ln) (ht:Tidy0 T) (hq:Ranked T q) (hx:I64 x) (hne:x≠tx) :
  Calls Tryz.prog 265 #[.pointer (some ⟨s,C.o,none⟩),.int .i64 x,.int .i64 tx] w fun e w'=>e=.returned (.bool (reachP T tx (q x+1) x))∧w'=w:=by
 obtain⟨A,hA⟩:∃ A,reachP T tx (q x+1) x=A:=⟨_,rfl⟩
 rw [hA]
 have HR:=hid r
 have HQ:=hid hq
 have HT:=hid ht
 have HP:=hid R
 clear r hq ht R
 go_enter Tryz.func265,Tryz.ntmps265
 go_wp2
 go_loop [1] (fun v=>∃ y:Int,v=.int .i64 y∧I64 y∧((y=tx∧A=true)∨(y≠tx∧∃ n,q y<n∧reachP T tx n y=A))) (fun v=>if intOf v=tx then 0 else q (intOf v)+1)
 case atStart=>exact⟨x,rfl,hx,.inr ⟨hne,q x+1,by omega,hA⟩⟩
 case round =>
  obtain⟨y,rfl,hy,hc⟩:=hrel
  rcases hc with ⟨e,rfl⟩ | ⟨hyt,n,hn,hr⟩
  ·have e1:(y != tx)=false:=by simp [e]
   clear e hA
   go_wp2
   go_ret
   exact⟨rfl,rfl⟩
  ·have e1:(y != tx)=true:=by simpa using hyt
   obtain⟨m,rfl⟩:∃ m,n=m+1:=⟨n-1,by omega⟩
   rw [reachP] at hr
   by_cases hw:waitsP T y<0
   ·rw [if_pos hw] at hr
    have hw1:waitsP T y=-1:=by rcases waits_cases T y with e | e<;>omega
    have HW:=hid hw1
    subst hr
    clear hA hw hw1
    go_wp2_with (go_at_call 201;refine (waitsR s N M HP.out y _ HR.out hy).mono ?_;rw [HW.out];rintro e w' ⟨rfl,rfl⟩)
    go_ret
    exact⟨rfl,rfl⟩
   ·rw [if_neg hw] at hr
    have hlt:=HQ.out _ _ (mem_of_waits (T:=T) (x:=y) (by omega))
    obtain⟨k,hk⟩:∃ k,waitsP T y=k:=⟨_,rfl⟩
    have hk64:=waits_i64 T y
    have hz64:=holds_i64 HT.out k
    rw [hk] at hr hw hk64 hlt
    have HW:=hid hk
    obtain⟨z,hz⟩:∃ z,holdsP T k=z:=⟨_,rfl⟩
    rw [hz] at hr hlt hz64
    have HZ:=hid hz
    have e2:(k==-1)=false:=by simp;omega
    have HRR:=hid hr
    have HA:=hid hA
    clear hk hz hw hr hA
    go_wp2_with (first
     | (go_at_call 201;refine (waitsR s N M HP.out y _ HR.out hy).mono ?_;rw [HW.out];rintro e w' ⟨rfl,rfl⟩)
     | (go_at_call 200;refine (holdsR s N M HP.out k _ HR.out hk64).mono ?_;rw [HZ.out];rintro e w' ⟨rfl,rfl⟩))
    go_round
    case rel =>
     refine⟨z,rfl,hz64,?_⟩
     by_cases hzt:z=tx
     ·left
      have:=HRR.out
      rw [if_pos hzt] at this
      exact⟨hzt,this.symm⟩
     ·right
      have:=HRR.out
      rw [if_neg hzt] at this
      exact⟨hzt,m,by omega,this⟩
    case measure =>
     by_cases hzt:z=tx
     ·simp only [intOf,hyt,hzt,if_false,if_true];omega
     ·simp only [intOf,hyt,hzt,if_false];omega
end Go.Proofs.YtjefgmeejhakbabGreatDoor
namespace Go.Proofs.YtjefgmeejhakbabGreatDoor
open Go.RowKit
theorem IMap.len {w:World} {b n:Nat} {f:Int→Option Value} (h:IMap w b n f) {t e:TypeId} (ht:Tryz.prog.underlying t=some (.map 3 e)) :
  ∃ k:Nat,k≤n∧(∀ ty,(Builtin.len_ #[t] ty #[.map (some b)]).run Tryz.prog w=.ok (.int .i64 k) w)∧(k=0↔∀ a,f a=none):=by
 obtain⟨D,h1,h2⟩:=h
 refine⟨Maps.size D,h1.size_le,fun ty=>h1.len ht ty,?_⟩
 obtain⟨es,clock,hb,F,hs,rfl⟩:=h1
 constructor
 ·intro h0 a
  have e0:=List.eq_nil_of_length_eq_zero h0
  have h3:=(h2 a).1
  rw [e0] at h3
  cases hf:f a with
  | none=>rfl
  | some v=>rw [hf] at h3;cases h3
 ·intro hn
  rcases Nat.eq_zero_or_pos es.size with e | e
  ·have:es=#[]:=Array.eq_empty_of_size_eq_zero e
   subst this
   rfl
  ·exfalso
   obtain⟨x,hx⟩:∃ x,x∈es.toList:=⟨es[0],by simp⟩
   obtain⟨v,hv⟩:=Maps.fit_keys F _ (List.mem_map.2 ⟨x,hx,rfl⟩)
   obtain⟨a,_,hk,_⟩:=Maps.keyOf_int_inv Tryz.underlying3 hv
   have h3:=(h2 a).1
   rw [hn a] at h3
   have h4:Maps.has (DataW.map ((es.toList.map (WideElems.rg Tryz.prog 3 anyElem)).foldr DataW.insert [])) (.int .i64 a)=true:=by
    rw [Maps.has_eq,List.any_eq_true]
    refine⟨_,(WideShapes.sorted_perm _).mem_iff.2 (List.mem_map.2 ⟨x,hx,rfl⟩),?_⟩
    rw [hk]
    simp [Lit.sameKey]
   rw [h4] at h3
   cases h3
theorem IMap.congr {w:World} {b n:Nat} {f g:Int→Option Value} (h:IMap w b n f) (e:∀ a,f a=g a):IMap w b n g:=(funext e:f=g)▸h
end Go.Proofs.YtjefgmeejhakbabGreatDoor
namespace Go.Proofs.YtjefgmeejhakbabGreatDoor
open Go.RowKit
def valN (v:Int):Nat:=(v%18446744073709551616).toNat
theorem valN_lt (v:Int):valN v<2 ^ 64:=by
 unfold valN
 have h1:=Int.emod_nonneg v (show (18446744073709551616:Int)≠0 by decide)
 have h2:=Int.emod_lt_of_pos v (show (0:Int)<18446744073709551616 by decide)
 omega
def wrB (p:Int × Int):List Int:=p.1::bytesN (valN p.2) 8
def headP (ws:List (Int × Int)):List Int:=(ws.length:Int)::ws.flatMap wrB
def sumN (l:List Int):Nat:=(sumP l).toNat
def recP (ws:List (Int × Int)):List Int:=headP ws++bytesN (sumN (headP ws)) 8
theorem wrB_len (p:Int × Int):(wrB p).length=9:=by unfold wrB;rw [List.length_cons,bytesN_len]
theorem flat_len9:∀ ws:List (Int × Int),(ws.flatMap wrB).length=9*ws.length
 | []=>rfl
 | p::r=>by
  rw [List.flatMap_cons,List.length_append,wrB_len,flat_len9 r,List.length_cons]
  omega
theorem headP_len (ws:List (Int × Int)):(headP ws).length=1+9*ws.length:=by
 unfold headP
 rw [List.length_cons,flat_len9]
 omega
theorem recP_len (ws:List (Int × Int)):(recP ws).length=9+9*ws.length:=by
 unfold recP
 rw [List.length_append,headP_len,bytesN_len]
 omega
theorem u64_mod (n:Int):IntKind.u64.wrap n=n%18446744073709551616:=by
 simp [IntKind.wrap,IntKind.bits,IntKind.signed]
theorem u64_bounds (n:Int):0≤IntKind.u64.wrap n∧IntKind.u64.wrap n<18446744073709551616:=by
 rw [u64_mod]
 exact⟨Int.emod_nonneg n (by decide),Int.emod_lt_of_pos n (by decide)⟩
theorem sumP_in (l:List Int):0≤sumP l∧sumP l<18446744073709551616:=by
 have key:∀ (l:List Int) (s:Int),(0≤s∧s<18446744073709551616)→0≤l.foldl sumStep s∧l.foldl sumStep s<18446744073709551616:=by
  intro l
  induction l with
  | nil=>intro s h;exact h
  | cons x r ih =>
   intro s _
   refine ih _ ?_
   unfold sumStep
   exact u64_bounds _
 exact key l 0 (by decide)
theorem headP_in (ws:List (Int × Int)) (hn:ws.length≤10) (hk:∀ p∈ws,0≤p.1∧p.1<10):∀ x∈headP ws,0≤x∧x<256:=fun x hx=>by
 rcases List.mem_cons.1 hx with rfl | hx
 ·omega
 ·obtain⟨p,hp,hx⟩:=List.mem_flatMap.1 hx
  rcases List.mem_cons.1 hx with rfl | hx
  ·have:=hk p hp;omega
  ·exact bytesN_in _ _ x hx
set_option maxRecDepth 100000 in
set_option maxHeartbeats 1000000 in
theorem record_any (wad:Option Addr) (wcap:Nat) (ws:List (Int × Int)) (w:World) (hn:ws.length≤10) (hk:∀ p∈ws,0≤p.1∧p.1<10) (hA:∀ (j:Nat) (a x:Int),ws[j]?=some (a,x)→∃ g off,wad=some ⟨g,off,none⟩∧g<w.heap.size∧w.cell? ⟨g,off+j*2,none⟩=some (.int .i64 a)∧w.cell? ⟨g,off+j*2+1,none⟩=some (.int .i64 x)) :
  Calls Tryz.prog 180 #[.slice wad ws.length wcap] w fun e w'=>∃ v',e=.returned v'∧w'.ownsRow w.heap.size 5 1 v' (recP ws).length (u8V (recP ws))∧Below w.heap.size w w':=by
 obtain⟨i0,hi0,hz0,hz1,hz2⟩:=info_parts info5
 have HA:=hid hA
 have HK:=hid hk
 clear hA hk
 go_enter Tryz.func180,Tryz.ntmps180
 go_wp2
 go_loopw [3,12] (fun tv jv wr=>∃ j:Nat,jv=.int .i64 j∧j≤ws.length∧Hid (wr.ownsRow w.heap.size 5 1 tv (1+9*j) (u8V ((ws.length:Int)::(ws.take j).flatMap wrB))∧Below w.heap.size w wr)) (fun _ jv _=>ws.length-(intOf jv).toNat)
 case atStart=>exact⟨0,rfl,Nat.zero_le _,⟨by simp [u8V],.inr ⟨w.heap.size,1,#[.int .u8 (ws.length:Int)],rfl,Nat.le_refl _,heap_alloc_new w _,by omega,by simp [maxLen],by simp,by simp [u8V]⟩⟩,(Below.refl _ w).alloc (Nat.le_refl _) _⟩
 case round =>
  obtain⟨j,rfl,hj,HX⟩:=hrel
  by_cases hlt:j<ws.length
  ·obtain⟨⟨a,x⟩,hax⟩:∃ p,ws[j]?=some p:=⟨_,List.getElem?_eq_getElem hlt⟩
   obtain⟨g,off,rfl,hg,c0,c1⟩:=HA.out j a x hax
   have hka:=HK.out (a,x) (List.mem_of_getElem? hax)
   simp only at hka
   have s0:=(HX.out.2.cell (p:=⟨g,off+j*2,none⟩) hg).trans c0
   have s1:=(HX.out.2.cell (p:=⟨g,off+j*2+1,none⟩) hg).trans c1
   have gj0:(0:Int)≤(j:Int):=by omega
   have gj1:(j:Int)<(ws.length:Int):=by omega
   have gka:IntKind.u8.wrap a=a:=IntWalk.u8_in a (by omega)
   have HO:=hid HX.out.1
   have hbs:=HX.out.2.size
   have hst:Hid (u8V ((ws.length:Int)::(ws.take (j+1)).flatMap wrB)=u8V ((ws.length:Int)::(ws.take j).flatMap wrB)++([.int .u8 a]++u8V (bytesN (valN x) 8))):=by
    show _=_
    rw [List.take_add_one,hax]
    simp [u8V,wrB]
   have hnew:((wr.alloc (.cells #[.int .i64 a,.int .i64 x] 122)).alloc (.cells #[.int .u8 a] 5)).heap[wr.heap.size+1]?=some (.cells #[.int .u8 a] 5 (0,0)):=by
    rw [show wr.heap.size+1=(wr.alloc (.cells #[.int .i64 a,.int .i64 x] 122)).heap.size by simp]
    exact heap_alloc_new _ _
   have hbox:∀ w2,((wr.alloc (.cells #[.int .i64 a,.int .i64 x] 122)).alloc (.cells #[.int .u8 a] 5)).grownBy w2 u3.ownBlock→w2.cell? ⟨wr.heap.size,1,none⟩=some (.int .i64 x)∧Below w.heap.size w w2:=fun w2 hgr=>by
    have hs2:((wr.alloc (.cells #[.int .i64 a,.int .i64 x] 122)).alloc (.cells #[.int .u8 a] 5)).heap.size=wr.heap.size+2:=by simp
    refine⟨?_,?_⟩
    ·rw [World.cell?_of_block (a:=⟨wr.heap.size,1,none⟩) (hgr.block wr.heap.size (by omega) (fun e=>by have:=(HO.out.lt _ e.symm).2;omega)),World.cell?_of_block (a:=⟨wr.heap.size,1,none⟩) (w:=wr.alloc (.cells #[.int .i64 a,.int .i64 x] 122)) (Below.heap_alloc _ _ _ (by simp))]
     exact (cell_of_row _ wr.heap.size 1 _ _ (0,0) (heap_alloc_new wr _)).trans rfl
    ·exact (((HX.out.2.alloc hbs _).alloc (by simp;omega) _)).grown hgr (by omega) (fun k e=>(HO.out.lt k e).1)
   have HBOX:=hid hbox
   have HLN:=hid (show (((ws.length:Int)::(ws.take j).flatMap wrB)++[a]).length=1+9*j+1 by rw [List.length_append,List.length_cons,flat_len9,List.length_take];simp;omega)
   have hval:IntKind.u64.wrap x=((valN x:Nat):Int):=by rw [u64_mod];unfold valN;have:=Int.emod_nonneg x (show (18446744073709551616:Int)≠0 by decide);omega
   clear c0 c1 hax hbox
   go_wp2_with (at_builtin;refine wpList_append_lies _ rfl _ _ _ rfl w.heap.size 5 i0 _ 1 1 Tryz.underlying39 hi0 hz0 hz1 hz2 rfl (by omega) u3 _ _ rfl ((HO.out.alloc _).alloc _) ⟨wr.heap.size+1,0,none⟩ 1 1 [.int .u8 a] rfl rfl (World.news_of_block (cs:=#[.int .u8 a]) (t:=5) (fr:=(0,0)) hnew) (by simp [Value.oneCell']) (by omega) (by unfold maxLen;omega) (by omega) (by simp;omega) (wr.heap.size+2) (by simp) ?_;intro g' cap' w2 ho hgrow hat hlt2;have d1:=(HBOX.out w2 hgrow).1)
   have HO2:=hid (show w2.ownsRow w.heap.size 5 1 (.slice (some ⟨g',0,none⟩) (1+9*j+1) cap') (((ws.length:Int)::(ws.take j).flatMap wrB)++[a]).length (u8V (((ws.length:Int)::(ws.take j).flatMap wrB)++[a])) by
    rw [u8V_append,HLN.out]
    exact ho)
   have HB2:=hid (HBOX.out w2 hgrow).2
   clear ho hgrow hat hlt2 d1 hnew
   refine (appendNumber_any _ (((ws.length:Int)::(ws.take j).flatMap wrB)++[a]) (valN x) w.heap.size w2 (by rw [HLN.out];omega) HB2.out.size HO2.out).mono ?_
   rintro e w3 ⟨v3,rfl,ho3,hB3⟩
   have HO3:=hid (show w3.ownsRow w.heap.size 5 1 v3 (1+9*(j+1)) (u8V ((ws.length:Int)::(ws.take (j+1)).flatMap wrB)) by
    have e1:((((ws.length:Int)::(ws.take j).flatMap wrB)++[a])++bytesN (valN x) 8).length=1+9*(j+1):=by
     rw [List.length_append,HLN.out,bytesN_len];omega
    rw [e1,u8V_append,u8V_append,List.append_assoc] at ho3
    rw [hst.out]
    exact ho3)
   have HB3:=hid (HB2.out.trans hB3)
   clear ho3 hB3
   go_wp2
   go_roundw
   case rel=>exact⟨j+1,by go_num,by omega,HO3.out,HB3.out⟩
   case measure=>simp [intOf];omega
  ·obtain rfl:j=ws.length:=by omega
   have gj1:¬ (ws.length:Int)<(ws.length:Int):=by omega
   rw [List.take_length] at HX
   have hln:(headP ws).length=1+9*ws.length:=headP_len ws
   have HO:=hid (show wr.ownsRow w.heap.size 5 1 u3 (headP ws).length (u8V (headP ws)) by rw [hln];exact HX.out.1)
   have HB:=hid HX.out.2
   have hin:=headP_in ws hn HK.out
   have hrec:recP ws=headP ws++bytesN (sumN (headP ws)) 8:=rfl
   have hsn:sumP (headP ws)=((sumN (headP ws):Nat):Int):=by
    unfold sumN
    have:=sumP_in (headP ws)
    omega
   obtain⟨sn,hsn2⟩:∃ sn,sumN (headP ws)=sn:=⟨_,rfl⟩
   rw [hsn2] at hrec hsn
   obtain⟨hd,hhd⟩:∃ hd,headP ws=hd:=⟨_,rfl⟩
   rw [hhd] at HO hln hin hrec hsn
   obtain⟨rad,rcap,hrf⟩:=row_form HO.out
   subst hrf
   have HSM:=hid (bsum_any rad rcap hd wr (by omega) (fun i y hy=>by
    refine⟨hin y (List.mem_of_getElem? hy),?_⟩
    rcases row_slice HO.out with ⟨_,e0⟩ | ⟨g,c,e,hg,hc⟩
    ·have:=(List.getElem?_eq_some_iff.1 hy).1;omega
    ·injection e with e1 e2 e3
     exact⟨g,0,e1,by rw [Nat.zero_add];exact hc _ _ (u8V_get hy)⟩))
   rw [hsn] at HSM
   have HREC:=hid hrec
   have HLH:=hid hln
   clear hsn HX hrec hsn2 hhd hln hin
   go_wp2_with fail
   refine HSM.out.mono ?_
   rintro e w2 ⟨rfl,hw2⟩
   rw [hw2]
   clear hw2 w2 HSM
   go_wp2_with fail
   refine (appendNumber_any _ hd sn w.heap.size wr (by have:=HLH.out;omega) HB.out.size HO.out).mono ?_
   rintro e w3 ⟨v3,rfl,ho3,hB3⟩
   have HF:=hid (And.intro ho3 (HB.out.trans hB3))
   clear ho3 hB3
   go_wp2
   go_ret
   exact⟨v3,rfl,by rw [HREC.out];exact HF.out⟩
end Go.Proofs.YtjefgmeejhakbabGreatDoor
namespace Go.Proofs.YtjefgmeejhakbabGreatDoor
open Go.RowKit Go.Extern.Stop Go.Stop Go.Extern
end Go.Proofs.YtjefgmeejhakbabGreatDoor
